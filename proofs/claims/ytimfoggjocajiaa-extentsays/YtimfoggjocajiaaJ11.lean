/- Joined: GeU, CoD, ExB, CoE, CoF, CoG, CoH, CoI. -/
import Derived.Test.YtimfoggjocajiaaJ10
import Derived.Test.YtimfoggjocajiaaJ4
import Derived.Deep.QuietTactic
import Derived.BigQuiet
import Derived.Test.YtimfoggjocajiaaJ9
import Derived.Test.YtimfoggjocajiaaJ5
import Derived.Deep.CutBlock
/- Contract: a group's Still. -/
namespace Go.Proofs.Ytimfoggjocajiaa
open Go.RowKit

theorem stab_prd {F : Nat → Prop} {l : Lk} {c : List Lk} (h : Whole F (l :: c)) (x : Pm) : Prd c x ↔ Prd (l :: c) x ∧ x.act l.base = l.base := by
  constructor
  · intro hx
    exact ⟨⟨(l.base, 1), h.1.first, x, hx, (Pm.one_mul x).symm⟩, prd_fix h.2.1 hx l.base (Or.inr rfl)⟩
  · rintro ⟨⟨e, he, p, hp, rfl⟩, hf⟩
    have hb := prd_fix h.2.1 hp l.base (Or.inr rfl)
    rw [Pm.act_mul, hb, h.1.brings e he] at hf
    have e1 : e.2 = 1 := tab_eq h.1.nodup (b := l.base) (by rw [← hf]; exact he) h.1.first
    rw [e1, Pm.one_mul]
    exact hp

/-- The bases, from a bell on. -/
def turned (bell n : Nat) : List Nat := (List.range n).map (fun j => (bell + j) % n)

theorem turned_len (bell n : Nat) : (turned bell n).length = n := by unfold turned; simp

theorem turned_at {bell n j c : Nat} (h : (turned bell n)[j]? = some c) : j < n ∧ c = (bell + j) % n := by
  have hj : j < n := by have := (List.getElem?_eq_some_iff.1 h).1; rw [turned_len] at this; exact this
  unfold turned at h
  rw [List.getElem?_map, List.getElem?_range hj] at h
  exact ⟨hj, (Option.some.inj h).symm⟩

theorem turned_mem {bell n b : Nat} (hb : bell < n) : b ∈ turned bell n ↔ b < n := by
  unfold turned
  rw [List.mem_map]
  constructor
  · rintro ⟨j, _, rfl⟩
    exact Nat.mod_lt _ (by omega)
  · intro h
    by_cases h' : bell ≤ b
    · exact ⟨b - bell, List.mem_range.2 (by omega), by rw [show bell + (b - bell) = b from by omega]; exact Nat.mod_eq_of_lt h⟩
    · exact ⟨b + n - bell, List.mem_range.2 (by omega), by rw [show bell + (b + n - bell) = b + n from by omega, Nat.add_mod_right]; exact Nat.mod_eq_of_lt h⟩

theorem packs_own {w : World} {B : Nat} {v : Value} {gs : List Pm} (h : w.ownsRow B 91 12 v gs.length (gcells gs)) : Packs w v gs := by
  by_cases h0 : gs.length = 0
  · have : gs = [] := List.length_eq_zero_iff.1 h0
    subst this
    obtain ⟨p, c, e⟩ := owns_slice12 h
    exact Or.inl ⟨rfl, p, c, e⟩
  · obtain ⟨p, c, e⟩ := owns_slice12 h
    have h' := h
    rw [e] at h'
    obtain ⟨b, hb, _, h1, h2⟩ := owns_some h' (by omega)
    subst hb
    refine Or.inr ⟨b, 0, c, e, by omega, h1, h2, (h'.lt b rfl).2, fun i q hi => ?_⟩
    intro j u hu
    have hj : j < 12 := by have := (List.getElem?_eq_some_iff.1 hu).1; rw [List.length_map, q.len] at this; exact this
    have h9 := h'.cells (g := b) rfl (i * 12 + j) _ (gcells_at gs i q hi j hj)
    rw [Addr.add_lit, Nat.zero_add] at h9
    rw [show 0 + i * 12 = i * 12 from by omega, h9, ← hu]
    simp [List.getD, q.len, hj]

theorem below_dr {w x : World} {B : Nat} (h : Below B w x) : Below B w x.drew := ⟨h.os, h.tape, h.output, h.size, h.block⟩

theorem below_dN (w : World) (n : Nat) : Below w.heap.size w (w.drewN n) := ⟨rfl, rfl, rfl, Nat.le_refl _, fun _ _ => rfl⟩

set_option maxRecDepth 20000 in
set_option maxHeartbeats 2000000 in
theorem still1_ok (bell n j b2 b3 g1 : Nat) (w : World) (h1 : 1 ≤ n) (h12 : n ≤ 12) (hb : bell < n) (hj : j < n) (c3 : w.cell? ⟨b3, 0, none⟩ = some (.int .i64 (bell : Int))) (c2 : w.cell? ⟨b2, 0, none⟩ = some (.pointer (some ⟨g1, 0, none⟩))) (c1 : w.cell? ⟨g1, 0, none⟩ = some (.int .i64 (n : Int))) :
    Calls Try.prog 97 #[.int .i64 (j : Int), .pointer (some ⟨b3, 0, none⟩), .pointer (some ⟨b2, 0, none⟩)] w fun e w' => e = .returned (.int .i64 (((bell + j) % n : Nat) : Int)) ∧ Below w.heap.size w w' := by
  have hm : ((bell : Int) + (j : Int)).tmod (n : Int) = (((bell + j) % n : Nat) : Int) := by rw [← Int.natCast_add]; rfl
  go_enter Try.func97, Try.ntmps97
  go_wp2
  go_quiet (fail)
  go_wp2
  go_ret
  exact ⟨by rw [← Int.natCast_add, ← Int.natCast_emod]; rfl, below_dN w nq⟩

theorem whole_head {F : Nat → Prop} {l : Lk} {c : List Lk} (h : Whole F (l :: c)) (x : Pm) : Prd (l :: c) x ↔ Gen (fun y => y ∈ l.gens) x := h.2.2 x

/-- What Still leaves. -/
def StPost (n : Nat) (gs : List Pm) (bell : Nat) (w : World) (e : Ending) (w' : World) : Prop :=
  ∃ v hs, e = .returned (.tuple #[v, .int .i64 0]) ∧ GroupAt w' v n hs ∧ (∀ x, Gen (fun y => y ∈ hs) x ↔ Gen (fun y => y ∈ gs) x ∧ x.act bell = bell) ∧ Below w.heap.size w w'

set_option maxRecDepth 20000 in
set_option maxHeartbeats 4000000 in
theorem still_ok (n bell : Nat) (v : Value) (gs : List Pm) (w : World) (h1 : 1 ≤ n) (h12 : n ≤ 12) (hb : bell < n) (hgs : gs.length ≤ 1000000) (hG : GroupAt w v n gs) :
    Calls Try.prog 52 #[v, .int .i64 (bell : Int)] w fun e w' => StPost n gs bell w e w' := by
  obtain ⟨g1, vg1, B1, c1, bs1, C1, st1, rfl, hg1, a10, a11, a12, hP1, hC1, hb1, rfl⟩ := hG
  have HFX : Hid (∀ s, s ∈ gs → Fixes (fun b => n ≤ b) s) := fun s hs => prd_fix hC1.whole ((hC1.gen s).2 (Gen.of hs))
  have HP := hide hP1
  obtain ⟨pp, pcap, rfl⟩ := hP1.form
  clear hP1 hC1 hb1 a12
  have hd0 : decide ((bell : Int) < 0) = false := decide_eq_false (by omega)
  have hd1 : decide ((n : Int) ≤ (bell : Int)) = false := decide_eq_false (by omega)
  have hBX : Below w.heap.size w ((w.alloc (.cells #[.pointer (some ⟨g1, 0, none⟩)] 24)).alloc (.cells #[.int .i64 (bell : Int)] 3)) := ((Below.refl _ _).alloc (Nat.le_refl _) _).alloc (by simp) _
  have k2 : ((w.alloc (.cells #[.pointer (some ⟨g1, 0, none⟩)] 24)).alloc (.cells #[.int .i64 (bell : Int)] 3)).cell? ⟨w.heap.size, 0, none⟩ = some (.pointer (some ⟨g1, 0, none⟩)) := by
    rw [cell_of_row _ w.heap.size 0 _ _ _ ((Below.heap_alloc _ _ _ (by simp)).trans (heap_alloc_new w _))]; rfl
  have k3 : ((w.alloc (.cells #[.pointer (some ⟨g1, 0, none⟩)] 24)).alloc (.cells #[.int .i64 (bell : Int)] 3)).cell? ⟨w.heap.size + 1, 0, none⟩ = some (.int .i64 (bell : Int)) := by
    have := heap_alloc_new (w.alloc (.cells #[.pointer (some ⟨g1, 0, none⟩)] 24)) (.cells #[.int .i64 (bell : Int)] 3)
    rw [show (w.alloc (.cells #[.pointer (some ⟨g1, 0, none⟩)] 24)).heap.size = w.heap.size + 1 from by simp] at this
    rw [cell_of_row _ (w.heap.size + 1) 0 _ _ _ this]; rfl
  have hsX : ((w.alloc (.cells #[.pointer (some ⟨g1, 0, none⟩)] 24)).alloc (.cells #[.int .i64 (bell : Int)] 3)).heap.size = w.heap.size + 2 := by simp
  go_enter Try.func52, Try.ntmps52
  go_wp2
  change Code.wp _ _ _ _ ((w.alloc (.cells #[.pointer (some ⟨g1, 0, none⟩)] 24)).alloc (.cells #[.int .i64 (bell : Int)] 3))
  generalize (w.alloc (.cells #[.pointer (some ⟨g1, 0, none⟩)] 24)).alloc (.cells #[.int .i64 (bell : Int)] 3) = X0 at *
  have k10 : X0.cell? ⟨g1, 0, none⟩ = some (.int .i64 (n : Int)) := (hBX.cell (p := ⟨g1, 0, none⟩) hg1).trans a10
  have k11 : X0.cell? ⟨g1, 1, none⟩ = some (.slice pp gs.length pcap) := (hBX.cell (p := ⟨g1, 1, none⟩) hg1).trans a11
  have HBX := hide hBX
  have HSX := hide hsX
  clear hBX hsX a10 a11
  go_quiet (fail)
  have hBX : Below w.heap.size w (X0.drewN nq) := HBX.out.trans ((below_dN X0 nq).mono HBX.out.size)
  have hsX : (X0.drewN nq).heap.size = w.heap.size + 2 := HSX.out
  have q2 : (X0.drewN nq).cell? ⟨w.heap.size, 0, none⟩ = some (.pointer (some ⟨g1, 0, none⟩)) := k2
  have q3 : (X0.drewN nq).cell? ⟨w.heap.size + 1, 0, none⟩ = some (.int .i64 (bell : Int)) := k3
  have q10 : (X0.drewN nq).cell? ⟨g1, 0, none⟩ = some (.int .i64 (n : Int)) := k10
  have q11 : (X0.drewN nq).cell? ⟨g1, 1, none⟩ = some (.slice pp gs.length pcap) := k11
  clear HBX HSX k2 k3 k10 k11
  generalize X0.drewN nq = X at *
  have HBX := hide hBX
  have HSX := hide hsX
  have HCs := hide q3
  clear hBX hsX
  go_wp2
  refine wp_region_held_drew (S := fun W' => W'.cell? ⟨w.heap.size, 0, none⟩ = some (.pointer (some ⟨g1, 0, none⟩)) ∧ W'.cell? ⟨g1, 0, none⟩ = some (.int .i64 (n : Int)) ∧ W'.cell? ⟨g1, 1, none⟩ = some (.slice pp gs.length pcap)) (by kernel_rfl) ⟨q2, q10, q11⟩ (fun hS => ?_)
  refine wpAnyH_take (i := 0) (v := .pointer (some ⟨g1, 0, none⟩)) rfl (by kernel_rfl) (by kernel_rfl) (by kernel_rfl) (fun _ _ _ h => h) (Or.inl ⟨by kernel_rfl, fun w' hS' => by obtain ⟨q2, q0, q1⟩ := hS'; go_simp⟩) hS ?_
  refine wpAnyH_take (i := 1) (v := .pointer (some ⟨g1, 0, none⟩)) rfl (by kernel_rfl) (by kernel_rfl) (by kernel_rfl) (fun _ _ _ h => h) (Or.inl ⟨by kernel_rfl, fun w' hS' => by clear hS'; go_simp⟩) hS ?_
  refine wpAnyH_take (i := 2) (v := .pointer (some ⟨g1, 0, none⟩)) rfl (by kernel_rfl) (by kernel_rfl) (by kernel_rfl) (fun _ _ _ h => h) (Or.inl ⟨by kernel_rfl, fun w' hS' => by clear hS'; go_simp⟩) hS ?_
  refine wpAnyH_take (i := 3) (v := .int .i64 (n : Int)) rfl (by kernel_rfl) (by kernel_rfl) (by kernel_rfl) (fun _ _ _ h => h) (Or.inl ⟨by kernel_rfl, fun w' hS' => by obtain ⟨q2, q0, q1⟩ := hS'; go_simp⟩) hS ?_
  refine wpAnyH_take (i := 4) (v := .pointer (some ⟨g1, 0, none⟩)) rfl (by kernel_rfl) (by kernel_rfl) (by kernel_rfl) (fun _ _ _ h => h) (Or.inl ⟨by kernel_rfl, fun w' hS' => by obtain ⟨q2, q0, q1⟩ := hS'; go_simp⟩) hS ?_
  refine wpAnyH_take (i := 5) (v := .pointer (some ⟨g1, 0, none⟩)) rfl (by kernel_rfl) (by kernel_rfl) (by kernel_rfl) (fun _ _ _ h => h) (Or.inl ⟨by kernel_rfl, fun w' hS' => by clear hS'; go_simp⟩) hS ?_
  refine wpAnyH_take (i := 6) (v := .pointer (some ⟨g1, 1, none⟩)) rfl (by kernel_rfl) (by kernel_rfl) (by kernel_rfl) (fun _ _ _ h => h) (Or.inl ⟨by kernel_rfl, fun w' hS' => by clear hS'; go_simp⟩) hS ?_
  refine wpAnyH_take (i := 7) (v := .slice pp gs.length pcap) rfl (by kernel_rfl) (by kernel_rfl) (by kernel_rfl) (fun _ _ _ h => h) (Or.inl ⟨by kernel_rfl, fun w' hS' => by obtain ⟨q2, q0, q1⟩ := hS'; go_simp⟩) hS ?_
  refine wpAnyH_take (i := 8) (v := .func (.func 97) #[] #[.pointer (some ⟨w.heap.size + 1, 0, none⟩), .pointer (some ⟨w.heap.size, 0, none⟩)]) rfl (by kernel_rfl) (by kernel_rfl) (by kernel_rfl) (fun _ _ _ h => h) (Or.inl ⟨by kernel_rfl, fun w' hS' => by clear hS'; go_simp⟩) hS ?_
  have HBase : Hid (∀ (j c : Nat) (W : World), (turned bell n)[j]? = some c → Below X.drew.heap.size X.drew W → Calls Try.prog 97 #[.int .i64 (j : Int), .pointer (some ⟨w.heap.size + 1, 0, none⟩), .pointer (some ⟨w.heap.size, 0, none⟩)] W fun e w' => e = .returned (.int .i64 (c : Int)) ∧ Below W.heap.size W w') := fun j c W hj hW => by
    obtain ⟨hj1, rfl⟩ := turned_at hj
    have hs : X.drew.heap.size = w.heap.size + 2 := HSX.out
    exact still1_ok bell n j _ _ g1 W h1 h12 hb hj1 ((hW.cell (p := ⟨w.heap.size + 1, 0, none⟩) (by show w.heap.size + 1 < _; omega)).trans q3) ((hW.cell (p := ⟨w.heap.size, 0, none⟩) (by show w.heap.size < _; omega)).trans q2) ((hW.cell (p := ⟨g1, 0, none⟩) (by show g1 < _; omega)).trans q10)
  have HN := hide (newChainT_ok n w.heap.size (w.heap.size + 1) (turned bell n) (.slice pp gs.length pcap) gs X.drew h1 h12 (HP.out.below (below_dr HBX.out) (Nat.le_refl _)) (by omega) HFX.out (turned_len bell n) (fun b hb' => by have := (turned_mem hb).1 hb'; omega) (fun b _ => by rcases Nat.lt_or_ge b n with h | h; exact Or.inr ((turned_mem hb).2 h); exact Or.inl h) HBase.out)
  refine wpAnyH_ready (rs := [9]) (by kernel_rfl) (by simp) ?_
  refine AllReadyH.cons rfl (fun K hK => ?_) AllReadyH.nil
  go_simp
  refine HN.out.mono ?_
  rintro e w5 ⟨g5, C5, st5, rfl, hC5, hb5⟩
  have hb5' : Below X.heap.size X w5 := undrew hb5
  have hlt2 : w.heap.size < X.heap.size := by have := HSX.out; omega
  have r2 : w5.cell? ⟨w.heap.size, 0, none⟩ = some (.pointer (some ⟨g1, 0, none⟩)) := (hb5'.cell (p := ⟨w.heap.size, 0, none⟩) hlt2).trans q2
  have r10 : w5.cell? ⟨g1, 0, none⟩ = some (.int .i64 (n : Int)) := (hb5'.cell (p := ⟨g1, 0, none⟩) (by show g1 < _; omega)).trans q10
  have r11 : w5.cell? ⟨g1, 1, none⟩ = some (.slice pp gs.length pcap) := (hb5'.cell (p := ⟨g1, 1, none⟩) (by show g1 < _; omega)).trans q11
  refine hK.out _ _ ⟨r2, r10, r11⟩ (fun hS => ?_)
  clear hK
  refine wpAnyH_take (i := 10) (v := .slice (some ⟨g5, 0, none⟩) n n) rfl (by kernel_rfl) (by kernel_rfl) (by kernel_rfl) (fun _ _ _ h => h) (Or.inl ⟨by kernel_rfl, fun w' hS' => by clear hS'; go_simp⟩) hS ?_
  refine wpAnyH_done (by kernel_rfl) ?_ _
  have HB5 : Hid (Below w.heap.size w w5) := HBX.out.trans (hb5'.mono HBX.out.size)
  have hl := hC5.len
  obtain ⟨l0, c5, rfl⟩ : ∃ l0 c5, C5 = l0 :: c5 := by
    cases C5 with
    | nil => simp at hl; omega
    | cons a t => exact ⟨a, t, rfl⟩
  have hbase0 : l0.base = bell := by
    have h0 : (turned bell n)[0]? = some l0.base := by rw [← hC5.bases]; rfl
    rw [(turned_at h0).2, Nat.add_zero, Nat.mod_eq_of_lt hb]
  have hst : ∀ x, Prd c5 x ↔ Gen (fun y => y ∈ gs) x ∧ x.act bell = bell := fun x => by
    rw [stab_prd hC5.whole x, hC5.gen x, hbase0]
  by_cases hn1 : n = 1
  · subst hn1
    have e5 : c5 = [] := List.length_eq_zero_iff.1 (by simpa using hl)
    subst e5
    have HST : Hid (∀ x, Gen (fun y => y ∈ ([] : List Pm)) x ↔ Gen (fun y => y ∈ gs) x ∧ x.act bell = bell) := fun x => by
      rw [← hst x]
      exact ⟨fun h => gen_none h, fun h => by rw [show x = 1 from h]; exact Gen.one⟩
    clear hst hC5 hbase0 hl hb5 hb5'
    go_wp2_with fail
    refine (generate_ok 1 (.slice none 0 0) [] w5 h1 h12 (Or.inl ⟨rfl, none, 0, rfl⟩) (by simp) (fun x hx => by cases hx)).mono ?_
    rintro e w9 ⟨v9, rfl, hG9, hb9⟩
    have HG9 := hide hG9
    have HB9 : Hid (Below w.heap.size w w9) := HB5.out.trans (hb9.mono HB5.out.size)
    clear hG9 hb9
    go_wp2
    go_ret2
    exact ⟨_, [], rfl, HG9.out, HST.out, HB9.out⟩
  · obtain ⟨l1, c6, rfl⟩ : ∃ l1 c6, c5 = l1 :: c6 := by
      cases c5 with
      | nil => simp at hl; omega
      | cons a t => exact ⟨a, t, rfl⟩
    have HST : Hid (∀ x, Gen (fun y => y ∈ l1.gens) x ↔ Gen (fun y => y ∈ gs) x ∧ x.act bell = bell) := fun x => by
      rw [← hst x]
      exact (hC5.whole.2.1.2.2 x).symm
    have lk := hC5.chain.link 1 (rawOf l1) rfl
    have hc3 : w5.cell? ⟨g5, 7, none⟩ = some (st5 1).vg := lk.c3
    have hPk : Packs w5 (st5 1).vg l1.gens := packs_own lk.gens
    have hgb := gens_bound (hC5.nd l1 (by simp))
    have h1212 : (12 : Nat) ^ 12 = 8916100448256 := by decide
    have HGB : Hid (l1.gens.length ≤ 8916100448256) := by show _ ≤ _; omega
    have HFX2 : Hid (∀ s, s ∈ l1.gens → Fixes (fun b => n ≤ b) s) := fun s hs b hb' => prd_fix hC5.whole.2.1 ((hC5.whole.2.1.2.2 s).2 (Gen.of hs)) b (Or.inl hb')
    obtain ⟨pg, cg, eg⟩ := hPk.form
    rw [eg] at hc3 hPk
    have HPk := hide hPk
    have hn2 : (1 : Int) < (n : Int) := by omega
    clear hst hC5 hbase0 hl hb5 hb5' lk hPk hgb h1212 eg
    go_wp2_with fail
    refine (generate_ok n (.slice pg l1.gens.length cg) l1.gens w5 h1 h12 HPk.out HGB.out HFX2.out).mono ?_
    rintro e w9 ⟨v9, rfl, hG9, hb9⟩
    have HG9 := hide hG9
    have HB9 : Hid (Below w.heap.size w w9) := HB5.out.trans (hb9.mono HB5.out.size)
    clear hG9 hb9
    go_wp2
    go_ret2
    exact ⟨_, l1.gens, rfl, HG9.out, HST.out, HB9.out⟩
end Go.Proofs.Ytimfoggjocajiaa

/- Contract: a coset table's mark. -/
namespace Go.Proofs.Ytimfoggjocajiaa
open Go.RowKit

theorem crow_back (n : Nat) (x : Pm) (v : Value) (w : World) (h1 : 1 ≤ n) (h12 : n ≤ 12) (hf : Fixes (fun b => n ≤ b) x) (h : Ints w v (cut n x)) :
    Calls Try.prog 115 #[v] w fun e w' => ∃ u, e = .returned (.tuple #[u, .int .i64 0]) ∧ w'.ownsRow w.heap.size 3 1 u n ((cut n x⁻¹).map (Value.int .i64)) ∧ Below w.heap.size w w' := by
  have hcl := cut_length h12 x
  have hcr := cut_row h12 hf
  refine (back_own v (cut n x) w h hcr (by omega) (by omega)).mono ?_
  rintro e w' ⟨u, zs, rfl, ho, hu, hb⟩
  have hz : zs = cut n x⁻¹ := by
    have h3 := isRow_undoes hcr hu
    have hl : zs.length = n := by rw [hu.1, hcl]
    have h4 := pad_undoes (by omega) hcr hu
    rw [pad_cut h12 hf] at h4
    rw [← h4, cut_pad h12 hl h3]
  rw [hz, hcl] at ho
  exact ⟨u, rfl, ho, hb⟩

theorem crow_times (n : Nat) (x y : Pm) (v v2 : Value) (w : World) (h1 : 1 ≤ n) (h12 : n ≤ 12) (hx : Fixes (fun b => n ≤ b) x) (hy : Fixes (fun b => n ≤ b) y) (h : Ints w v (cut n x)) (h2 : Ints w v2 (cut n y)) :
    Calls Try.prog 113 #[v, v2] w fun e w' => ∃ u, e = .returned (.tuple #[u, .int .i64 0]) ∧ w'.ownsRow w.heap.size 3 1 u n ((cut n (x * y)).map (Value.int .i64)) ∧ Below w.heap.size w w' := by
  have hcl := cut_length h12 x
  have hcl2 := cut_length h12 y
  have hcr := cut_row h12 hx
  have hcr2 := cut_row h12 hy
  refine (times_own v v2 (cut n x) (cut n y) w h h2 hcr hcr2 (by omega) (by omega) (by omega)).mono ?_
  rintro e w' ⟨u, rfl, ho, hb⟩
  rw [by_cut h12 hx hcr2 hcl2, pad_cut h12 hy, hcl] at ho
  exact ⟨u, rfl, ho, hb⟩

theorem crow_rank (n : Nat) (x : Pm) (v : Value) (w : World) (h1 : 1 ≤ n) (h12 : n ≤ 12) (hf : Fixes (fun b => n ≤ b) x) (h : Ints w v (cut n x)) :
    Calls Try.prog 117 #[v] w fun e w' => e = .returned (.tuple #[.int .i64 ((rkP n x : Nat) : Int), .int .i64 0]) ∧ Below w.heap.size w w' := by
  have hcl := cut_length h12 x
  have := rank_ok v (cut n x) w h (cut_row h12 hf) (by omega) (by omega)
  rwa [hcl] at this

/-- Which bell has been chosen among the first j. -/
structure FromOk (fs : Int → Option Value) (y : Pm) (k j f : Nat) : Prop where
  is : f = k ∨ (fs (f : Int)).isSome = true
  own : y.act f ≤ y.act k
  least : ∀ b, b < j → (fs (b : Int)).isSome = true → y.act f ≤ y.act b

theorem FromOk.start (fs : Int → Option Value) (y : Pm) (k : Nat) : FromOk fs y k 0 k := ⟨Or.inl rfl, Nat.le_refl _, fun b hb => by omega⟩

theorem FromOk.take {fs : Int → Option Value} {y : Pm} {k j f : Nat} (h : FromOk fs y k j f) (hs : (fs (j : Int)).isSome = true) (hl : y.act j < y.act f) : FromOk fs y k (j + 1) j :=
  ⟨Or.inr hs, by have := h.own; omega, fun b hb hb' => by
    by_cases e : b = j
    · rw [e]; exact Nat.le_refl _
    · have := h.least b (by omega) hb'; omega⟩

theorem FromOk.pass {fs : Int → Option Value} {y : Pm} {k j f : Nat} (h : FromOk fs y k j f) (hl : (fs (j : Int)).isSome = false ∨ y.act f ≤ y.act j) : FromOk fs y k (j + 1) f :=
  ⟨h.is, h.own, fun b hb hb' => by
    by_cases e : b = j
    · subst e
      rcases hl with hl | hl
      · rw [hl] at hb'; cases hb'
      · exact hl
    · exact h.least b (by omega) hb'⟩

set_option maxRecDepth 20000 in
set_option maxHeartbeats 8000000 in
theorem mark_ok (n m0 b k0 T : Nat) (vb vr : Value) (H : Pm → Prop) (fs : Nat → Int → Option Value) (x : Pm) (w : World) (h1 : 1 ≤ n) (h12 : n ≤ 12) (hH : Sub H) (hHf : ∀ h, H h → Fixes (fun b => n ≤ b) h) (hB : BrAt w vb n m0 H b fs k0) (hT : T < w.heap.size) (hc1 : w.cell? ⟨T, 1, none⟩ = some vb) (hx : Fixes (fun b => n ≤ b) x) (hI : Ints w vr (cut n x)) :
    Calls Try.prog 78 #[.pointer (some ⟨T, 0, none⟩), vr] w fun e w' => e = .returned (.int .i64 ((mkN H n x : Nat) : Int)) ∧ Below w.heap.size w w' := by
  have HB := hide hB
  have HH := hide hH
  have HHF := hide hHf
  have HXF := hide hx
  have hvb := hB.val
  subst hvb
  have HBk := hide (crow_back n x vr w h1 h12 hx hI)
  have hbl := hB.lt
  clear hB hH hHf hI
  go_enter Try.func78, Try.ntmps78
  go_wp2_with fail
  refine HBk.out.mono ?_
  rintro ex w1 ⟨u1, rfl, hown1, hb1⟩
  have hc1' := (hb1.cell (p := ⟨T, 1, none⟩) hT).trans hc1
  have HMS := hide (MinTo.start HH.out x)
  have HFI := hide ((fixes_sub (fun b => n ≤ b)).inv hx)
  have HO1 := hide hown1
  have HB1 := hide hb1
  clear hown1 hb1 HBk hc1 hx
  go_wp2
  go_loopw [5, 25] (fun sl si wr => ∃ (k : Nat) (u : Value) (y : Pm), k ≤ n ∧ sl = u ∧ si = .int .i64 k ∧ Hid (MinTo H k x y) ∧ Hid (Fixes (fun b => n ≤ b) y) ∧ wr.ownsRow w.heap.size 3 1 u n ((cut n y).map (Value.int .i64)) ∧ Below w.heap.size w wr) (fun _ si _ => n - (intOf si).toNat)
  case atStart => exact ⟨0, _, _, Nat.zero_le _, rfl, rfl, HMS, HFI, HO1.out, HB1.out⟩
  case round =>
    clear HO1 HB1 HMS HFI
    obtain ⟨k, u, y, hk, rfl, rfl, hM, hyf, hown, hbw⟩ := hrel
    obtain ⟨ug, uc, eu, hu1, hu2, hu3, hu4⟩ := owns_form hown h1
    by_cases hkn : k < n
    · have hcm := (hbw.cell (p := ⟨b, k, none⟩) hbl).trans (HB.out.row k hkn)
      obtain ⟨wo, hwo⟩ : ∃ wo, wo = wr := ⟨_, rfl⟩
      subst hwo
      subst eu
      have HO := hide hown
      have HBW := hide hbw
      have HYC : Hid (∀ W, Below wo.heap.size wo W → ∀ j, j < n → W.cell? ⟨ug, j, none⟩ = some (.int .i64 ((y.act j : Nat) : Int))) := fun W hW j hj => by
        have h9 := (owns_cell hown hj).1
        rw [cut_get y h12 hj] at h9
        exact (hW.cell (p := ⟨ug, j, none⟩) hu2).trans h9
      have HMP : Hid (∀ W, Below wo.heap.size wo W → IMap W (m0 + k) k0 (fs k)) := fun W hW => ((HB.out.later hbw).later hW).maps k hkn
      clear hown hbw
      go_wp2
      go_loopw [9, 33] (fun sf sj wr => ∃ (j f : Nat), j ≤ n ∧ f < n ∧ sf = .int .i64 f ∧ sj = .int .i64 j ∧ Hid (FromOk (fs k) y k j f) ∧ Below wo.heap.size wo wr) (fun _ sj _ => n - (intOf sj).toNat)
      case atStart => exact ⟨0, k, Nat.zero_le _, hkn, rfl, rfl, FromOk.start (fs k) y k, Below.refl _ _⟩
      case round =>
        obtain ⟨j, f, hj, hfn, rfl, rfl, hF, hbi⟩ := hrel
        have hbs := hbi.size
        by_cases hjn : j < n
        · have hcj := HYC.out wr hbi j hjn
          have hcf := HYC.out wr hbi f hfn
          have hlk := (HMP.out wr hbi).look_ok Try.underlying145 (Try.zero23 wr) (a := (j : Int)) (by omega) (by omega)
          have hDN : Hid (∀ q, Below wo.heap.size wo (wr.drewN q)) := fun q => hbi.trans ((below_dN wr q).mono hbs)
          cases hs : (fs k (j : Int)).isSome with
          | false =>
            have HF2 := hide (hF.out.pass (Or.inl hs))
            have hv : (fs k (j : Int)).getD (.slice none 0 0) = .slice none 0 0 := by
              cases hq : fs k (j : Int) with
              | none => rfl
              | some q => rw [hq] at hs; cases hs
            rw [hs, hv] at hlk
            clear hs hF hv hbi
            go_wp2
            go_quiet (fail)
            go_wp2
            go_roundw
            case rel =>
              have hfin : ∃ (j' f' : Nat), j' ≤ n ∧ f' < n ∧ Value.int .i64 (f : Int) = .int .i64 (f' : Int) ∧ Value.int .i64 ((j : Int) + 1) = .int .i64 (j' : Int) ∧ Hid (FromOk (fs k) y k j' f') ∧ Below wo.heap.size wo (wr.drewN nq) := ⟨j + 1, f, hjn, hfn, rfl, by go_num, HF2, hDN.out _⟩
              first
                | exact hfin
                | ((repeat apply Exists.intro); exact ⟨hfin, rfl⟩)
            case measure => simp [intOf]; omega
          | true =>
            obtain ⟨q, hq⟩ : ∃ q, fs k (j : Int) = some q := Option.isSome_iff_exists.1 hs
            have hv : (fs k (j : Int)).getD (.slice none 0 0) = q := by rw [hq]; rfl
            rw [hs, hv] at hlk
            by_cases hl : y.act j < y.act f
            · have HF2 := hide (hF.out.take hs hl)
              have hd : decide (((y.act j : Nat) : Int) < ((y.act f : Nat) : Int)) = true := decide_eq_true (by omega)
              have hdI : ((y.act j : Nat) : Int) < ((y.act f : Nat) : Int) := by omega
              clear hs hF hv hbi hq hl
              generalize y.act j = aj at *
              generalize y.act f = af at *
              go_wp2
              go_quiet (fail)
              go_wp2
              go_roundw
              case rel =>
                have hfin : ∃ (j' f' : Nat), j' ≤ n ∧ f' < n ∧ Value.int .i64 (j : Int) = .int .i64 (f' : Int) ∧ Value.int .i64 ((j : Int) + 1) = .int .i64 (j' : Int) ∧ Hid (FromOk (fs k) y k j' f') ∧ Below wo.heap.size wo (wr.drewN nq) := ⟨j + 1, j, hjn, hjn, rfl, by go_num, HF2, hDN.out _⟩
                first
                  | exact hfin
                  | ((repeat apply Exists.intro); exact ⟨hfin, rfl⟩)
              case measure => simp [intOf]; omega
            · have HF2 := hide (hF.out.pass (Or.inr (by omega)))
              have hd : decide (((y.act j : Nat) : Int) < ((y.act f : Nat) : Int)) = false := decide_eq_false (by omega)
              have hdI : ¬ ((y.act j : Nat) : Int) < ((y.act f : Nat) : Int) := by omega
              clear hs hF hv hbi hq hl
              generalize y.act j = aj at *
              generalize y.act f = af at *
              go_wp2
              go_quiet (fail)
              go_wp2
              go_roundw
              case rel =>
                have hfin : ∃ (j' f' : Nat), j' ≤ n ∧ f' < n ∧ Value.int .i64 (f : Int) = .int .i64 (f' : Int) ∧ Value.int .i64 ((j : Int) + 1) = .int .i64 (j' : Int) ∧ Hid (FromOk (fs k) y k j' f') ∧ Below wo.heap.size wo (wr.drewN nq) := ⟨j + 1, f, hjn, hfn, rfl, by go_num, HF2, hDN.out _⟩
                first
                  | exact hfin
                  | ((repeat apply Exists.intro); exact ⟨hfin, rfl⟩)
              case measure => simp [intOf]; omega
        · obtain rfl : n = j := by omega
          have hB2 : Below w.heap.size w wr := HBW.out.trans (hbi.mono HBW.out.size)
          have HLST : Hid (∀ d, Low H k d → y.act f ≤ y.act (d.act k)) := fun d hd => by
            by_cases e : d.act k = k
            · rw [e]; exact hF.out.own
            · obtain ⟨q, hq⟩ := HB.out.full k hkn d hd e
              exact hF.out.least _ (fix_lt (HHF.out d hd.1) hkn) (by rw [hq]; rfl)
          by_cases hfk : f = k
          · have HM2 : Hid (MinTo H (k + 1) x y) := hM.out.stay (fun d hd => by have := HLST.out d hd; rw [hfk] at this; exact this)
            have HO2 := hide (owns_below HO.out hbi (Nat.le_refl _))
            have HB2 := hide hB2
            have hfkb : ((f : Int) != (k : Int)) = false := by rw [hfk]; simp
            have hfkI : (f : Int) = (k : Int) := by omega
            clear hfk hF hbi hB2 hfkI
            go_wp2
            go_roundw
            case rel =>
              have hfin : ∃ (k' : Nat) (u : Value) (y : Pm), k' ≤ n ∧ Value.slice (some ⟨ug, 0, none⟩) n uc = u ∧ Value.int .i64 ((k : Int) + 1) = .int .i64 (k' : Int) ∧ Hid (MinTo H k' x y) ∧ Hid (Fixes (fun b => n ≤ b) y) ∧ wr.ownsRow w.heap.size 3 1 u n ((cut n y).map (Value.int .i64)) ∧ Below w.heap.size w wr := ⟨k + 1, _, y, hkn, rfl, by go_num, HM2, hyf, HO2.out, HB2.out⟩
              first
                | exact hfin
                | ((repeat apply Exists.intro); exact ⟨hfin, rfl⟩)
            case measure => simp [intOf]; omega
          · have hsm : (fs k (f : Int)).isSome = true := hF.out.is.resolve_left hfk
            obtain ⟨q, hq⟩ : ∃ q, fs k (f : Int) = some q := Option.isSome_iff_exists.1 hsm
            obtain ⟨c, hc, hcf, hcn, hcI⟩ := HB.out.sound k hkn _ q hq
            have hcf' : f = c.act k := by omega
            have hlk := (HMP.out wr hbi).look Try.underlying145 (Try.zero23 wr) (a := (f : Int)) (by omega) (by omega)
            rw [hq] at hlk
            have hlk : (Instr.lookup 145 (.map (some (m0 + k))) (.int .i64 (f : Int)) false).run Try.prog wr = .ok q wr := hlk
            have HM2 : Hid (MinTo H (k + 1) x (y * c)) := hM.out.step HH.out hc (fun d hd => by rw [← hcf']; exact HLST.out d hd)
            have HF2 : Hid (Fixes (fun b => n ≤ b) (y * c)) := (fixes_sub _).mul hyf.out (HHF.out c hc.1)
            have HTm := hide (crow_times n y c (.slice (some ⟨ug, 0, none⟩) n uc) q wr h1 h12 hyf.out (HHF.out c hc.1) (Ints.own (owns_below HO.out hbi (Nat.le_refl _))) (hcI.below hB2))
            have HB2 := hide hB2
            have hfkb : ((f : Int) != (k : Int)) = true := by rw [bne_iff_ne]; omega
            have hfkI : ¬ (f : Int) = (k : Int) := by omega
            clear hsm hq hc hcf hcn hcI hcf' hF hfk hbi hB2 HLST
            go_wp2_with fail
            refine HTm.out.mono ?_
            rintro ex w9 ⟨u9, rfl, hown9, hb9⟩
            have HB9 := hide (HB2.out.trans (hb9.mono HB2.out.size))
            have HO9 := hide (owns_base hown9 HB2.out.size)
            clear hown9 hb9 HTm hlk
            go_wp2
            go_roundw
            case rel =>
              have hfin : ∃ (k' : Nat) (u : Value) (y : Pm), k' ≤ n ∧ u9 = u ∧ Value.int .i64 ((k : Int) + 1) = .int .i64 (k' : Int) ∧ Hid (MinTo H k' x y) ∧ Hid (Fixes (fun b => n ≤ b) y) ∧ w9.ownsRow w.heap.size 3 1 u n ((cut n y).map (Value.int .i64)) ∧ Below w.heap.size w w9 := ⟨k + 1, _, y * c, hkn, rfl, by go_num, HM2, HF2, HO9.out, HB9.out⟩
              first
                | exact hfin
                | ((repeat apply Exists.intro); exact ⟨hfin, rfl⟩)
            case measure => simp [intOf]; omega
    · obtain rfl : n = k := by omega
      subst eu
      have hrk : rkP n y = mkN H n x := mkN_of HH.out HHF.out hM.out.of
      have HRk := hide (crow_rank n y _ wr h1 h12 hyf.out (Ints.own hown))
      rw [hrk] at HRk
      have HB2 := hide hbw
      clear hrk hown hbw hM
      go_wp2_with fail
      refine HRk.out.mono ?_
      rintro ex w9 ⟨rfl, hb9⟩
      have HB9 := hide (HB2.out.trans (hb9.mono HB2.out.size))
      clear hb9
      go_wp2
      go_ret
      exact ⟨rfl, HB9.out⟩

end Go.Proofs.Ytimfoggjocajiaa

/- Contracts: extent.led over the rows of a group; slices.Sort, which writes one block alone. -/
namespace Go.Proofs.Ytimfoggjocajiaa
open Go.RowKit Go.Shelf Go.Lib Go.Sort

/-- Rows of a group, in order. -/
structure Rws (n : Nat) (G : Pm → Prop) (X : List Pm) : Prop where
  one : 1 ≤ n
  twelve : n ≤ 12
  sub : Sub G
  fix : ∀ x, G x → Fixes (fun b => n ≤ b) x
  nodup : X.Nodup
  mem : ∀ x, x ∈ X ↔ G x
  sorted : X.Pairwise (fun a b => 0 ≤ lcmp b.l a.l)
  few : X.length ≤ 1000

theorem Rws.pos {n : Nat} {G : Pm → Prop} {X : List Pm} (h : Rws n G X) : 1 ≤ X.length := List.length_pos_of_mem ((h.mem 1).2 h.sub.one)

theorem Rws.cls {n : Nat} {G : Pm → Prop} {X : List Pm} (h : Rws n G X) {c : Pm} (hc : G c) : Cls X c := fun p hp => (h.mem _).2 (h.sub.mul ((h.mem p).1 hp) hc)

theorem Rws.mono {n : Nat} {G : Pm → Prop} {X : List Pm} (h : Rws n G X) (a b : Nat) (hab : a < b) (hb : b < (X.map (cut n)).length) : lcmp ((X.map (cut n)).getD a []) ((X.map (cut n)).getD b []) < 0 := by
  have h1 := cut_rising h.twelve (fun x hx => h.fix x ((h.mem x).1 hx)) h.nodup h.sorted
  have h2 := List.pairwise_iff_getElem.1 h1 a b (by omega) hb hab
  rw [blw_lcmp] at h2
  rw [show (X.map (cut n)).getD a [] = (X.map (cut n))[a]'(by omega) from by rw [List.getD, List.getElem?_eq_getElem (by omega)]; rfl, show (X.map (cut n)).getD b [] = (X.map (cut n))[b] from by rw [List.getD, List.getElem?_eq_getElem hb]; rfl]
  exact of_decide_eq_true h2

theorem Rws.at {n : Nat} {X : List Pm} {i : Nat} {p : Pm} (h : X[i]? = some p) : (X.map (cut n)).getD i [] = cut n p := by rw [List.getD, List.getElem?_map, h]; rfl

set_option maxRecDepth 20000 in
set_option maxHeartbeats 4000000 in
theorem led_any (n : Nat) (G : Pm → Prop) (X : List Pm) (c : Pm) (v1 v2 : Value) (w : World) (hR : Rws n G X) (hc : G c) (hX : IntsAll w v1 (X.map (cut n))) (hI : Ints w v2 (cut n c)) :
    Calls Try.prog 121 #[v1, v2] w fun e w' => ∃ u, e = .returned u ∧ w'.ownsRow w.heap.size 3 1 u X.length ((mv X c).map (Value.int .i64)) ∧ Below w.heap.size w w' := by
  obtain ⟨i0, hi, hz0, hz1, hz2⟩ := info_parts Try.info3
  have h1 := hR.one
  have h12 := hR.twelve
  have hpos := hR.pos
  have hfew := hR.few
  obtain ⟨b, off, cap, hve, hbl, hc1, hc2, hcell⟩ := hX.cell (by rw [List.length_map]; exact hpos)
  rw [List.length_map] at hve hc1 hcell
  subst hve
  obtain ⟨cp, cc, ec⟩ := hI.form
  rw [cut_length h12] at ec
  subst ec
  have HX := hide hX
  have HI := hide hI
  have HCE := hide hcell
  have HR := hide hR
  have HC := hide hc
  clear hX hI hcell hR hc
  generalize hF : X.length = N at *
  have HF := hide hF
  clear hF
  go_enter Try.func121, Try.ntmps121
  go_wp2_with (at_make; refine wpList_make_full _ rfl _ _ 23 rfl w.heap.size 3 i0 (.int .i64 0) 1 Try.underlying23 hi hz0 hz1 _ _ _ _ N rfl rfl (by omega) (by omega) ?b2 ?b3 (Nat.le_refl _) ?_)
  case b2 => rw [hz2]; omega
  case b3 => unfold maxLen; omega
  intro w0 hown0 hgrow0
  rw [made_ints] at hown0
  have HO0 := hide hown0
  have hB0 : Below w.heap.size w w0 := (Below.refl _ _).grown hgrow0 (Nat.le_refl _) (fun k h => by cases h)
  clear hown0 hgrow0
  go_wp2
  go_loopw [15] (fun i wr => ∃ (k : Nat) (zs : List Int), k ≤ N ∧ i = .int .i64 k ∧ Hid (wr.ownsRow w.heap.size 3 1 (.slice (some ⟨w.heap.size, 0, none⟩) N N) N (zs.map (Value.int .i64))) ∧ Hid (zs.length = N ∧ ∀ j, j < k → zs.getD j 0 = (mv X c).getD j 0) ∧ Below w.heap.size w wr) (fun i _ => N - (intOf i).toNat)
  case atStart => exact ⟨0, _, by omega, rfl, HO0, ⟨by simp, fun j hj => absurd hj (by omega)⟩, hB0⟩
  case round =>
    clear HO0 hB0
    obtain ⟨k, zs, hk, rfl, hO, hZ, hbw⟩ := hrel
    have hbs := hbw.size
    by_cases hlt : k < N
    · obtain ⟨p, hp⟩ : ∃ p, X[k]? = some p := ⟨_, List.getElem?_eq_getElem (by rw [HF.out]; exact hlt)⟩
      obtain ⟨px, q, hcx, hix⟩ := HCE.out k hlt
      rw [Rws.at hp, cut_length h12] at hcx hix
      have gx : wr.cell? ⟨b, off + k, none⟩ = some (.slice px n q) := (hbw.cell (p := ⟨b, off + k, none⟩) (by exact hbl)).trans hcx
      have hpG := (HR.out.mem p).1 (List.mem_of_getElem? hp)
      have HT := hide (crow_times n p c (.slice px n q) (.slice cp n cc) wr h1 h12 (HR.out.fix p hpG) (HR.out.fix c HC.out) (hix.out.below hbw) (HI.out.below hbw))
      have hpc : p * c ∈ X := HR.out.cls HC.out p (List.mem_of_getElem? hp)
      have HPC := hide hpc
      have HMV : Hid ((mv X c).getD k 0 = ((ix X (p * c) : Nat) : Int)) := by show _ = _; rw [List.getD, mv_get hp]; rfl
      clear hcx hix hpG hp hpc
      go_wp2_with fail
      refine HT.out.mono ?_
      rintro e w1 ⟨tv, rfl, htv, hb1⟩
      have hB1 := hbw.trans (hb1.mono hbs)
      have hrl := ix_lt HPC.out
      have HB := hide (bsf_ok (.slice (some ⟨b, off, none⟩) N cap) tv (X.map (cut n)) (cut n (p * c)) (ix X (p * c)) n w1 (HX.out.below hB1) (Ints.own htv) (by rw [List.length_map]; exact hrl) (Rws.at (ix_get HPC.out)) (fun a ha => by
        have ha' : a < X.length := by rw [List.length_map] at ha; exact ha
        rw [Rws.at (List.getElem?_eq_getElem ha'), cut_length h12]) h1 (by rw [List.length_map, HF.out]; omega) (fun a b' hab hb' => HR.out.mono a b' hab hb'))
      have HO1 := hide (owns_below hO.out hb1 (Nat.le_refl _))
      obtain ⟨tp, tc, rfl⟩ := owns_slice htv
      rw [HF.out] at hrl
      have hS := HO1.out
      obtain ⟨y, hy, hcy, hfy⟩ := owns_cellAt hS hlt
      have hset := fun u => owns_set_int (m := k) hS u
      have HSet := hide hset
      generalize hrk : ix X (p * c) = r at *
      clear hb1 hbw hO HT htv hset hS hy hrk
      go_wp2_with fail
      refine HB.out.mono ?_
      rintro e w' ⟨rfl, rfl⟩
      have HZ : Hid ((zs.set k (r : Int)).length = N ∧ ∀ j, j < k + 1 → (zs.set k (r : Int)).getD j 0 = (mv X c).getD j 0) := by
        refine ⟨by rw [List.length_set]; exact hZ.out.1, fun j hj => ?_⟩
        rw [getD_set (by have := hZ.out.1; omega)]
        split
        · rename_i e; rw [← e, HMV.out]
        · exact hZ.out.2 j (by omega)
      clear hZ
      go_wp2
      go_roundw
      case rel => exact ⟨k + 1, _, by omega, by go_num, HSet.out _, HZ, hB1.setCell (Nat.le_refl _) _⟩
      case measure => simp [intOf]; omega
    · have HE : Hid (zs = mv X c) := by
        refine ext_getD (by rw [hZ.out.1, mv_length, HF.out]) (fun j hj => ?_)
        exact hZ.out.2 j (by have := hZ.out.1; omega)
      have HO : Hid (wr.ownsRow w.heap.size 3 1 (.slice (some ⟨w.heap.size, 0, none⟩) N N) N ((mv X c).map (Value.int .i64))) := by rw [← HE.out]; exact hO.out
      clear hO hZ HE
      go_wp2
      go_ret
      exact ⟨_, rfl, HO.out, hbw⟩

theorem sortI_in (base : Nat) (v : Value) (zs : List Int) (w : World) (ho : w.ownsRow base 3 1 v zs.length (zs.map (Value.int .i64))) (h1 : 1 ≤ zs.length) (h2 : zs.length ≤ 1000) :
    Calls Try.prog 122 #[v] w fun e w' => e = .returned (.tuple #[]) ∧ w'.ownsRow base 3 1 v zs.length ((zs.mergeSort (fun x y => decide (x ≤ y))).map (Value.int .i64)) ∧ w.grownBy w' v.ownBlock := by
  have hown := ho
  rcases ho.2 with ⟨_, h0⟩ | ⟨g, cap, cur, hu, hgb, hh, hc1, hc2, hcs, hct⟩
  · omega
  have hg := (Array.getElem?_eq_some_iff.1 hh).1
  subst hu
  have hH : Holds (Value.int .i64) w g 0 zs.toArray := by
    intro j hj
    have hj' : j < zs.length := by simpa using hj
    refine ⟨?_, by simp [World.frozen?, hh]⟩
    have h9 := hown.cells (g := g) rfl j (.int .i64 zs[j]) (by rw [List.getElem?_map, List.getElem?_eq_getElem hj']; rfl)
    rw [Addr.add_lit] at h9
    rw [h9, getElem!_pos zs.toArray j hj]
    simp
  have hcon : Calls Try.prog (rnO.f 189) #[.slice (some ⟨g, 0, none⟩) zs.length cap] w fun e w' => e = .returned (.tuple #[]) ∧ ∃ n os, w' = grow (putRow (Value.int .i64) (Sort.ahead w n) g 0 (zs.mergeSort fun x y => decide (x ≤ y)).toArray) os :=
    calls_of_every_depth fun D => AnyS.slices_Sort_int_in laysO D g 0 cap zs w hH hg (by omega)
  refine Calls.mono (show Calls Try.prog 122 _ _ _ from hcon) ?_
  rintro e w' ⟨rfl, n, os, rfl⟩
  have hml : (zs.mergeSort fun x y => decide (x ≤ y)).length = zs.length := List.length_mergeSort _
  generalize zs.mergeSort (fun x y => decide (x ≤ y)) = ms at *
  have hrow : (grow (putRow (Value.int .i64) (Sort.ahead w n) g 0 ms.toArray) os).heap[g]? = some (.cells (putCells (Value.int .i64) 0 ms.toArray cur) 3) := by
    unfold grow putRow mapBlock Sort.ahead
    simp only
    rw [Array.getElem?_append_left (by simpa using hg), Array.getElem?_modify, if_pos rfl, hh]
    rfl
  refine ⟨rfl, ⟨by rw [List.length_map, hml]; omega, Or.inr ⟨g, cap, putCells (Value.int .i64) 0 ms.toArray cur, rfl, hgb, hrow, hc1, hc2, ?_, ?_⟩⟩, ?_⟩
  · rw [← hcs]; simp [putCells]
  · have := puti_take ms.toArray cur (by simp; rw [hml, hcs]; omega)
    rw [Nat.mul_one, ← hml]
    simpa using this
  · refine ⟨rfl, rfl, rfl, ?_, fun b hb hne => ?_⟩
    · unfold grow putRow mapBlock Sort.ahead
      simp
    · unfold grow putRow mapBlock Sort.ahead
      simp only
      rw [Array.getElem?_append_left (by simp; omega), Array.getElem?_modify, if_neg (by intro e; exact hne (by rw [e]; rfl))]

end Go.Proofs.Ytimfoggjocajiaa

/- Lists of lists that grow beside each other, and a line that is written; where they lie. -/
namespace Go.Proofs.Ytimfoggjocajiaa
open Go.RowKit

/-- Two slices lie in blocks of their own. -/
def Apt (u v : Value) : Prop := ∀ g, u.ownBlock = some g → v.ownBlock ≠ some g

theorem Apt.symm {u v : Value} (h : Apt u v) : Apt v u := fun g h1 h2 => h g h2 h1

theorem apt_none (v : Value) : Apt (.slice none 0 0) v := fun g h => by cases h

theorem apt_new {w : World} {base e n : Nat} {u v : Value} {xs : List Value} (h : w.ownsRow base e 1 v n xs) (hu : ∀ g, u.ownBlock = some g → w.heap.size ≤ g) : Apt u v := fun g h1 h2 => by
  have := (h.lt g h2).2
  have := hu g h1
  omega

theorem LL.of_blocks {w w' : World} {B : Nat} {v : Value} {vs : List Value} {xss : List (List Int)} (h : LL w B v vs xss) (h1 : ∀ g, v.ownBlock = some g → w'.heap[g]? = w.heap[g]?) (h2 : ∀ u, u ∈ vs → ∀ g, u.ownBlock = some g → w'.heap[g]? = w.heap[g]?) : LL w' B v vs xss := by
  refine ⟨owns_of_block h.row h1, ?_⟩
  have := h.all
  clear h h1
  induction vs generalizing xss with
  | nil => cases xss with
    | nil => trivial
    | cons x xs => exact this.elim
  | cons u us ih => cases xss with
    | nil => exact this.elim
    | cons x xs => exact ⟨owns_of_block this.1 (h2 u List.mem_cons_self), ih (fun u hu => h2 u (List.mem_cons_of_mem _ hu)) this.2⟩

theorem LL.inner {w : World} {B : Nat} {v : Value} {vs : List Value} {xss : List (List Int)} (h : LL w B v vs xss) {u : Value} (hu : u ∈ vs) : ∃ (X : List Int), w.ownsRow B 3 1 u X.length (X.map (Value.int .i64)) := by
  have := h.all
  clear h
  induction vs generalizing xss with
  | nil => cases hu
  | cons y us ih => cases xss with
    | nil => exact this.elim
    | cons x xs =>
      rcases List.mem_cons.1 hu with e | e
      · rw [e]; exact ⟨x, this.1⟩
      · exact ih e this.2

/-- A block of one type is none of another. -/
theorem owns_ty {w : World} {base base' e e' n n' : Nat} {u v : Value} {xs ys : List Value} (h : w.ownsRow base e 1 u n xs) (h' : w.ownsRow base' e' 1 v n' ys) (hne : e ≠ e') : Apt u v := fun g h1 h2 => by
  obtain ⟨c1, k1⟩ := owns_obj h h1
  obtain ⟨c2, k2⟩ := owns_obj h' h2
  rw [k1] at k2
  injection k2 with k2
  injection k2 with _ k3
  exact hne k3

theorem LL.kept_by {w w' : World} {B : Nat} {v : Value} {vs : List Value} {xss : List (List Int)} (h : LL w B v vs xss) {g0 : Option Nat} (hg : w.grownBy w' g0) (h1 : ∀ g, v.ownBlock = some g → some g ≠ g0) (h2 : ∀ u, u ∈ vs → ∀ g, u.ownBlock = some g → some g ≠ g0) : LL w' B v vs xss :=
  h.of_blocks (fun g hb => hg.block g (h.row.lt g hb).2 (h1 g hb)) (fun u hu g hb => by
    obtain ⟨X, hX⟩ := h.inner hu
    exact hg.block g (hX.lt g hb).2 (h2 u hu g hb))

/-- A list that grows by one list. -/
theorem LL.grow {w w' : World} {B : Nat} {v v' u : Value} {vs : List Value} {xss : List (List Int)} {X : List Int} (h : LL w B v vs xss) (hu : w.ownsRow B 3 1 u X.length (X.map (Value.int .i64)))
    (hown : w'.ownsRow B 23 1 v' (vs.length + 1) (vs ++ [u])) (hg : w.grownBy w' v.ownBlock) : LL w' B v' (vs ++ [u]) (xss ++ [X]) :=
  ⟨by rw [List.length_append]; exact hown, OwnAll.snoc (owns_kept_ty hu h.row hg) (h.all.mono (fun _ _ _ h' => owns_kept_ty h' h.row hg))⟩

/-- Three lists of lists that grow beside each other. -/
structure Tri (B : Nat) (w : World) (v1 v2 v3 : Value) (s1 s2 s3 : List Value) (A1 A2 A3 : List (List Int)) : Prop where
  l1 : LL w B v1 s1 A1
  l2 : LL w B v2 s2 A2
  l3 : LL w B v3 s3 A3
  a12 : Apt v1 v2
  a13 : Apt v1 v3
  a23 : Apt v2 v3

section
variable {B : Nat} {w w' : World} {v1 v2 v3 v' u : Value} {s1 s2 s3 : List Value} {A1 A2 A3 : List (List Int)} {X : List Int}

theorem Tri.later (h : Tri B w v1 v2 v3 s1 s2 s3 A1 A2 A3) (hb : Below w.heap.size w w') : Tri B w' v1 v2 v3 s1 s2 s3 A1 A2 A3 :=
  ⟨h.l1.below hb, h.l2.below hb, h.l3.below hb, h.a12, h.a13, h.a23⟩

theorem Tri.set (h : Tri B w v1 v2 v3 s1 s2 s3 A1 A2 A3) {T j : Nat} (hT : T < B) (x : Value) : Tri B (w.setCell ⟨T, j, none⟩ x) v1 v2 v3 s1 s2 s3 A1 A2 A3 :=
  ⟨h.l1.set hT, h.l2.set hT, h.l3.set hT, h.a12, h.a13, h.a23⟩

theorem Tri.put (h : Tri B w v1 v2 v3 s1 s2 s3 A1 A2 A3) {m k : Nat} {f : Int → Option Value} (hm : IMap w m k f) (hg : w.grownBy w' (some m)) : Tri B w' v1 v2 v3 s1 s2 s3 A1 A2 A3 :=
  ⟨⟨owns_map_kept h.l1.row hm hg, h.l1.all.mono (fun _ _ _ h' => owns_map_kept h' hm hg)⟩, ⟨owns_map_kept h.l2.row hm hg, h.l2.all.mono (fun _ _ _ h' => owns_map_kept h' hm hg)⟩, ⟨owns_map_kept h.l3.row hm hg, h.l3.all.mono (fun _ _ _ h' => owns_map_kept h' hm hg)⟩, h.a12, h.a13, h.a23⟩

theorem LL.beside {v : Value} {vs : List Value} {xss : List (List Int)} (h : LL w B v vs xss) {y : Value} {ys : List Value} {yss : List (List Int)} (hy : LL w B y ys yss) (ha : Apt v y) (hg : w.grownBy w' y.ownBlock) : LL w' B v vs xss :=
  h.kept_by hg (fun g h1 e => ha g h1 e.symm) (fun u hu g h1 e => by
    obtain ⟨X, hX⟩ := h.inner hu
    exact owns_ty hX hy.row (by decide) g h1 e.symm)

theorem Tri.add1 (h : Tri B w v1 v2 v3 s1 s2 s3 A1 A2 A3) (hu : w.ownsRow B 3 1 u X.length (X.map (Value.int .i64))) (hown : w'.ownsRow B 23 1 v' (s1.length + 1) (s1 ++ [u])) (hg : w.grownBy w' v1.ownBlock)
    (hp : v'.ownBlock = v1.ownBlock ∨ (v'.ownBlock = some w.heap.size ∧ w.grownBy w' none)) : Tri B w' v' v2 v3 (s1 ++ [u]) s2 s3 (A1 ++ [X]) A2 A3 := by
  have key : ∀ (y : Value) (ys : List Value) (yss : List (List Int)), LL w B y ys yss → Apt v1 y → Apt v' y := fun y ys yss hy ha => by
    rcases hp with hp | ⟨hp, _⟩
    · exact fun g h1 => ha g (hp.symm.trans h1)
    · exact apt_new hy.row (fun g h1 => by rw [hp] at h1; have := Option.some.inj h1; omega)
  exact ⟨h.l1.grow hu hown hg, h.l2.beside h.l1 h.a12.symm hg, h.l3.beside h.l1 h.a13.symm hg, key _ _ _ h.l2 h.a12, key _ _ _ h.l3 h.a13, h.a23⟩

theorem Tri.turn (h : Tri B w v1 v2 v3 s1 s2 s3 A1 A2 A3) : Tri B w v2 v3 v1 s2 s3 s1 A2 A3 A1 := ⟨h.l2, h.l3, h.l1, h.a23, h.a12.symm, h.a13.symm⟩

theorem Tri.add2 (h : Tri B w v1 v2 v3 s1 s2 s3 A1 A2 A3) (hu : w.ownsRow B 3 1 u X.length (X.map (Value.int .i64))) (hown : w'.ownsRow B 23 1 v' (s2.length + 1) (s2 ++ [u])) (hg : w.grownBy w' v2.ownBlock)
    (hp : v'.ownBlock = v2.ownBlock ∨ (v'.ownBlock = some w.heap.size ∧ w.grownBy w' none)) : Tri B w' v1 v' v3 s1 (s2 ++ [u]) s3 A1 (A2 ++ [X]) A3 :=
  (h.turn.add1 hu hown hg hp).turn.turn

theorem Tri.add3 (h : Tri B w v1 v2 v3 s1 s2 s3 A1 A2 A3) (hu : w.ownsRow B 3 1 u X.length (X.map (Value.int .i64))) (hown : w'.ownsRow B 23 1 v' (s3.length + 1) (s3 ++ [u])) (hg : w.grownBy w' v3.ownBlock)
    (hp : v'.ownBlock = v3.ownBlock ∨ (v'.ownBlock = some w.heap.size ∧ w.grownBy w' none)) : Tri B w' v1 v2 v' s1 s2 (s3 ++ [u]) A1 A2 (A3 ++ [X]) :=
  (h.turn.turn.add1 hu hown hg hp).turn

/-- .. and a line that is written beside them. -/
structure Quad (B : Nat) (w : World) (v1 v2 v3 : Value) (s1 s2 s3 : List Value) (A1 A2 A3 : List (List Int)) (vl : Value) (L : List Int) : Prop where
  tri : Tri B w v1 v2 v3 s1 s2 s3 A1 A2 A3
  line : w.ownsRow B 3 1 vl L.length (L.map (Value.int .i64))
  apt : ∀ u, u ∈ s1 ++ s2 ++ s3 → Apt u vl

variable {vl : Value} {L : List Int}

theorem Quad.later (h : Quad B w v1 v2 v3 s1 s2 s3 A1 A2 A3 vl L) (hb : Below w.heap.size w w') : Quad B w' v1 v2 v3 s1 s2 s3 A1 A2 A3 vl L :=
  ⟨h.tri.later hb, owns_below h.line hb (Nat.le_refl _), h.apt⟩

theorem Quad.set (h : Quad B w v1 v2 v3 s1 s2 s3 A1 A2 A3 vl L) {T j : Nat} (hT : T < B) (x : Value) : Quad B (w.setCell ⟨T, j, none⟩ x) v1 v2 v3 s1 s2 s3 A1 A2 A3 vl L :=
  ⟨h.tri.set hT x, ownsRow_setCell_below h.line (by exact hT) _, h.apt⟩

theorem Quad.put (h : Quad B w v1 v2 v3 s1 s2 s3 A1 A2 A3 vl L) {m k : Nat} {f : Int → Option Value} (hm : IMap w m k f) (hg : w.grownBy w' (some m)) : Quad B w' v1 v2 v3 s1 s2 s3 A1 A2 A3 vl L :=
  ⟨h.tri.put hm hg, owns_map_kept h.line hm hg, h.apt⟩

theorem Quad.add1 (h : Quad B w v1 v2 v3 s1 s2 s3 A1 A2 A3 vl L) (hu : w.ownsRow B 3 1 u X.length (X.map (Value.int .i64))) (hua : Apt u vl) (hown : w'.ownsRow B 23 1 v' (s1.length + 1) (s1 ++ [u])) (hg : w.grownBy w' v1.ownBlock)
    (hp : v'.ownBlock = v1.ownBlock ∨ (v'.ownBlock = some w.heap.size ∧ w.grownBy w' none)) : Quad B w' v' v2 v3 (s1 ++ [u]) s2 s3 (A1 ++ [X]) A2 A3 vl L :=
  ⟨h.tri.add1 hu hown hg hp, owns_kept_ty h.line h.tri.l1.row hg, fun y hy => by
    rcases List.mem_append.1 hy with hy | hy
    · rcases List.mem_append.1 hy with hy | hy
      · rcases List.mem_append.1 hy with hy | hy
        · exact h.apt y (by simp [hy])
        · rw [List.mem_singleton.1 hy]; exact hua
      · exact h.apt y (by simp [hy])
    · exact h.apt y (by simp [hy])⟩

theorem Quad.add2 (h : Quad B w v1 v2 v3 s1 s2 s3 A1 A2 A3 vl L) (hu : w.ownsRow B 3 1 u X.length (X.map (Value.int .i64))) (hua : Apt u vl) (hown : w'.ownsRow B 23 1 v' (s2.length + 1) (s2 ++ [u])) (hg : w.grownBy w' v2.ownBlock)
    (hp : v'.ownBlock = v2.ownBlock ∨ (v'.ownBlock = some w.heap.size ∧ w.grownBy w' none)) : Quad B w' v1 v' v3 s1 (s2 ++ [u]) s3 A1 (A2 ++ [X]) A3 vl L :=
  ⟨h.tri.add2 hu hown hg hp, owns_kept_ty h.line h.tri.l2.row hg, fun y hy => by
    rcases List.mem_append.1 hy with hy | hy
    · rcases List.mem_append.1 hy with hy | hy
      · exact h.apt y (by simp [hy])
      · rcases List.mem_append.1 hy with hy | hy
        · exact h.apt y (by simp [hy])
        · rw [List.mem_singleton.1 hy]; exact hua
    · exact h.apt y (by simp [hy])⟩

/-- The line is in no other's way. -/
theorem LL.beside_line {v : Value} {vs : List Value} {xss : List (List Int)} (h : LL w B v vs xss) {n : Nat} {ys : List Value} (hl : w.ownsRow B 3 1 vl n ys) (ha : ∀ u, u ∈ vs → Apt u vl) (h1 : ∀ g, some g ≠ vl.ownBlock → g < w.heap.size → w'.heap[g]? = w.heap[g]?) : LL w' B v vs xss :=
  h.of_blocks (fun g hb => h1 g (fun e => owns_ty h.row hl (by decide) g hb e.symm) (h.row.lt g hb).2) (fun u hu g hb => by
    obtain ⟨X, hX⟩ := h.inner hu
    exact h1 g (fun e => ha u hu g hb e.symm) (hX.lt g hb).2)

theorem Tri.beside_line (h : Tri B w v1 v2 v3 s1 s2 s3 A1 A2 A3) {n : Nat} {ys : List Value} (hl : w.ownsRow B 3 1 vl n ys) (ha : ∀ u, u ∈ s1 ++ s2 ++ s3 → Apt u vl) (h1 : ∀ g, some g ≠ vl.ownBlock → g < w.heap.size → w'.heap[g]? = w.heap[g]?) : Tri B w' v1 v2 v3 s1 s2 s3 A1 A2 A3 :=
  ⟨h.l1.beside_line hl (fun u hu => ha u (by simp [hu])) h1, h.l2.beside_line hl (fun u hu => ha u (by simp [hu])) h1, h.l3.beside_line hl (fun u hu => ha u (by simp [hu])) h1, h.a12, h.a13, h.a23⟩

theorem Quad.push (h : Quad B w v1 v2 v3 s1 s2 s3 A1 A2 A3 vl L) {x : Int} (hown : w'.ownsRow B 3 1 v' (L.length + 1) ((L ++ [x]).map (Value.int .i64))) (hg : w.grownBy w' vl.ownBlock)
    (hp : v'.ownBlock = vl.ownBlock ∨ (v'.ownBlock = some w.heap.size ∧ w.grownBy w' none)) : Quad B w' v1 v2 v3 s1 s2 s3 A1 A2 A3 v' (L ++ [x]) := by
  refine ⟨h.tri.beside_line h.line h.apt (fun g h1 h2 => hg.block g h2 h1), by rw [List.length_append]; exact hown, fun u hu => ?_⟩
  rcases hp with hp | ⟨hp, _⟩
  · exact fun g h1 h2 => h.apt u hu g h1 (hp.symm.trans h2)
  · refine Apt.symm (fun g h1 h2 => ?_)
    rw [hp] at h1
    have e := Option.some.inj h1
    have hlt : g < w.heap.size := by
      rcases List.mem_append.1 hu with hu | hu
      · rcases List.mem_append.1 hu with hu | hu
        · obtain ⟨Y, hY⟩ := h.tri.l1.inner hu; exact (hY.lt g h2).2
        · obtain ⟨Y, hY⟩ := h.tri.l2.inner hu; exact (hY.lt g h2).2
      · obtain ⟨Y, hY⟩ := h.tri.l3.inner hu; exact (hY.lt g h2).2
    omega

theorem Quad.write {g n c : Nat} (h : Quad B w v1 v2 v3 s1 s2 s3 A1 A2 A3 (.slice (some ⟨g, 0, none⟩) n c) L) (hn : L.length = n) (m : Nat) (x : Int) : Quad B (w.setCell ⟨g, m, none⟩ (.int .i64 x)) v1 v2 v3 s1 s2 s3 A1 A2 A3 (.slice (some ⟨g, 0, none⟩) n c) (L.set m x) := by
  have hl := h.line
  rw [hn] at hl
  refine ⟨h.tri.beside_line hl h.apt (fun b h1 _ => Below.heap_setCell _ _ _ _ (fun e => h1 (by rw [e]; rfl))), ?_, h.apt⟩
  rw [List.length_set, hn]
  exact owns_set_int hl x

end

end Go.Proofs.Ytimfoggjocajiaa

/- Plain: which part a row is of, as a map by ranks says it. -/
namespace Go.Proofs.Ytimfoggjocajiaa
open Go.RowKit

theorem cix_app (H : Pm → Prop) (T : List (Pm × List Int)) (d : Pm × List Int) (x : Pm) : cix H (T ++ [d]) x = if cix H T x < T.length then cix H T x else (open Classical in if H (x * d.1⁻¹) then T.length else T.length + 1) := by
  classical
  unfold cix
  rw [List.findIdx_append]
  split
  · rfl
  · by_cases h : H (x * d.1⁻¹)
    · rw [List.findIdx_singleton, if_pos (decide_eq_true h), if_pos h]; omega
    · rw [List.findIdx_singleton, if_neg (by rw [decide_eq_true_iff]; exact h), if_neg h]; omega

theorem cix_nil (H : Pm → Prop) (x : Pm) : cix H [] x = 0 := by unfold cix; rw [List.findIdx_nil]

/-- The parts of rows, by ranks. -/
noncomputable def partV (H : Pm → Prop) (T : List (Pm × List Int)) (x : Pm) : Option Value := if cix H T x < T.length then some (.int .i64 ((cix H T x : Nat) : Int)) else none

def NumOk (H : Pm → Prop) (n : Nat) (T : List (Pm × List Int)) (F : Int → Option Value) : Prop := ∀ x, Fixes (fun b => n ≤ b) x → F ((rkP n x : Nat) : Int) = partV H T x

/-- .. while those of r's part are told. -/
def NumTo (H : Pm → Prop) (n : Nat) (T : List (Pm × List Int)) (r : Pm) (Hs : List Pm) (m : Nat) (F : Int → Option Value) : Prop :=
  ∀ x, Fixes (fun b => n ≤ b) x → (x * r⁻¹ ∈ Hs.take m → F ((rkP n x : Nat) : Int) = some (.int .i64 ((T.length : Nat) : Int))) ∧ (¬ x * r⁻¹ ∈ Hs.take m → F ((rkP n x : Nat) : Int) = partV H T x)

theorem NumTo.start {H : Pm → Prop} {n : Nat} {T : List (Pm × List Int)} {F : Int → Option Value} (h : NumOk H n T F) (r : Pm) (Hs : List Pm) : NumTo H n T r Hs 0 F :=
  fun x hx => ⟨fun hm => by simp at hm, fun _ => h x hx⟩

theorem NumTo.none (H : Pm → Prop) (n : Nat) (r : Pm) (Hs : List Pm) : NumTo H n [] r Hs 0 (fun _ => Option.none) :=
  fun x _ => ⟨fun hm => by simp at hm, fun _ => by unfold partV; rw [if_neg (by simp)]⟩

theorem NumTo.step {H : Pm → Prop} {n : Nat} {T : List (Pm × List Int)} {r c : Pm} {Hs : List Pm} {m : Nat} {F : Int → Option Value} (h : NumTo H n T r Hs m F) (h12 : n ≤ 12) (hr : Fixes (fun b => n ≤ b) r) (hcf : Fixes (fun b => n ≤ b) c) (hc : Hs[m]? = some c) :
    NumTo H n T r Hs (m + 1) (upd F ((rkP n (c * r) : Nat) : Int) (.int .i64 ((T.length : Nat) : Int))) := by
  intro x hx
  have hiff : x * r⁻¹ ∈ Hs.take (m + 1) ↔ x * r⁻¹ ∈ Hs.take m ∨ x = c * r := by
    rw [List.take_add_one, hc, List.mem_append]
    constructor
    · rintro (h1 | h1)
      · exact Or.inl h1
      · right
        have : x * r⁻¹ = c := by simpa using h1
        rw [← this, Pm.mul_assoc, Pm.inv_mul, Pm.mul_one]
    · rintro (h1 | h1)
      · exact Or.inl h1
      · right
        rw [h1, Pm.mul_assoc, Pm.mul_inv, Pm.mul_one]
        simp
  have hcr : Fixes (fun b => n ≤ b) (c * r) := (fixes_sub _).mul hcf hr
  unfold upd
  by_cases e : x = c * r
  · subst e
    exact ⟨fun _ => if_pos rfl, fun hn => absurd (hiff.2 (Or.inr rfl)) hn⟩
  · have hne : ¬ ((rkP n x : Nat) : Int) = ((rkP n (c * r) : Nat) : Int) := fun h9 => e (rkP_inj h12 hx hcr (by omega))
    rw [if_neg hne]
    exact ⟨fun hm => (h x hx).1 ((hiff.1 hm).resolve_right e), fun hn => (h x hx).2 (fun h9 => hn (hiff.2 (Or.inl h9)))⟩

theorem NumTo.done {H : Pm → Prop} (hH : Sub H) {n : Nat} {T : List (Pm × List Int)} {d : Pm × List Int} {Hs : List Pm} {F : Int → Option Value} (h : NumTo H n T d.1 Hs Hs.length F) (hHs : ∀ x, x ∈ Hs ↔ H x) (hn : ∀ e, e ∈ T → ¬ H (d.1 * e.1⁻¹)) : NumOk H n (T ++ [d]) F := by
  classical
  intro x hx
  have h1 := h x hx
  rw [List.take_length, hHs] at h1
  unfold partV
  rw [cix_app, List.length_append, List.length_singleton]
  by_cases hm : H (x * d.1⁻¹)
  · rw [h1.1 hm]
    have hx' : ¬ cix H T x < T.length := fun hc => by
      obtain ⟨e, he, hHe⟩ := cix_at hc
      refine hn e (List.mem_of_getElem? he) ?_
      have := hH.mul (hH.inv hm) hHe
      rwa [Pm.inv_prod, Pm.inv_inv, Pm.mul_assoc, Pm.inv_mul_cancel] at this
    rw [if_neg hx', if_pos hm, if_pos (by omega)]
  · rw [h1.2 hm]
    unfold partV
    by_cases hc : cix H T x < T.length
    · rw [if_pos hc, if_pos hc, if_pos (by omega)]
    · rw [if_neg hc, if_neg hc, if_neg hm, if_neg (by omega)]

theorem partV_some {H : Pm → Prop} {T : List (Pm × List Int)} {x : Pm} (h : cix H T x < T.length) : partV H T x = some (.int .i64 ((cix H T x : Nat) : Int)) := if_pos h
theorem partV_none {H : Pm → Prop} {T : List (Pm × List Int)} {x : Pm} (h : ¬ cix H T x < T.length) : partV H T x = none := if_neg h

/-- One letter: known, new. -/
theorem tryC_old {H : Pm → Prop} {L : List (Int × Pm)} {e : Pm × List Int} {T0 T : List (Pm × List Int)} {j : Nat} {ln : List Nat} {l : Int × Pm} (h : (T, ln) = tryCs H L e T0 j) (hl : L[j]? = some l) (hc : cix H T (e.1 * l.2) < T.length) : (T, ln ++ [cix H T (e.1 * l.2)]) = tryCs H L e T0 (j + 1) := by
  rw [tryCs_succ hl, ← h]
  unfold tryC
  simp only [if_pos hc]

theorem tryC_new {H : Pm → Prop} {L : List (Int × Pm)} {e : Pm × List Int} {T0 T : List (Pm × List Int)} {j : Nat} {ln : List Nat} {l : Int × Pm} (h : (T, ln) = tryCs H L e T0 j) (hl : L[j]? = some l) (hc : ¬ cix H T (e.1 * l.2) < T.length) : (T ++ [(e.1 * l.2, e.2 ++ [l.1])], ln ++ [T.length]) = tryCs H L e T0 (j + 1) := by
  have hce : cix H T (e.1 * l.2) = T.length := by have := cix_le H T (e.1 * l.2); omega
  rw [tryCs_succ hl, ← h]
  unfold tryC
  simp only [if_neg hc]
  rw [hce]

end Go.Proofs.Ytimfoggjocajiaa

/- Contracts: By, Undo, Rank of the answer over rows; what the answer's Parts has laid so far. -/
namespace Go.Proofs.Ytimfoggjocajiaa
open Go.RowKit

theorem rcut_by (n : Nat) (x y : Pm) (v v2 : Value) (w : World) (h1 : 1 ≤ n) (h12 : n ≤ 12) (hx : Fixes (fun b => n ≤ b) x) (hy : Fixes (fun b => n ≤ b) y) (h : Ints w v (cut n x)) (h2 : Ints w v2 (cut n y)) :
    Calls Try.prog 35 #[v, v2] w fun e w' => ∃ u, e = .returned u ∧ w'.ownsRow w.heap.size 3 1 u n ((cut n (x * y)).map (Value.int .i64)) ∧ Below w.heap.size w w' := by
  have hcl := cut_length h12 x
  have hcl2 := cut_length h12 y
  have hcr2 := cut_row h12 hy
  refine (rby_own v v2 (cut n x) (cut n y) w h h2 (fun j hj => by have := hcr2.at hj; rw [hcl2] at this; rw [hcl]; exact this) (by omega) (by omega)).mono ?_
  rintro e w' ⟨u, rfl, ho, hb⟩
  rw [by_cut h12 hx hcr2 hcl2, pad_cut h12 hy, hcl2] at ho
  exact ⟨u, rfl, ho, hb⟩

theorem rcut_undo (n : Nat) (x : Pm) (v : Value) (w : World) (h1 : 1 ≤ n) (h12 : n ≤ 12) (hf : Fixes (fun b => n ≤ b) x) (h : Ints w v (cut n x)) :
    Calls Try.prog 36 #[v] w fun e w' => ∃ u, e = .returned u ∧ w'.ownsRow w.heap.size 3 1 u n ((cut n x⁻¹).map (Value.int .i64)) ∧ Below w.heap.size w w' := by
  have hcl := cut_length h12 x
  have hcr := cut_row h12 hf
  refine (undo_own v (cut n x) w h hcr (by omega) (by omega)).mono ?_
  rintro e w' ⟨u, zs, rfl, ho, hu, hb⟩
  have hz : zs = cut n x⁻¹ := by
    have h3 := isRow_undoes hcr hu
    have hl : zs.length = n := by rw [hu.1, hcl]
    have h4 := pad_undoes (by omega) hcr hu
    rw [pad_cut h12 hf] at h4
    rw [← h4, cut_pad h12 hl h3]
  rw [hz, hcl] at ho
  exact ⟨u, rfl, ho, hb⟩

theorem rcut_rank (n : Nat) (x : Pm) (v : Value) (w : World) (h1 : 1 ≤ n) (h12 : n ≤ 12) (hf : Fixes (fun b => n ≤ b) x) (h : Ints w v (cut n x)) :
    Calls Try.prog 75 #[v] w fun e w' => e = .returned (.int .i64 ((rkP n x : Nat) : Int)) ∧ Below w.heap.size w w' := by
  have hcl := cut_length h12 x
  have := rrank_ok v (cut n x) w h (cut_row h12 hf) (by omega) (by omega)
  rwa [hcl] at this

/-- What the answer's Parts has laid so far. -/
structure PRel (w wr : World) (M : Nat) (v1 v2 v3 : Value) (s1 s2 s3 : List Value) (A1 A2 A3 : List (List Int)) (vl : Value) (L : List Int) (F : Int → Option Value) (cnt : Nat) : Prop where
  quad : Quad w.heap.size wr v1 v2 v3 s1 s2 s3 A1 A2 A3 vl L
  map : IMap wr M cnt F
  mge : w.heap.size ≤ M
  below : Below w.heap.size w wr

section
variable {w wr w' : World} {M cnt : Nat} {v1 v2 v3 v' u vl : Value} {s1 s2 s3 : List Value} {A1 A2 A3 : List (List Int)} {L X : List Int} {F F' : Int → Option Value}

theorem PRel.later (h : PRel w wr M v1 v2 v3 s1 s2 s3 A1 A2 A3 vl L F cnt) (hb : Below wr.heap.size wr w') : PRel w w' M v1 v2 v3 s1 s2 s3 A1 A2 A3 vl L F cnt :=
  ⟨h.quad.later hb, h.map.below hb h.map.lt, h.mge, h.below.trans (hb.mono h.below.size)⟩

theorem PRel.alloc (h : PRel w wr M v1 v2 v3 s1 s2 s3 A1 A2 A3 vl L F cnt) (o : Obj) : PRel w (wr.alloc o) M v1 v2 v3 s1 s2 s3 A1 A2 A3 vl L F cnt :=
  h.later ((Below.refl _ _).alloc (Nat.le_refl _) o)

theorem PRel.put (h : PRel w wr M v1 v2 v3 s1 s2 s3 A1 A2 A3 vl L F cnt) (hm : IMap w' M (cnt + 1) F') (hg : wr.grownBy w' (some M)) : PRel w w' M v1 v2 v3 s1 s2 s3 A1 A2 A3 vl L F' (cnt + 1) :=
  ⟨h.quad.put h.map hg, hm, h.mge, h.below.grown hg h.below.size (fun k hk => by injection hk with hk; rw [← hk]; exact h.mge)⟩

theorem PRel.add1 (h : PRel w wr M v1 v2 v3 s1 s2 s3 A1 A2 A3 vl L F cnt) (hu : wr.ownsRow w.heap.size 3 1 u X.length (X.map (Value.int .i64))) (hua : Apt u vl) (hown : w'.ownsRow w.heap.size 23 1 v' (s1.length + 1) (s1 ++ [u])) (hg : wr.grownBy w' v1.ownBlock)
    (hp : v'.ownBlock = v1.ownBlock ∨ (v'.ownBlock = some wr.heap.size ∧ wr.grownBy w' none)) : PRel w w' M v' v2 v3 (s1 ++ [u]) s2 s3 (A1 ++ [X]) A2 A3 vl L F cnt :=
  ⟨h.quad.add1 hu hua hown hg hp, map_row_kept h.quad.tri.l1.row h.map hg, h.mge, h.below.grown hg h.below.size (fun g hg' => (h.quad.tri.l1.row.lt g hg').1)⟩

theorem PRel.add2 (h : PRel w wr M v1 v2 v3 s1 s2 s3 A1 A2 A3 vl L F cnt) (hu : wr.ownsRow w.heap.size 3 1 u X.length (X.map (Value.int .i64))) (hua : Apt u vl) (hown : w'.ownsRow w.heap.size 23 1 v' (s2.length + 1) (s2 ++ [u])) (hg : wr.grownBy w' v2.ownBlock)
    (hp : v'.ownBlock = v2.ownBlock ∨ (v'.ownBlock = some wr.heap.size ∧ wr.grownBy w' none)) : PRel w w' M v1 v' v3 s1 (s2 ++ [u]) s3 A1 (A2 ++ [X]) A3 vl L F cnt :=
  ⟨h.quad.add2 hu hua hown hg hp, map_row_kept h.quad.tri.l2.row h.map hg, h.mge, h.below.grown hg h.below.size (fun g hg' => (h.quad.tri.l2.row.lt g hg').1)⟩

theorem PRel.push (h : PRel w wr M v1 v2 v3 s1 s2 s3 A1 A2 A3 vl L F cnt) {x : Int} (hown : w'.ownsRow w.heap.size 3 1 v' (L.length + 1) ((L ++ [x]).map (Value.int .i64))) (hg : wr.grownBy w' vl.ownBlock)
    (hp : v'.ownBlock = vl.ownBlock ∨ (v'.ownBlock = some wr.heap.size ∧ wr.grownBy w' none)) : PRel w w' M v1 v2 v3 s1 s2 s3 A1 A2 A3 v' (L ++ [x]) F cnt :=
  ⟨h.quad.push hown hg hp, map_row_kept h.quad.line h.map hg, h.mge, h.below.grown hg h.below.size (fun g hg' => (h.quad.line.lt g hg').1)⟩

theorem Quad.bare {B : Nat} (h : Tri B wr v1 v2 v3 s1 s2 s3 A1 A2 A3) : Quad B wr v1 v2 v3 s1 s2 s3 A1 A2 A3 (.slice none 0 0) [] :=
  ⟨h, World.ownsRow_nil _ _ _ _, fun u _ g _ h2 => by cases h2⟩

theorem PRel.fin (h : PRel w wr M v1 v2 v3 s1 s2 s3 A1 A2 A3 vl L F cnt) (hown : w'.ownsRow w.heap.size 23 1 v' (s3.length + 1) (s3 ++ [vl])) (hg : wr.grownBy w' v3.ownBlock)
    (hp : v'.ownBlock = v3.ownBlock ∨ (v'.ownBlock = some wr.heap.size ∧ wr.grownBy w' none)) : PRel w w' M v1 v2 v' s1 s2 (s3 ++ [vl]) A1 A2 (A3 ++ [L]) (.slice none 0 0) [] F cnt :=
  ⟨Quad.bare (h.quad.tri.add3 h.quad.line hown hg hp), map_row_kept h.quad.tri.l3.row h.map hg, h.mge, h.below.grown hg h.below.size (fun g hg' => (h.quad.tri.l3.row.lt g hg').1)⟩

theorem PRel.lists {B1 B2 B3 : List (List Int)} {L' : List Int} (h : PRel w wr M v1 v2 v3 s1 s2 s3 A1 A2 A3 vl L F cnt) (e1 : A1 = B1) (e2 : A2 = B2) (e3 : A3 = B3) (e4 : L = L') : PRel w wr M v1 v2 v3 s1 s2 s3 B1 B2 B3 vl L' F cnt := by
  subst e1; subst e2; subst e3; subst e4; exact h

end

/-- The first of all: rounds, and no word. -/
theorem PRel.start {w w1 : World} {n : Nat} {v0 : Value} (hown : w1.ownsRow w.heap.size 3 1 v0 n ((rnd n).map (Value.int .i64))) (h12 : n ≤ 12) (hb : Below w.heap.size w w1) :
    PRel w (((w1.alloc (.cells #[v0] 23)).alloc (.cells #[.slice none 0 0] 23)).alloc (.map #[] 0)) (w1.heap.size + 1 + 1) (.slice (some ⟨w1.heap.size, 0, none⟩) 1 1) (.slice (some ⟨w1.heap.size + 1, 0, none⟩) 1 1) (.slice none 0 0) [v0] [.slice none 0 0] [] [cut n 1] [[]] [] (.slice none 0 0) [] (fun _ => none) 0 := by
  have hs := hb.size
  have hcut : cut n 1 = rnd n := by
    have := cut_pad h12 (rnd_length n) (isRow_rnd n)
    rwa [pad_rnd h12] at this
  have e1 : (w1.alloc (.cells #[v0] 23)).heap.size = w1.heap.size + 1 := by simp
  have e2 : ((w1.alloc (.cells #[v0] 23)).alloc (.cells #[.slice none 0 0] 23)).heap.size = w1.heap.size + 1 + 1 := by simp
  have hB1 : Below w.heap.size w (w1.alloc (.cells #[v0] 23)) := hb.alloc hs _
  have hB2 := hB1.alloc (by rw [e1]; omega) (.cells #[.slice none 0 0] 23)
  have hB3 := hB2.alloc (by rw [e2]; omega) (.map #[] 0)
  have hL1 : LL (w1.alloc (.cells #[v0] 23)) w.heap.size (.slice (some ⟨w1.heap.size, 0, none⟩) 1 1) [v0] [cut n 1] := LL.one (by rw [hcut, rnd_length]; exact hown) hs
  have hL2 : LL ((w1.alloc (.cells #[v0] 23)).alloc (.cells #[.slice none 0 0] 23)) w.heap.size (.slice (some ⟨w1.heap.size + 1, 0, none⟩) 1 1) [.slice none 0 0] [[]] := by
    have := LL.one (w := w1.alloc (.cells #[v0] 23)) (base := w.heap.size) (u := .slice none 0 0) (X := []) (World.ownsRow_nil _ _ _ _) (by rw [e1]; omega)
    rwa [e1] at this
  have al : ∀ (W : World) (o : Obj), Below W.heap.size W (W.alloc o) := fun W o => (Below.refl _ _).alloc (Nat.le_refl _) o
  refine ⟨Quad.bare ⟨(hL1.below (al _ _)).below (al _ _), hL2.below (al _ _), LL.nil _ _, ?_, (apt_none _).symm, (apt_none _).symm⟩, ?_, by omega, hB3⟩
  · intro g h1 h2
    have h1' : some w1.heap.size = some g := h1
    have h2' : some (w1.heap.size + 1) = some g := h2
    have := Option.some.inj h1'
    have := Option.some.inj h2'
    omega
  · have := IMap.made ((w1.alloc (.cells #[v0] 23)).alloc (.cells #[.slice none 0 0] 23))
    rwa [e2] at this

end Go.Proofs.Ytimfoggjocajiaa

/- Contract: the answer's Parts. -/
namespace Go.Proofs.Ytimfoggjocajiaa
open Go.RowKit

def PartsPost (n : Nat) (H : Pm → Prop) (gss : List (List Int)) (w : World) (e : Ending) (w' : World) : Prop :=
  ∃ vn vw vr T N, e = .returned (.tuple #[vn, vw, vr]) ∧ RunC H (letters 0 gss) T.length T N ∧ IntsAll w' vn (N.map natI) ∧ IntsAll w' vw (T.map (·.2)) ∧ IntsAll w' vr (T.map (fun e => cut n e.1)) ∧ Below w.heap.size w w'

theorem letters_at {n : Nat} {gss : List (List Int)} (h12 : n ≤ 12) (hR : RowsN n gss) {j : Nat} (hj : j < 2 * gss.length) : ∃ l x, (letters 0 gss)[j]? = some l ∧ gss[j / 2]? = some x ∧ Fixes (fun b => n ≤ b) l.2 ∧ ((j % 2 = 0 ∧ l.1 = ((j / 2 : Nat) : Int) + 1 ∧ x = cut n l.2) ∨ (j % 2 = 1 ∧ l.1 = -(((j / 2 : Nat) : Int) + 1) ∧ x = cut n l.2⁻¹)) := by
  obtain ⟨x, hx⟩ : ∃ x, gss[j / 2]? = some x := ⟨_, List.getElem?_eq_getElem (by omega)⟩
  obtain ⟨hr, hl⟩ := hR x (List.mem_of_getElem? hx)
  have hf := pad_fixes h12 hl hr
  rcases Nat.mod_two_eq_zero_or_one j with hm | hm
  · refine ⟨(((j / 2 : Nat) : Int) + 1, pad x), x, ?_, hx, ?_, Or.inl ⟨hm, ?_, ?_⟩⟩
    · have := letters_even (k := 0) hx
      rw [show 2 * (j / 2) = j by omega, Nat.zero_add] at this
      exact this
    · exact hf
    · rfl
    · exact (cut_pad h12 hl hr).symm
  · refine ⟨(-(((j / 2 : Nat) : Int) + 1), (pad x)⁻¹), x, ?_, hx, ?_, Or.inr ⟨hm, ?_, ?_⟩⟩
    · have := letters_odd (k := 0) hx
      rw [show 2 * (j / 2) + 1 = j by omega, Nat.zero_add] at this
      exact this
    · exact (fixes_sub _).inv hf
    · rfl
    · show x = cut n ((pad x)⁻¹)⁻¹
      rw [Pm.inv_inv]; exact (cut_pad h12 hl hr).symm

theorem natI_length (l : List Nat) : (natI l).length = l.length := by unfold natI; rw [List.length_map]

set_option maxRecDepth 20000 in
set_option maxHeartbeats 16000000 in
theorem rparts_ok (n : Nat) (vg vsb : Value) (gss : List (List Int)) (Hs X : List Pm) (H : Pm → Prop) (w : World) (hA : IntsAll w vg gss) (hR : RowsN n gss) (hS : IntsAll w vsb (Hs.map (cut n))) (hH : Sub H) (hHs : ∀ x, x ∈ Hs ↔ H x) (hHf : ∀ h, H h → Fixes (fun b => n ≤ b) h) (h1 : 1 ≤ n) (h12 : n ≤ 12) (h8 : gss.length ≤ 1000) (hHl : Hs.length ≤ 5040)
    (hX : ∀ x, Gen (fun x => ∃ l, l ∈ letters 0 gss ∧ l.2 = x) x → x ∈ X) (hXl : X.length ≤ 1000000) :
    Calls Try.prog 32 #[.int .i64 n, vg, vsb] w fun e w' => PartsPost n H gss w e w' := by
  obtain ⟨i0, hi, hz0, hz1, hz2⟩ := info_parts Try.info23
  obtain ⟨j0, hji, hjz0, hjz1, hjz2⟩ := info_parts Try.info3
  have hmm := @run_makeMap Try.prog
  have HA := hide hA
  have HR := hide hR
  have HH := hide hH
  have HHS := hide hHs
  have HHF := hide hHf
  have HX := hide hX
  have hl1 : 1 ≤ Hs.length := List.length_pos_of_mem ((hHs 1).2 hH.one)
  obtain ⟨ps, Ns, cs, rfl⟩ : ∃ p N c, vsb = .slice p N c := by obtain ⟨p, c, e⟩ := hS.len; exact ⟨p, _, c, e⟩
  obtain ⟨gsb, offs, rfl, hNs, hcs1, hcs2, hgs, hcell⟩ := hS.rowI (by rw [List.length_map]; exact hl1)
  rw [List.length_map] at hNs hcs1
  have HCS : Hid (∀ i x, Hs[i]? = some x → ∃ u, w.cell? ⟨gsb, offs + i, none⟩ = some u ∧ Ints w u (cut n x)) := fun i x hx => hcell i _ (by rw [List.getElem?_map, hx]; rfl)
  have hNs' := hNs.symm
  subst hNs'
  obtain ⟨pg, cg, rfl⟩ := hA.len
  generalize hhl : Hs.length = hl at *
  have HHL := hide hhl
  generalize hgl : gss.length = gl at *
  have HGL := hide hgl
  generalize hxl : X.length = xl at *
  have HXL := hide hxl
  have HRo := hide (rrounds_ok n w (by omega))
  clear hA hR hS hH hHs hHf hX hcell hNs hhl hgl hxl
  go_enter Try.func32, Try.ntmps32
  go_wp2_with fail
  refine HRo.out.mono ?_
  rintro ex w1 ⟨v0, rfl, hown0, hb0⟩
  obtain ⟨p0, c0, ev0⟩ := owns_slice hown0
  subst ev0
  have HP0 := hide (PRel.start hown0 h12 hb0)
  have HN0 := hide (NumTo.none H n 1 Hs)
  clear hown0 hb0 HRo
  go_wp2
  go_loopw [13] (fun sk wr => ∃ (k cnt : Nat) (F : Int → Option Value), k ≤ hl ∧ sk = .int .i64 k ∧ Hid (NumTo H n [] 1 Hs k F) ∧ Hid (cnt ≤ k) ∧ PRel w wr (w1.heap.size + 1 + 1) (.slice (some ⟨w1.heap.size, 0, none⟩) 1 1) (.slice (some ⟨w1.heap.size + 1, 0, none⟩) 1 1) (.slice none 0 0) [.slice p0 n c0] [.slice none 0 0] [] [cut n 1] [[]] [] (.slice none 0 0) [] F cnt) (fun sk _ => hl - (intOf sk).toNat)
  case atStart => exact ⟨0, 0, _, Nat.zero_le _, rfl, HN0, Nat.le_refl _, HP0.out⟩
  case round =>
    clear HP0 HN0
    obtain ⟨k, cnt, F, hk, rfl, hN, hcnt, hP⟩ := hrel
    by_cases hkl : k < hl
    · obtain ⟨c, hc⟩ : ∃ c, Hs[k]? = some c := ⟨_, List.getElem?_eq_getElem (by rw [HHL.out]; exact hkl)⟩
      obtain ⟨u, hcu, hiu⟩ := HCS.out k c hc
      have hcf := HHF.out c ((HHS.out c).1 (List.mem_of_getElem? hc))
      have hcu' := (hP.below.cell (p := ⟨gsb, offs + k, none⟩) hgs).trans hcu
      have HRk := hide (rcut_rank n c u wr h1 h12 hcf (hiu.below hP.below))
      have HN2 := hide (hN.out.step h12 (fixes_sub _).one hcf hc)
      rw [Pm.mul_one] at HN2
      have hkb := rkP_le c h12
      have HP := hide hP
      clear hcu hiu hc hP hN
      go_wp2_with fail
      refine HRk.out.mono ?_
      rintro ex w2 ⟨rfl, hb2⟩
      have hP2 := HP.out.later hb2
      have HMP := hide hP2.map
      have HP2 := hide hP2
      have HC2 : Hid (cnt + 1 ≤ k + 1) := by have := hcnt.out; unfold Hid; omega
      have hcl : cnt < maxLen := by have := hcnt.out; unfold maxLen; omega
      clear hP2 hb2 HP HRk hcnt
      go_wp2_with (at_mapUpdate; refine wpList_put rfl _ _ _ 108 rfl 3 Try.underlying108 HMP.out hcl ((rkP n c : Nat) : Int) (.int .i64 0) rfl rfl rfl (by omega) (by omega) ?_)
      intro w3 hM3 hg3
      have HP3 := hide (HP2.out.put hM3 hg3)
      clear hM3 hg3 HMP HP2
      go_wp2
      go_roundw
      case rel =>
        have hfin : ∃ (k' cnt : Nat) (F : Int → Option Value), k' ≤ hl ∧ Value.int .i64 ((k : Int) + 1) = .int .i64 (k' : Int) ∧ Hid (NumTo H n [] 1 Hs k' F) ∧ Hid (cnt ≤ k') ∧ PRel w w3 (w1.heap.size + 1 + 1) (.slice (some ⟨w1.heap.size, 0, none⟩) 1 1) (.slice (some ⟨w1.heap.size + 1, 0, none⟩) 1 1) (.slice none 0 0) [.slice p0 n c0] [.slice none 0 0] [] [cut n 1] [[]] [] (.slice none 0 0) [] F cnt := ⟨k + 1, _, _, hkl, by go_num, HN2, HC2, HP3.out⟩
        first
          | exact hfin
          | ((repeat apply Exists.intro); exact ⟨hfin, rfl⟩)
      case measure => simp [intOf]; omega
    · obtain rfl : hl = k := by omega
      have HNO : Hid (NumOk H n [(1, [])] F) := by
        have := hN.out
        rw [← HHL.out] at this
        exact NumTo.done (T := []) (d := (1, [])) HH.out this HHS.out (fun e he => by cases he)
      have HC0 : Hid (cnt ≤ 5040 * 1) := by have := hcnt.out; unfold Hid; omega
      have HP := hide hP
      clear hN hP hcnt
      have HT0 : Hid (Hid (RunC H (letters 0 gss) 0 [(1, [])] [])) := RunC.start
      go_wp2
      go_loopw [9, 10, 11, 14] (fun s9 s10 s11 si wr => ∃ (i cnt : Nat) (v1 v2 v3 : Value) (s1 s2 s3 : List Value) (T : List (Pm × List Int)) (N : List (List Nat)) (F : Int → Option Value), i ≤ T.length ∧ s9 = v1 ∧ s10 = v2 ∧ s11 = v3 ∧ si = .int .i64 i ∧ Hid (RunC H (letters 0 gss) i T N) ∧ Hid (NumOk H n T F) ∧ Hid (cnt ≤ 5040 * T.length) ∧ PRel w wr (w1.heap.size + 1 + 1) v1 v2 v3 s1 s2 s3 (T.map (fun e => cut n e.1)) (T.map (·.2)) (N.map natI) (.slice none 0 0) [] F cnt) (fun _ _ _ si _ => xl - (intOf si).toNat)
      case atStart => exact ⟨0, cnt, _, _, _, _, _, _, [(1, [])], [], F, Nat.zero_le _, rfl, rfl, rfl, rfl, RunC.start, HNO, HC0, HP.out⟩
      case round =>
        clear HP HNO HC0
        obtain ⟨i, cnt, v1, v2, v3, s1, s2, s3, T, N, F, hiT, rfl, rfl, rfl, rfl, hRun, hNum, hcnt, hP⟩ := hrel
        have hO := hRun.out.ok HH.out
        have hTx : T.length ≤ xl := by rw [← HXL.out]; exact hO.ok.few HH.out HX.out
        have hl1' : s1.length = T.length := by rw [hP.quad.tri.l1.len, List.length_map]
        have hT1 : 1 ≤ T.length := (List.getElem?_eq_some_iff.1 hO.ok.first).1
        have hr1 := hP.quad.tri.l1.row
        rw [hl1'] at hr1
        obtain ⟨g1, c1, e1, hg1a, hg1b, hc1a, hc1b⟩ := owns_form hr1 hT1
        by_cases hit : i < T.length
        · obtain ⟨e, hE⟩ : ∃ e, T[i]? = some e := ⟨_, List.getElem?_eq_getElem hit⟩
          have HE := hide hE
          have hem := List.mem_of_getElem? hE
          have HEF : Hid (Fixes (fun b => n ≤ b) e.1) := gens_fix h12 HR.out ((letters_gen 0 gss _).1 (hO.ok.gen e hem))
          have HOK := hide hO.ok
          have HP := hide hP
          have HNUM := hide hNum.out
          have HTE := hide (tryCs_ok HH.out hO.ok hem)
          have hns3 : s3.length ≤ 1000000 := by
            have h9 := hP.quad.tri.l3.len
            rw [List.length_map, hO.len] at h9
            omega
          have HRUN := hide (RunC.step hRun.out hE)
          subst e1
          clear hP hr1 hE hem hO hRun hNum hl1'
          go_wp2
          go_loopw [9, 10, 15, 16] (fun s9 s10 s15 sj wr => ∃ (j cnt : Nat) (v1 v2 vl : Value) (s1 s2 : List Value) (T' : List (Pm × List Int)) (ln : List Nat) (F : Int → Option Value), j ≤ 2 * gl ∧ s9 = v1 ∧ s10 = v2 ∧ s15 = vl ∧ sj = .int .i64 j ∧ Hid ((T', ln) = tryCs H (letters 0 gss) e T j) ∧ Hid (NumOk H n T' F) ∧ Hid (cnt ≤ 5040 * T'.length) ∧ PRel w wr (w1.heap.size + 1 + 1) v1 v2 u11 s1 s2 s3 (T'.map (fun e => cut n e.1)) (T'.map (·.2)) (N.map natI) vl (natI ln) F cnt) (fun _ _ _ sj _ => 2 * gl - (intOf sj).toNat)
          case atStart => exact ⟨0, cnt, _, _, _, s1, s2, T, [], F, Nat.zero_le _, rfl, rfl, rfl, rfl, (tryCs_zero H (letters 0 gss) e T).symm, HNUM, hcnt, HP.out⟩
          case round =>
            clear HP HNUM hcnt hc1a hc1b hg1a hg1b
            obtain ⟨j, cnt, v1, v2, vl, s1, s2, T', ln, F, hj, rfl, rfl, rfl, rfl, hTr, hNum, hcnt, hP⟩ := hrel
            have hTO := HTE.out j (by rw [letters_length, HGL.out]; exact hj)
            rw [← hTr.out] at hTO
            have hTx' : T'.length ≤ xl := by rw [← HXL.out]; exact hTO.ok.few HH.out HX.out
            have hl1' : s1.length = T'.length := by rw [hP.quad.tri.l1.len, List.length_map]
            have hl2' : s2.length = T'.length := by rw [hP.quad.tri.l2.len, List.length_map]
            obtain ⟨more, hmore0⟩ := hTO.more
            have hmore : T' = T ++ more := hmore0
            clear hmore0
            have hiT' : i < T'.length := by rw [hmore, List.length_append]; omega
            have hE' : T'[i]? = some e := by rw [hmore, List.getElem?_append_left hit]; exact HE.out
            have hlnl : ln.length = j := hTO.line.1
            by_cases hjl : j < 2 * gl
            · obtain ⟨l, x, hl, hx, hlf, hcase⟩ := letters_at h12 HR.out (j := j) (by rw [HGL.out]; exact hjl)
              have hjI : (j : Int) < 2 * (gl : Int) := by omega
              obtain ⟨q, hqe⟩ : ∃ q, j / 2 = q := ⟨_, rfl⟩
              rw [hqe] at hx hcase
              have hq : q < gl := by omega
              have hqI : ((j : Nat) : Int) / 2 = (q : Int) := by omega
              have HQE := hide hqe
              clear hqe
              have hAw := HA.out.below hP.below
              obtain ⟨gg, og, hpg, hNg, hcg1, hcg2, hgg, hcellg⟩ := hAw.rowI (by rw [HGL.out]; omega)
              obtain ⟨ux, hcux, hiux⟩ := hcellg _ x hx
              rw [HGL.out] at hcg1
              have HIX := hide hiux
              have HL := hide hl
              have HLF := hide hlf
              have HP := hide hP
              have HTR := hide hTr.out
              have HNUM := hide hNum.out
              have HTOK := hide hTO.ok
              have HEI := hide hE'
              have hr1 := hP.quad.tri.l1.row
              rw [hl1'] at hr1
              obtain ⟨g1, c1, e1, hg1a, hg1b, hc1a, hc1b⟩ := owns_form hr1 (by omega)
              have hr2 := hP.quad.tri.l2.row
              rw [hl2'] at hr2
              obtain ⟨g2, c2, e2, hg2a, hg2b, hc2a, hc2b⟩ := owns_form hr2 (by omega)
              have hr3 := hP.quad.tri.l1
              subst e1
              subst e2
              obtain ⟨ue, hcue, houe⟩ := word_at hr1 hr3.all (i := i) (X := cut n e.1) (by rw [List.getElem?_map, hE']; rfl) (by rw [List.length_map])
              obtain ⟨uw, hcuw, houw⟩ := word_at hr2 hP.quad.tri.l2.all (i := i) (X := e.2) (by rw [List.getElem?_map, hE']; rfl) (by rw [List.length_map])
              rw [cut_length h12] at houe
              have HOE := hide houe
              have HOW := hide houw
              have hesh := hTO.ok.short e (List.mem_of_getElem? hE')
              have hsz := hP.below.size
              subst hpg
              obtain ⟨wo, hwo⟩ : ∃ wo, wo = wr := ⟨_, rfl⟩
              subst hwo
              obtain ⟨px, cx, epx⟩ := hiux.form
              have hxl : x.length = n := (HR.out x (List.mem_of_getElem? hx)).2
              rw [hxl] at epx
              subst epx
              have HCASE := hide hcase
              have HL1' := hide hl1'
              have HL2' := hide hl2'
              have HLNL := hide hlnl
              clear hNg hP hTr hNum hTO hmore hE' hr1 hr2 hr3 hcellg hiux hl hlf hx houe houw hAw hcase hxl hl1' hl2' hlnl
              go_upto_if 63 with fail
              go_cut [17, 18] from 46 to 119 (fun sx sl wc => ∃ vx, sx = vx ∧ sl = .int .i64 l.1 ∧ Ints wc vx (cut n l.2) ∧ Below wo.heap.size wo wc)
              case first =>
                rcases HCASE.out with ⟨hm, hl1, hxe⟩ | ⟨hm, hl1, hxe⟩
                · have hmI : ((j : Nat) : Int) % 2 = 0 := by omega
                  have hl1' : (q : Int) + 1 = l.1 := hl1.symm
                  have HIX2 : Hid (Ints wo (.slice px n cx) (cut n l.2)) := by rw [← hxe]; exact HIX.out
                  have HL1 := hide hl1'
                  clear hm hl1 hxe hl1'
                  go_wp2
                  go_meet
                  case rel => exact ⟨_, rfl, by rw [HL1.out], HIX2.out, Below.refl _ _⟩
                · have hmI : ((j : Nat) : Int) % 2 = 1 := by omega
                  have HL1 : Hid (-((q : Int) + 1) = l.1) := hl1.symm
                  have HUn := hide (rcut_undo n l.2⁻¹ (.slice px n cx) wo h1 h12 ((fixes_sub _).inv HLF.out) (by rw [← hxe]; exact HIX.out))
                  rw [Pm.inv_inv] at HUn
                  clear hm hl1 hxe
                  go_wp2_with fail
                  refine HUn.out.mono ?_
                  rintro ex w5 ⟨u5, rfl, hown5, hb5⟩
                  have HI5 := hide (Ints.own hown5)
                  have HB5 := hide hb5
                  clear hown5 hb5
                  go_wp2
                  go_meet
                  case rel => exact ⟨_, rfl, by rw [HL1.out], HI5.out, HB5.out⟩
              case rest =>
              obtain ⟨vx, rfl, rfl, hIx, hbc⟩ := hcut
              have hPc := HP.out.later hbc
              have hcue' := (hbc.cell (p := ⟨g1, i, none⟩) hg1b).trans hcue
              have HOEc := hide (owns_below HOE.out hbc (Nat.le_refl _))
              obtain ⟨ge, ce, ee, hgea, hgeb, hcea, hceb⟩ := owns_form HOEc.out h1
              subst ee
              have HBy := hide (rcut_by n e.1 l.2 _ u17 wc h1 h12 HEF.out HLF.out (Ints.own HOEc.out) hIx)
              have HPc := hide hPc
              have HBC := hide hbc
              clear hPc hIx hbc hcue HP HIX
              go_wp2_with fail
              refine HBy.out.mono ?_
              rintro ex w5 ⟨vr5, rfl, hown5, hb5⟩
              have HYF : Hid (Fixes (fun b => n ≤ b) (e.1 * l.2)) := (fixes_sub _).mul HEF.out HLF.out
              have hP5 := HPc.out.later hb5
              have HRk := hide (rcut_rank n (e.1 * l.2) vr5 w5 h1 h12 HYF.out (Ints.own hown5))
              have HO5 := hide hown5
              have HP5 := hide hP5
              have HUA : Hid (Apt vr5 u15) := apt_new HPc.out.quad.line (fun g hg => (hown5.lt g hg).1)
              have HBC5 := hide (HBC.out.trans (hb5.mono HBC.out.size))
              have hwcs : wo.heap.size ≤ wc.heap.size := HBC.out.size
              clear hP5 hown5 hb5 HBy HPc HBC
              go_wp2_with fail
              refine HRk.out.mono ?_
              rintro ex w6 ⟨rfl, hb6⟩
              have hP6 := HP5.out.later hb6
              have HB6 := hide (HBC5.out.trans (hb6.mono HBC5.out.size))
              have HO6 := hide (owns_below HO5.out hb6 (Nat.le_refl _))
              have hkb := rkP_le (e.1 * l.2) h12
              have hlk := hP6.map.look_ok Try.underlying108 (Try.zero3 w6) (a := ((rkP n (e.1 * l.2) : Nat) : Int)) (by omega) (by omega)
              rw [HNUM.out _ HYF.out] at hlk
              have hbs6 := hP6.below.size
              have hgen : True := trivial
              have HP6 := hide hP6
              have HU6 : Hid (w6.ownsRow w.heap.size 3 1 vr5 (cut n (e.1 * l.2)).length ((cut n (e.1 * l.2)).map (Value.int .i64))) := by
                show World.ownsRow _ _ _ _ _ _ _
                rw [cut_length h12]; exact owns_base HO6.out (Nat.le_trans hsz hwcs)
              obtain ⟨g5, c5, e5, hg5a, hg5b, _, _⟩ := owns_form HO6.out h1
              subst e5
              clear hP6 hb6 HRk HP5 HO5 hgen
              by_cases hc : cix H T' (e.1 * l.2) < T'.length
              · rw [partV_some hc] at hlk
                have HTR2 := hide (tryC_old HTR.out HL.out hc)
                generalize cix H T' (e.1 * l.2) = kk at *
                have HNUM6 := HNUM
                have HCNT6 := hcnt
                generalize rkP n (e.1 * l.2) = rk at *
                have HLi := hide HP6.out.quad.line
                go_wp2_with (at_builtin; refine wpList_append_keep _ rfl _ _ 23 rfl w.heap.size 3 j0 (.int .i64 0) 1 8 Try.underlying23 hji hjz0 hjz1 hjz2 rfl (by decide) _ _ _ rfl (HLi.out.alloc _) ⟨w6.heap.size, 0, none⟩ 1 1 [.int .i64 (kk : Int)] rfl rfl ?f1 ?f2 ?f3 ?f4 ?f5 ?_)
                case f1 => exact cell_one_new _ _ _
                case f2 => intro u hu; simp at hu; subst hu; rfl
                case f3 => unfold maxLen natI; rw [List.length_map]; have := HLNL.out; omega
                case f4 => unfold natI; rw [List.length_map]; have := HLNL.out; omega
                case f5 => have := HP6.out.below.size; simp; omega
                intro v20 w20 hown20 hg20 hp20
                have hP20 := (HP6.out.alloc (.cells #[.int .i64 (kk : Int)] 3)).push (x := (kk : Int)) (by rw [List.map_append]; exact hown20) hg20 (hp20.imp id (fun h => ⟨by rw [h.1]; simp, h.2⟩))
                have HP20 := hide (hP20.lists rfl rfl rfl (L' := natI (ln ++ [kk])) (by unfold natI; rw [List.map_append]; rfl))
                clear hown20 hg20 hp20 hP20 HLi
                go_wp2
                go_roundw
                case rel =>
                  have hfin : ∃ (j' cnt : Nat) (v1 v2 vl : Value) (s1 s2 : List Value) (T9 : List (Pm × List Int)) (ln9 : List Nat) (F : Int → Option Value), j' ≤ 2 * gl ∧ Value.slice (some ⟨g1, 0, none⟩) T'.length c1 = v1 ∧ Value.slice (some ⟨g2, 0, none⟩) T'.length c2 = v2 ∧ v20 = vl ∧ Value.int .i64 ((j : Int) + 1) = .int .i64 (j' : Int) ∧ Hid ((T9, ln9) = tryCs H (letters 0 gss) e T j') ∧ Hid (NumOk H n T9 F) ∧ Hid (cnt ≤ 5040 * T9.length) ∧ PRel w w20 (w1.heap.size + 1 + 1) v1 v2 u11 s1 s2 s3 (T9.map (fun e => cut n e.1)) (T9.map (·.2)) (N.map natI) vl (natI ln9) F cnt := ⟨j + 1, _, _, _, _, _, _, T', ln ++ [kk], _, hjl, rfl, rfl, rfl, by go_num, HTR2, HNUM6, HCNT6, HP20.out⟩
                  first
                    | exact hfin
                    | ((repeat apply Exists.intro); exact ⟨hfin, rfl⟩)
                case measure => simp [intOf]; omega
              · rw [partV_none hc] at hlk
                have HTR2 := hide (tryC_new HTR.out HL.out hc)
                have HNEW := hide (cix_none hc)
                have HrA : Hid (w6.ownsRow w.heap.size 23 1 (.slice (some ⟨g1, 0, none⟩) T'.length c1) T'.length s1) := by
                  have h9 := HP6.out.quad.tri.l1.row
                  rw [HL1'.out] at h9
                  exact h9
                generalize rkP n (e.1 * l.2) = rk at *
                go_wp2_with (at_builtin; refine wpList_append_keep _ rfl _ _ 22 rfl w.heap.size 23 i0 (.slice none 0 0) 1 24 Try.underlying22 hi hz0 hz1 hz2 rfl (by decide) _ T'.length s1 rfl (HrA.out.alloc _) ⟨w6.heap.size, 0, none⟩ 1 1 [.slice (some ⟨g5, 0, none⟩) n c5] rfl rfl ?d1 ?d2 ?d3 ?d4 ?d5 ?_)
                case d1 => exact cell_one_new _ _ _
                case d2 => intro u hu; simp at hu; subst hu; rfl
                case d3 => unfold maxLen; omega
                case d4 => omega
                case d5 => simp; omega
                intro v7 w7 hown7 hg7 hp7
                have hP7 := (HP6.out.alloc (.cells #[.slice (some ⟨g5, 0, none⟩) n c5] 23)).add1 (X := cut n (e.1 * l.2)) (HU6.out.alloc _) HUA.out (by rw [HL1'.out]; exact hown7) hg7 (hp7.imp id (fun h => ⟨by rw [h.1]; simp, h.2⟩))
                have HU7 := hide (owns_kept_ty (HU6.out.alloc (.cells #[.slice (some ⟨g5, 0, none⟩) n c5] 23)) (HrA.out.alloc _) hg7)
                have hs77 := hP7.below.size
                have hr2 := hP7.quad.tri.l2.row
                rw [HL2'.out] at hr2
                obtain ⟨uw7, hcw7, how7⟩ := word_at hr2 hP7.quad.tri.l2.all (i := i) (X := e.2) (by rw [List.getElem?_map, HEI.out]; rfl) (by rw [List.length_map])
                have hg27 := (hr2.lt g2 rfl).2
                have hE5 : Hid ((w7.alloc (.cells #[] 3)).ownsRow w7.heap.size 3 1 (.slice (some ⟨w7.heap.size, 0, none⟩) 0 0) 0 []) := World.ownsRow_made w7 #[] 0 (Nat.le_refl _) (by decide) (by simp)
                have hcw5 : (w7.alloc (.cells #[] 3)).cell? ⟨g2, i, none⟩ = some uw7 := by rw [World.cell?_of_block (w := w7) (a := ⟨g2, i, none⟩) (Below.heap_alloc w7 _ g2 hg27)]; exact hcw7
                have HW5 := hide (how7.alloc (.cells #[] 3))
                have HMX : Hid (e.2.length ≤ maxLen) := by unfold Hid maxLen; omega
                have HMY : Hid (e.2.length * 8 ≤ 140737488355328) := by unfold Hid; omega
                have HMZ : Hid (w7.heap.size ≤ (w7.alloc (.cells #[] 3)).heap.size) := by unfold Hid; simp
                have HP7 := hide hP7
                obtain ⟨uwp, uwc, euw⟩ := owns_slice how7
                subst euw
                clear hown7 hg7 hp7 hP7 hr2 hcw7 how7 HP6 HU6 HrA hcuw hcue'
                go_wp2_with (at_builtin; refine wpList_append_copy rfl _ _ 23 rfl w7.heap.size w.heap.size 3 j0 (.int .i64 0) 8 Try.underlying23 hji hjz0 hjz1 hjz2 rfl w7.heap.size rfl hE5.out _ e.2.length (e.2.map (Value.int .i64)) rfl HW5.out (ints_oneCell .i64 e.2) HMX.out HMY.out HMZ.out ?_)
                intro v8 w8 hown8 hg8
                have hb8 : Below w7.heap.size w7 w8 := ((Below.refl _ _).alloc (Nat.le_refl _) _).grown hg8 (by simp) (fun k hk => by have e' : w7.heap.size = k := Option.some.inj hk; omega)
                have hs88 := hb8.size
                have HB8 := hide hb8
                clear hb8 hg8 hE5 HW5 hcw5
                go_wp2_with (at_builtin; refine wpList_append_own _ rfl _ _ 23 rfl w7.heap.size 3 j0 (.int .i64 0) 1 8 Try.underlying23 hji hjz0 hjz1 hjz2 rfl (by decide) _ _ _ rfl (hown8.alloc _) ⟨w8.heap.size, 0, none⟩ 1 1 [.int .i64 l.1] rfl rfl ?g1 ?g2 ?g3 ?g4 ?g5 ?_)
                case g1 => exact cell_one_new _ _ _
                case g2 => intro u hu; simp at hu; subst hu; rfl
                case g3 => unfold maxLen; omega
                case g4 => omega
                case g5 => simp; omega
                intro v9 w9 hown9 hg9 _
                have hb9 : Below w7.heap.size w7 w9 := (HB8.out.alloc HB8.out.size _).grown hg9 (by simp; omega) (fun k hk => (hown8.lt k hk).1)
                have hP9 := HP7.out.later hb9
                have ho9 : w9.ownsRow w7.heap.size 3 1 v9 (e.2 ++ [l.1]).length ((e.2 ++ [l.1]).map (Value.int .i64)) := by rw [List.length_append, List.map_append]; exact hown9
                obtain ⟨g9, c9, e9, _, _, _, _⟩ := owns_form ho9 (by simp)
                subst e9
                have HUA9 : Hid (Apt (.slice (some ⟨g9, 0, none⟩) (e.2 ++ [l.1]).length c9) u15) := apt_new HP7.out.quad.line (fun g hg => (ho9.lt g hg).1)
                have HO9 := hide (owns_base ho9 hs77)
                have HU9 := hide (owns_below HU7.out hb9 (Nat.le_refl _))
                have HP9 := hide hP9
                have HrB : Hid (w9.ownsRow w.heap.size 23 1 (.slice (some ⟨g2, 0, none⟩) T'.length c2) T'.length s2) := by
                  have h9 := hP9.quad.tri.l2.row
                  rw [HL2'.out] at h9
                  exact h9
                have hs99 := hP9.below.size
                clear HP7 HB8 hown8 hown9 hg9 hb9 hP9 ho9 HU7
                generalize hlw : (e.2 ++ [l.1]).length = lw at *
                have HLW := hide hlw
                clear hlw
                go_wp2_with (at_builtin; refine wpList_append_keep _ rfl _ _ 22 rfl w.heap.size 23 i0 (.slice none 0 0) 1 24 Try.underlying22 hi hz0 hz1 hz2 rfl (by decide) _ T'.length s2 rfl (HrB.out.alloc _) ⟨w9.heap.size, 0, none⟩ 1 1 [.slice (some ⟨g9, 0, none⟩) lw c9] rfl rfl ?h1 ?h2 ?h3 ?h4 ?h5 ?_)
                case h1 => exact cell_one_new _ _ _
                case h2 => intro u hu; simp at hu; subst hu; rfl
                case h3 => unfold maxLen; omega
                case h4 => omega
                case h5 => simp; omega
                intro v10 w10 hown10 hg10 hp10
                have hP10 := (HP9.out.alloc (.cells #[.slice (some ⟨g9, 0, none⟩) lw c9] 23)).add2 (X := e.2 ++ [l.1]) (by have := HO9.out.alloc (.cells #[.slice (some ⟨g9, 0, none⟩) lw c9] 23); rw [HLW.out]; exact this) HUA9.out (by rw [HL2'.out]; exact hown10) hg10 (hp10.imp id (fun h => ⟨by rw [h.1]; simp, h.2⟩))
                have HU10 : Hid (w10.ownsRow w.heap.size 3 1 (.slice (some ⟨g5, 0, none⟩) n c5) n ((cut n (e.1 * l.2)).map (Value.int .i64))) := by
                  have h9 := owns_kept_ty (HU9.out.alloc (.cells #[.slice (some ⟨g9, 0, none⟩) lw c9] 23)) (HrB.out.alloc _) hg10
                  rw [cut_length h12] at h9
                  exact h9
                have HP10 := hide (hP10.lists (B1 := (T' ++ [(e.1 * l.2, e.2 ++ [l.1])]).map (fun e => cut n e.1)) (B2 := (T' ++ [(e.1 * l.2, e.2 ++ [l.1])]).map (·.2)) (by rw [List.map_append]; rfl) (by rw [List.map_append]; rfl) rfl rfl)
                have HNT := hide (NumTo.start HNUM.out (e.1 * l.2) Hs)
                have HC10 : Hid (cnt ≤ 5040 * T'.length + 0) := hcnt
                clear hown10 hg10 hp10 hP10 HP9 HO9 HU9 HrB HUA HUA9 hcnt HNUM hlk
                go_wp2
                go_loopw [22] (fun sm wr => ∃ (m cnt : Nat) (F : Int → Option Value), m ≤ hl ∧ sm = .int .i64 m ∧ Hid (NumTo H n T' (e.1 * l.2) Hs m F) ∧ Hid (cnt ≤ 5040 * T'.length + m) ∧ wr.ownsRow w.heap.size 3 1 (.slice (some ⟨g5, 0, none⟩) n c5) n ((cut n (e.1 * l.2)).map (Value.int .i64)) ∧ PRel w wr (w1.heap.size + 1 + 1) v7 v10 u11 (s1 ++ [.slice (some ⟨g5, 0, none⟩) n c5]) (s2 ++ [.slice (some ⟨g9, 0, none⟩) lw c9]) s3 ((T' ++ [(e.1 * l.2, e.2 ++ [l.1])]).map (fun e => cut n e.1)) ((T' ++ [(e.1 * l.2, e.2 ++ [l.1])]).map (·.2)) (N.map natI) u15 (natI ln) F cnt) (fun sm _ => hl - (intOf sm).toNat)
                case atStart => exact ⟨0, cnt, F, Nat.zero_le _, rfl, HNT, HC10, HU10.out, HP10.out⟩
                case round =>
                  clear HP10 HU10 HNT HC10
                  obtain ⟨m, cnt, F, hm, rfl, hN, hcnt, hu, hP⟩ := hrel
                  by_cases hml : m < hl
                  · obtain ⟨c, hcm⟩ : ∃ c, Hs[m]? = some c := ⟨_, List.getElem?_eq_getElem (by rw [HHL.out]; exact hml)⟩
                    obtain ⟨us, hcus, hius⟩ := HCS.out m c hcm
                    have hcf := HHF.out c ((HHS.out c).1 (List.mem_of_getElem? hcm))
                    have hcus' := (hP.below.cell (p := ⟨gsb, offs + m, none⟩) hgs).trans hcus
                    have HB2 := hide (rcut_by n c (e.1 * l.2) us (.slice (some ⟨g5, 0, none⟩) n c5) wr h1 h12 hcf HYF.out (hius.below hP.below) (Ints.own hu))
                    have HN2 := hide (hN.out.step h12 HYF.out hcf hcm)
                    have HCF := hide ((fixes_sub (fun b => n ≤ b)).mul hcf HYF.out)
                    have HP := hide hP
                    have HU := hide hu
                    clear hcus hius hcm hP hu hN
                    go_wp2_with fail
                    refine HB2.out.mono ?_
                    rintro ex w11 ⟨v11, rfl, hown11, hb11⟩
                    have HR11 := hide (rcut_rank n (c * (e.1 * l.2)) v11 w11 h1 h12 HCF.out (Ints.own hown11))
                    have HP11 := hide (HP.out.later hb11)
                    have HU11 := hide (owns_below HU.out hb11 (Nat.le_refl _))
                    clear hown11 hb11 HB2 HP HU
                    go_wp2_with fail
                    refine HR11.out.mono ?_
                    rintro ex w12 ⟨rfl, hb12⟩
                    have HP12 := hide (HP11.out.later hb12)
                    have HU12 := hide (owns_below HU11.out hb12 (Nat.le_refl _))
                    have HMP := hide HP12.out.map
                    have HC2 : Hid (cnt + 1 ≤ 5040 * T'.length + (m + 1)) := by have := hcnt.out; unfold Hid; omega
                    have hclm : cnt < maxLen := by have := hcnt.out; unfold maxLen; omega
                    have hkb2 := rkP_le (c * (e.1 * l.2)) h12
                    clear hb12 HR11 HP11 HU11 hcnt
                    generalize hrk2 : rkP n (c * (e.1 * l.2)) = rk2 at *
                    clear hrk2
                    go_wp2_with (at_mapUpdate; refine wpList_put rfl _ _ _ 108 rfl 3 Try.underlying108 HMP.out hclm ((rk2 : Nat) : Int) (.int .i64 ((T'.length : Nat) : Int)) rfl rfl rfl (by omega) (by omega) ?_)
                    intro w13 hM13 hg13
                    have HP13 := hide (HP12.out.put hM13 hg13)
                    have HU13 := hide (owns_map_kept HU12.out HMP.out hg13)
                    clear hM13 hg13 HMP HP12 HU12
                    go_wp2
                    go_roundw
                    case rel =>
                      have hfin : ∃ (m' cnt : Nat) (F : Int → Option Value), m' ≤ hl ∧ Value.int .i64 ((m : Int) + 1) = .int .i64 (m' : Int) ∧ Hid (NumTo H n T' (e.1 * l.2) Hs m' F) ∧ Hid (cnt ≤ 5040 * T'.length + m') ∧ w13.ownsRow w.heap.size 3 1 (.slice (some ⟨g5, 0, none⟩) n c5) n ((cut n (e.1 * l.2)).map (Value.int .i64)) ∧ PRel w w13 (w1.heap.size + 1 + 1) v7 v10 u11 (s1 ++ [.slice (some ⟨g5, 0, none⟩) n c5]) (s2 ++ [.slice (some ⟨g9, 0, none⟩) lw c9]) s3 ((T' ++ [(e.1 * l.2, e.2 ++ [l.1])]).map (fun e => cut n e.1)) ((T' ++ [(e.1 * l.2, e.2 ++ [l.1])]).map (·.2)) (N.map natI) u15 (natI ln) F cnt := ⟨m + 1, _, _, hml, by go_num, HN2, HC2, HU13.out, HP13.out⟩
                      first
                        | exact hfin
                        | ((repeat apply Exists.intro); exact ⟨hfin, rfl⟩)
                    case measure => simp [intOf]; omega
                  · obtain rfl : hl = m := by omega
                    have HNUM30 : Hid (NumOk H n (T' ++ [(e.1 * l.2, e.2 ++ [l.1])]) F) := by
                      have h9 := hN.out
                      rw [← HHL.out] at h9
                      exact NumTo.done (d := (e.1 * l.2, e.2 ++ [l.1])) HH.out h9 HHS.out HNEW.out
                    have HCNT30 : Hid (cnt ≤ 5040 * (T' ++ [(e.1 * l.2, e.2 ++ [l.1])]).length) := by have := hcnt.out; unfold Hid; rw [List.length_append, List.length_singleton]; omega
                    have HP30 := hide hP
                    clear hP hu hN hcnt
                    have HLi := hide HP30.out.quad.line
                    go_wp2_with (at_builtin; refine wpList_append_keep _ rfl _ _ 23 rfl w.heap.size 3 j0 (.int .i64 0) 1 8 Try.underlying23 hji hjz0 hjz1 hjz2 rfl (by decide) _ _ _ rfl (HLi.out.alloc _) ⟨wr.heap.size, 0, none⟩ 1 1 [.int .i64 ((T'.length : Nat) : Int)] rfl rfl ?k1 ?k2 ?k3 ?k4 ?k5 ?_)
                    case k1 => exact cell_one_new _ _ _
                    case k2 => intro u hu; simp at hu; subst hu; rfl
                    case k3 => unfold maxLen natI; rw [List.length_map]; have := HLNL.out; omega
                    case k4 => unfold natI; rw [List.length_map]; have := HLNL.out; omega
                    case k5 => have := HP30.out.below.size; simp; omega
                    intro v20 w20 hown20 hg20 hp20
                    have hP20 := (HP30.out.alloc (.cells #[.int .i64 ((T'.length : Nat) : Int)] 3)).push (x := ((T'.length : Nat) : Int)) (by rw [List.map_append]; exact hown20) hg20 (hp20.imp id (fun h => ⟨by rw [h.1]; simp, h.2⟩))
                    have HP20 := hide (hP20.lists rfl rfl rfl (L' := natI (ln ++ [T'.length])) (by unfold natI; rw [List.map_append]; rfl))
                    clear hown20 hg20 hp20 hP20 HLi
                    go_wp2
                    go_roundw
                    case rel =>
                      have hfin : ∃ (j' cnt : Nat) (v1 v2 vl : Value) (s1 s2 : List Value) (T9 : List (Pm × List Int)) (ln9 : List Nat) (F : Int → Option Value), j' ≤ 2 * gl ∧ v7 = v1 ∧ v10 = v2 ∧ v20 = vl ∧ Value.int .i64 ((j : Int) + 1) = .int .i64 (j' : Int) ∧ Hid ((T9, ln9) = tryCs H (letters 0 gss) e T j') ∧ Hid (NumOk H n T9 F) ∧ Hid (cnt ≤ 5040 * T9.length) ∧ PRel w w20 (w1.heap.size + 1 + 1) v1 v2 u11 s1 s2 s3 (T9.map (fun e => cut n e.1)) (T9.map (·.2)) (N.map natI) vl (natI ln9) F cnt := ⟨j + 1, _, _, _, _, _, _, T' ++ [(e.1 * l.2, e.2 ++ [l.1])], ln ++ [T'.length], _, hjl, rfl, rfl, rfl, by go_num, HTR2, HNUM30, HCNT30, HP20.out⟩
                      first
                        | exact hfin
                        | ((repeat apply Exists.intro); exact ⟨hfin, rfl⟩)
                    case measure => simp [intOf]; omega
            · obtain rfl : j = 2 * gl := by omega
              have HP := hide hP
              have HTR : Hid ((T', ln) = tryCs H (letters 0 gss) e T (letters 0 gss).length) := by
                show _ = _
                rw [letters_length, HGL.out]; exact hTr.out
              have HRun2 : Hid (RunC H (letters 0 gss) (i + 1) T' (N ++ [ln])) := by
                have h9 := HRUN.out
                rw [← HTR.out] at h9
                exact h9
              have HrC := hide hP.quad.tri.l3.row
              obtain ⟨lp, lc, el⟩ := owns_slice hP.quad.line
              rw [natI_length] at el
              have HLEN := hide hlnl
              have hs0 := hP.below.size
              have hiT2 : i + 1 ≤ T'.length := hiT'
              clear hP hTr hTO hmore hE' hl1' hl2'
              subst el
              generalize hln : ln.length = lnl at *
              have HLN2 := hide hln
              clear hln hlnl
              go_wp2_with (at_builtin; refine wpList_append_keep _ rfl _ _ 22 rfl w.heap.size 23 i0 (.slice none 0 0) 1 24 Try.underlying22 hi hz0 hz1 hz2 rfl (by decide) _ s3.length s3 rfl (HrC.out.alloc _) ⟨wr.heap.size, 0, none⟩ 1 1 [.slice lp lnl lc] rfl rfl ?m1 ?m2 ?m3 ?m4 ?m5 ?_)
              case m1 => exact cell_one_new _ _ _
              case m2 => intro u hu; simp at hu; subst hu; rfl
              case m3 => unfold maxLen; omega
              case m4 => omega
              case m5 => simp; omega
              intro v30 w30 hown30 hg30 hp30
              have hP30 := (HP.out.alloc (.cells #[.slice lp lnl lc] 23)).fin hown30 hg30 (hp30.imp id (fun h => ⟨by rw [h.1]; simp, h.2⟩))
              have HP30 := hide (hP30.lists rfl rfl (B3 := (N ++ [ln]).map natI) (by rw [List.map_append]; rfl) rfl)
              clear hown30 hg30 hp30 hP30 HP HrC
              go_wp2
              go_roundw
              case rel =>
                have hfin : ∃ (i' cnt : Nat) (v1 v2 v3 : Value) (s1 s2 s3 : List Value) (T9 : List (Pm × List Int)) (N9 : List (List Nat)) (F : Int → Option Value), i' ≤ T9.length ∧ u9 = v1 ∧ u10 = v2 ∧ v30 = v3 ∧ Value.int .i64 ((i : Int) + 1) = .int .i64 (i' : Int) ∧ Hid (RunC H (letters 0 gss) i' T9 N9) ∧ Hid (NumOk H n T9 F) ∧ Hid (cnt ≤ 5040 * T9.length) ∧ PRel w w30 (w1.heap.size + 1 + 1) v1 v2 v3 s1 s2 s3 (T9.map (fun e => cut n e.1)) (T9.map (·.2)) (N9.map natI) (.slice none 0 0) [] F cnt := ⟨i + 1, cnt, _, _, _, _, _, _, T', N ++ [ln], F, hiT2, rfl, rfl, rfl, by go_num, HRun2, hNum, hcnt, HP30.out⟩
                first
                  | exact hfin
                  | ((repeat apply Exists.intro); exact ⟨hfin, rfl⟩)
              case measure => simp [intOf]; omega
        · obtain rfl : i = T.length := by omega
          have HPP : Hid (RunC H (letters 0 gss) T.length T N ∧ IntsAll wr u11 (N.map natI) ∧ IntsAll wr u10 (T.map (·.2)) ∧ IntsAll wr u9 (T.map (fun e => cut n e.1)) ∧ Below w.heap.size w wr) := ⟨hRun.out, hP.quad.tri.l3.ints, hP.quad.tri.l2.ints, hP.quad.tri.l1.ints, hP.below⟩
          subst e1
          clear hP hRun hNum hcnt hO hr1 hl1'
          go_wp2
          go_ret3
          exact ⟨_, _, _, T, N, rfl, HPP.out⟩

end Go.Proofs.Ytimfoggjocajiaa

/- Contract: coset.lettersOf. -/
namespace Go.Proofs.Ytimfoggjocajiaa
open Go.RowKit

theorem Try.info148 : (Try.prog.info? 148).map (fun i => (i.zero, i.size, i.bytes)) = some (some (.agg #[.int .i64 0, .slice none 0 0]), 2, 32) := by kernel_rfl

theorem cells4_new (w : World) (a b c d : Value) (t : TypeId) : ∀ (j : Nat) (u : Value), [a, b, c, d][j]? = some u → (w.alloc (.cells #[a, b, c, d] t)).cell? ((⟨w.heap.size, 0, none⟩ : Addr).add j) = some u := by
  intro j u h
  rw [Addr.add_lit, Nat.zero_add]
  have e := heap_alloc_new w (.cells #[a, b, c, d] t)
  simp only [World.cell?, e]
  match j with
  | 0 => simpa using h
  | 1 => simpa using h
  | 2 => simpa using h
  | 3 => simpa using h
  | j + 4 => simp at h

/-- The letters that were laid so far. -/
structure LetR (wp w wr : World) (v : Value) (cs : List Value) (n : Nat) (gss : List (List Int)) (i : Nat) : Prop where
  row : wr.ownsRow w.heap.size 148 2 v (2 * i) cs
  let_ : ∀ (j : Nat) (l : Int × Pm), j < 2 * i → (letters 0 gss)[j]? = some l → cs[2 * j]? = some (.int .i64 l.1) ∧ ∃ u, cs[2 * j + 1]? = some u ∧ (Ints wp u (cut n l.2) ∨ wr.ownsRow w.heap.size 3 1 u n ((cut n l.2).map (Value.int .i64)))
  below : Below w.heap.size w wr

theorem LetR.later {wp w wr w' : World} {v : Value} {cs : List Value} {n i : Nat} {gss : List (List Int)} (h : LetR wp w wr v cs n gss i) (hb : Below wr.heap.size wr w') : LetR wp w w' v cs n gss i :=
  ⟨owns_of_block h.row (fun b hb' => hb.block b (h.row.lt b hb').2), fun j l hj hl => by
    obtain ⟨h1, u, h2, h3⟩ := h.let_ j l hj hl
    exact ⟨h1, u, h2, h3.imp id (fun h => owns_below h hb (Nat.le_refl _))⟩, h.below.trans (hb.mono h.below.size)⟩

theorem LetR.step {wp w wr w' : World} {v v' ug ub : Value} {cs : List Value} {n i : Nat} {gss : List (List Int)} {x : List Int} {o : Obj} (h : LetR wp w wr v cs n gss i) (h12 : n ≤ 12) (hx : gss[i]? = some x) (hr : isRow x) (hl : x.length = n) (hug : Ints wp ug x) (hub : wr.ownsRow w.heap.size 3 1 ub n ((cut n (pad x)⁻¹).map (Value.int .i64)))
    (hown : w'.ownsRow w.heap.size 148 2 v' (2 * i + 2) (cs ++ [.int .i64 ((i : Int) + 1), ug, .int .i64 (-(i : Int) - 1), ub])) (hg : (wr.alloc o).grownBy w' v.ownBlock) : LetR wp w w' v' (cs ++ [.int .i64 ((i : Int) + 1), ug, .int .i64 (-(i : Int) - 1), ub]) n gss (i + 1) := by
  have hcs : cs.length = 4 * i := by have := h.row.1; omega
  have hal := Below.alloc (Below.refl _ wr) (Nat.le_refl _) o
  have hA := h.later hal
  have hB : Below w.heap.size w w' := hA.below.grown hg hA.below.size (fun g hg' => (h.row.lt g hg').1)
  have hubA := owns_below hub hal (Nat.le_refl _)
  have hkeep : ∀ (u : Value) (k : Nat) (ys : List Value), (wr.alloc o).ownsRow w.heap.size 3 1 u k ys → w'.ownsRow w.heap.size 3 1 u k ys := fun u k ys hu => owns_of_block hu (fun b hb => hg.block b (hu.lt b hb).2 (fun e => by
    obtain ⟨c1, k1⟩ := owns_obj hu hb
    obtain ⟨c2, k2⟩ := owns_obj hA.row e.symm
    rw [k1] at k2
    injection k2 with k2
    injection k2 with _ k3
    exact absurd k3 (by decide)))
  refine ⟨by rw [show 2 * (i + 1) = 2 * i + 2 by omega]; exact hown, fun j l hj hlj => ?_, hB⟩
  by_cases h0 : j < 2 * i
  · obtain ⟨h1, u, h2, h3⟩ := hA.let_ j l h0 hlj
    refine ⟨by rw [List.getElem?_append_left (by omega)]; exact h1, u, by rw [List.getElem?_append_left (by omega)]; exact h2, ?_⟩
    exact h3.imp id (fun h => hkeep _ _ _ h)
  · rcases (show j = 2 * i ∨ j = 2 * i + 1 by omega) with e | e
    · subst e
      rw [letters_even hx, Nat.zero_add] at hlj
      rw [← Option.some.inj hlj]
      refine ⟨?_, ug, ?_, ?_⟩
      · rw [List.getElem?_append_right (by omega), show 2 * (2 * i) - cs.length = 0 by omega]; rfl
      · rw [List.getElem?_append_right (by omega), show 2 * (2 * i) + 1 - cs.length = 1 by omega]; rfl
      · left
        show Ints wp ug (cut n (pad x))
        rw [cut_pad h12 hl hr]; exact hug
    · subst e
      rw [letters_odd hx, Nat.zero_add] at hlj
      rw [← Option.some.inj hlj]
      refine ⟨?_, ub, ?_, ?_⟩
      · rw [List.getElem?_append_right (by omega), show 2 * (2 * i + 1) - cs.length = 2 by omega]
        show some (Value.int .i64 (-(i : Int) - 1)) = some (.int .i64 (-((i : Int) + 1)))
        rw [show (-(i : Int) - 1) = -((i : Int) + 1) by omega]
      · rw [List.getElem?_append_right (by omega), show 2 * (2 * i + 1) + 1 - cs.length = 3 by omega]; rfl
      · exact Or.inr (hkeep _ _ _ hubA)

/-- Letters in memory: rows that were there (wp), and rows from block B on. -/
structure LetAt (wp : World) (B : Nat) (w : World) (v : Value) (n : Nat) (gss : List (List Int)) : Prop where
  form : ∃ p c, v = .slice p (2 * gss.length) c
  cells : ∀ (j : Nat) (l : Int × Pm), (letters 0 gss)[j]? = some l → ∃ b c u, v = .slice (some ⟨b, 0, none⟩) (2 * gss.length) c ∧ 2 * gss.length ≤ c ∧ c ≤ 9223372036854775807 ∧ B ≤ b ∧ b < w.heap.size ∧ w.cell? ⟨b, j * 2, none⟩ = some (.int .i64 l.1) ∧ w.cell? ⟨b, j * 2 + 1, none⟩ = some u ∧ (Ints wp u (cut n l.2) ∨ w.ownsRow B 3 1 u n ((cut n l.2).map (Value.int .i64)))

/-- .. stay, as long as those blocks stay. -/
theorem LetAt.kept {wp w w' : World} {B : Nat} {v : Value} {n : Nat} {gss : List (List Int)} (h : LetAt wp B w v n gss) (hb : ∀ g, B ≤ g → g < w.heap.size → w'.heap[g]? = w.heap[g]?) (hs : w.heap.size ≤ w'.heap.size) : LetAt wp B w' v n gss :=
  ⟨h.form, fun j l hl => by
    obtain ⟨b, c, u, h1, h2, h3, h4, h5, h6, h7, h8⟩ := h.cells j l hl
    exact ⟨b, c, u, h1, h2, h3, h4, Nat.lt_of_lt_of_le h5 hs, by rw [World.cell?_of_block (w := w) (a := ⟨b, j * 2, none⟩) (hb b h4 h5)]; exact h6, by rw [World.cell?_of_block (w := w) (a := ⟨b, j * 2 + 1, none⟩) (hb b h4 h5)]; exact h7, h8.imp id (fun h9 => owns_of_block h9 (fun g hg => hb g (h9.lt g hg).1 (h9.lt g hg).2))⟩⟩

theorem LetR.done {wp w wr : World} {v : Value} {cs : List Value} {n : Nat} {gss : List (List Int)} (h : LetR wp w wr v cs n gss gss.length) : LetAt wp w.heap.size wr v n gss := by
  refine ⟨?_, fun j l hl => ?_⟩
  · rcases h.row.2 with ⟨hv, h0⟩ | ⟨g, cap, cur, hv, _⟩
    · rw [h0]; exact ⟨_, _, hv⟩
    · exact ⟨_, _, hv⟩
  · have hj : j < 2 * gss.length := by have := (List.getElem?_eq_some_iff.1 hl).1; rw [letters_length] at this; exact this
    obtain ⟨h1, u, h2, h3⟩ := h.let_ j l hj hl
    have hrow := h.row
    rcases h.row.2 with ⟨_, h0⟩ | ⟨g, cap, cur, hv, _, _, hn, hx, _⟩
    · omega
    · subst hv
      refine ⟨g, cap, u, rfl, hn, by unfold maxLen at hx; omega, (hrow.lt g rfl).1, (hrow.lt g rfl).2, ?_, ?_, h3⟩
      · have := hrow.cells (g := g) rfl (2 * j) _ h1
        rw [Addr.add_lit, Nat.zero_add] at this
        rw [Nat.mul_comm j 2]; exact this
      · have := hrow.cells (g := g) rfl (2 * j + 1) _ h2
        rw [Addr.add_lit, Nat.zero_add] at this
        rw [Nat.mul_comm j 2]; exact this

set_option maxRecDepth 20000 in
set_option maxHeartbeats 4000000 in
theorem lettersOf_ok (n : Nat) (v : Value) (gss : List (List Int)) (wp w : World) (hA : IntsAll wp v gss) (hbp : Below wp.heap.size wp w) (hR : RowsN n gss) (h1 : 1 ≤ n) (h12 : n ≤ 12) (h8 : gss.length ≤ 1000) :
    Calls Try.prog 74 #[v] w fun e w' => ∃ u, e = .returned u ∧ LetAt wp w.heap.size w' u n gss ∧ Below w.heap.size w w' := by
  obtain ⟨i0, hi, hz0, hz1, hz2⟩ := info_parts Try.info148
  obtain ⟨pg, cg, rfl⟩ := hA.len
  have HA := hide hA
  have HR := hide hR
  have HBP := hide hbp
  generalize hgl : gss.length = gl at *
  have HGL := hide hgl
  clear hA hR hgl hbp
  go_enter Try.func74, Try.ntmps74
  go_wp2
  go_loopw [3, 10] (fun sl si wr => ∃ (i : Nat) (u : Value) (cs : List Value), i ≤ gl ∧ sl = u ∧ si = .int .i64 i ∧ LetR wp w wr u cs n gss i) (fun _ si _ => gl - (intOf si).toNat)
  case atStart => exact ⟨0, _, [], Nat.zero_le _, rfl, rfl, ⟨World.ownsRow_nil _ _ _ _, fun j l hj => by omega, Below.refl _ _⟩⟩
  case round =>
    obtain ⟨i, u, cs, hig, rfl, rfl, hL⟩ := hrel
    by_cases hit : i < gl
    · obtain ⟨x, hx⟩ : ∃ x, gss[i]? = some x := ⟨_, List.getElem?_eq_getElem (by rw [HGL.out]; exact hit)⟩
      obtain ⟨hxr, hxl⟩ := HR.out x (List.mem_of_getElem? hx)
      obtain ⟨gg, og, hpg, hNg, hcg1, hcg2, hgg, hcellg⟩ := HA.out.rowI (by rw [HGL.out]; omega)
      obtain ⟨ux, hcux, hiux⟩ := hcellg _ x hx
      rw [HGL.out] at hcg1
      subst hpg
      have hbx : Below wp.heap.size wp wr := HBP.out.trans (hL.below.mono HBP.out.size)
      have hcux' := (hbx.cell (p := ⟨gg, og + i, none⟩) hgg).trans hcux
      obtain ⟨px, cx, epx⟩ := hiux.form
      rw [hxl] at epx
      subst epx
      have hpf := pad_fixes h12 hxl hxr
      have HBk := hide (crow_back n (pad x) (.slice px n cx) wr h1 h12 hpf (by rw [cut_pad h12 hxl hxr]; exact hiux.below hbx))
      have HL := hide hL
      have HX := hide hx
      have HXR := hide hxr
      have HXL := hide hxl
      have HIX := hide hiux
      clear hNg hcellg hcux hiux hL hx hbx hxr hxl hpf
      go_wp2_with fail
      refine HBk.out.mono ?_
      rintro ex w5 ⟨u5, rfl, hown5, hb5⟩
      have hL5 := HL.out.later hb5
      have hs5 := hL5.below.size
      have HO5 := hide (owns_base hown5 HL.out.below.size)
      obtain ⟨p5, c5, e5⟩ := owns_slice hown5
      subst e5
      have HL5 := hide hL5
      have HRw := hide hL5.row
      clear hown5 hb5 hL5 HBk HL
      go_wp2_with (at_builtin; refine wpList_append_own _ rfl _ _ 112 rfl w.heap.size 148 i0 (.agg #[.int .i64 0, .slice none 0 0]) 2 32 Try.underlying112 hi hz0 hz1 hz2 rfl (by decide) _ (2 * i) cs rfl (HRw.out.alloc _) ⟨w5.heap.size, 0, none⟩ 2 2 [.int .i64 ((i : Int) + 1), .slice px n cx, .int .i64 (-(i : Int) - 1), .slice p5 n c5] rfl rfl ?c1 ?c2 ?c3 ?c4 ?c5 ?_)
      case c1 => exact cells4_new _ _ _ _ _ _
      case c2 => intro u hu; simp at hu; rcases hu with rfl | rfl | rfl | rfl <;> rfl
      case c3 => unfold maxLen; omega
      case c4 => omega
      case c5 => simp; omega
      intro v6 w6 hown6 hg6 _
      have HL6 := hide (HL5.out.step h12 HX.out HXR.out HXL.out HIX.out HO5.out hown6 hg6)
      clear hown6 hg6 HL5 HRw
      go_wp2
      go_roundw
      case rel =>
        have hfin : ∃ (i' : Nat) (u : Value) (cs : List Value), i' ≤ gl ∧ v6 = u ∧ Value.int .i64 ((i : Int) + 1) = .int .i64 (i' : Int) ∧ LetR wp w w6 u cs n gss i' := ⟨i + 1, _, _, hit, rfl, by go_num, HL6.out⟩
        first
          | exact hfin
          | ((repeat apply Exists.intro); exact ⟨hfin, rfl⟩)
      case measure => simp [intOf]; omega
    · obtain rfl : gl = i := by omega
      have HD : Hid (LetAt wp w.heap.size wr u3 n gss) := by
        have h9 := hL
        rw [← HGL.out] at h9
        exact h9.done
      have HB := hide hL.below
      clear hL
      go_wp2
      go_ret
      exact ⟨_, rfl, HD.out, HB.out⟩

end Go.Proofs.Ytimfoggjocajiaa
