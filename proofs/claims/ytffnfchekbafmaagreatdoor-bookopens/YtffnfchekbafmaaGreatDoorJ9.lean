/- Joined: BrF, BoT, BqA, BqB. -/
import Derived.Test.YtffnfchekbafmaaGreatDoorJ7
import Derived.Test.YtffnfchekbafmaaGreatDoorJ8
import Derived.ArgAppend
/- Contract: the answer's readRecord. -/
namespace Go.Proofs.YtffnfchekbafmaaGreatDoor
open Go.RowKit Go.Lib
set_option maxRecDepth 100000
set_option linter.unusedVariables false

/-- Texts at the beginning of a block of texts. -/
structure RgZ (w : World) (g cap : Nat) (ring : List ByteArray) : Prop where
  lt : g < w.heap.size
  le : ring.length ≤ cap
  most : cap ≤ 9223372036854775807
  blk : ∃ (cur : Array Value) (fr : Nat × Nat), w.heap[g]? = some (.cells cur 9 fr) ∧ ∀ (j : Nat) (x : ByteArray), ring[j]? = some x → cur[j]? = some (Value.string x)

theorem RgZ.rgS {w : World} {g cap : Nat} {ring : List ByteArray} (h : RgZ w g cap ring) : RgS w (.slice (some ⟨g, 0, none⟩) ring.length cap) ring := by
  obtain ⟨cur, fr, h1, h2⟩ := h.blk
  exact ⟨g, 0, cap, cur, fr, rfl, h1, h.le, h.most, fun j x hj => by rw [Nat.zero_add]; exact h2 j x hj⟩

theorem RgZ.cell {w : World} {g cap : Nat} {ring : List ByteArray} (h : RgZ w g cap ring) {j : Nat} {x : ByteArray} (hj : ring[j]? = some x) : w.cell? ⟨g, j, none⟩ = some (.string x) := by
  obtain ⟨cur, fr, h1, h2⟩ := h.blk
  simp only [World.cell?, h1]
  exact h2 j x hj

theorem RgZ.below {w w' : World} {g cap : Nat} {ring : List ByteArray} (h : RgZ w g cap ring) (hb : Below w.heap.size w w') : RgZ w' g cap ring := by
  obtain ⟨cur, fr, h1, h2⟩ := h.blk
  exact ⟨Nat.lt_of_lt_of_le h.lt hb.size, h.le, h.most, cur, fr, (hb.block _ h.lt).trans h1, h2⟩

theorem cutZ_ok (c : UInt8) (s : ByteArray) (w : World) (hs : s.size ≤ 100000) :
    Calls Tryz.prog 22 #[.string s, .int .u8 (c.toNat : Int)] w fun e w' => ∃ g cap, e = .returned (.slice (some ⟨g, 0, none⟩) (cutT c s).length cap) ∧ RgZ w' g cap (cutT c s) ∧ w.heap.size ≤ g ∧ Below w.heap.size w w' := by
  refine (cutG_any c s w (by omega)).mono ?_
  rintro e w' ⟨v, rfl, hown, hb⟩
  have h1 : 1 ≤ (cutT c s).length := by
    have := cutT_ne c s
    cases h : cutT c s with
    | nil => exact absurd h this
    | cons a t => simp
  rcases hown.2 with ⟨_, h0⟩ | ⟨g, cap, cur, rfl, hg, hh, hn1, hn2, hn3, hn4⟩
  · omega
  · refine ⟨g, cap, rfl, ⟨(Array.getElem?_eq_some_iff.1 hh).1, hn1, by unfold maxLen at hn2; omega, cur, _, hh, fun j x hj => ?_⟩, hg, hb⟩
    have hjl : j < (cutT c s).length := (List.getElem?_eq_some_iff.1 hj).1
    have h5 : (sVals (cutT c s))[j]? = some (.string x) := by unfold sVals; rw [List.getElem?_map, hj]; rfl
    rw [← hn4, List.getElem?_take, if_pos (by omega), Array.getElem?_toList] at h5
    exact h5

/-- Nothing that may be has this line, unless what is read does. -/
theorem none_but {s P p0 p1 p2 p3 : ByteArray} {r : List ByteArray} (hP : cutT 35 s = P :: r) (hp : cutT 124 P = [p0, p1, p2, p3])
    {d c : Nat} {m : ByteArray} {ring : List ByteArray} (h : MayR (d : Int) (c : Int) m ring) (he : lnB (txB d c m ring) = s ++ ⟨#[10]⟩) : dgE p0.data.toList = (d : Int) ∧ dgE p1.data.toList = (c : Int) ∧ p2 = m ∧ cutT 44 p3 = ring := by
  obtain ⟨⟨r2, k1⟩, k2, k3⟩ := cut_back h he
  rw [hP] at k1
  injection k1 with e0 _
  rw [e0, k2] at hp
  injection hp with e0 hp
  injection hp with e1 hp
  injection hp with e2 hp
  injection hp with e3 hp
  have hd := h.d1
  have hc := h.c2
  refine ⟨?_, ?_, e2.symm, by rw [← e3]; exact k3⟩
  · rw [← e0]; show dgE (decDigits d).toArray.toList = _; rw [List.toList_toArray]; exact dgE_dec (by omega)
  · rw [← e1]; show dgE (decDigits c).toArray.toList = _; rw [List.toList_toArray]; exact dgE_dec (by omega)

/-- What reading a line without its end comes to. -/
def RrE (s : ByteArray) (w : World) (e : Ending) (w' : World) : Prop :=
  ((∃ (d c : Nat) (m : ByteArray) (ring : List ByteArray) (g cap : Nat), MayR (d : Int) (c : Int) m ring ∧ e = .returned (.tuple #[.agg #[.int .i64 (d : Int), .int .i64 (c : Int), .string m, .slice (some ⟨g, 0, none⟩) ring.length cap], .bool true]) ∧ RgS w' (.slice (some ⟨g, 0, none⟩) ring.length cap) ring ∧ lnB (txB d c m ring) = s ++ ⟨#[10]⟩) ∨
    (∃ (z0 z1 : Int) (m : ByteArray) (p : Option Addr) (l k : Nat), e = .returned (.tuple #[.agg #[.int .i64 z0, .int .i64 z1, .string m, .slice p l k], .bool false]) ∧ ∀ (d c : Nat) (m : ByteArray) (ring : List ByteArray), MayR (d : Int) (c : Int) m ring → lnB (txB d c m ring) ≠ s ++ ⟨#[10]⟩)) ∧ Below w.heap.size w w'

theorem results_cell_tmp9 {fn : Func} {p u : Tmp} {ty : TypeId} (h : fn.results = #[.cell p ty, .tmp u]) (tmps : Array Value) :
    results fn tmps = results fn tmps := rfl

theorem ret_rec_tmp {fn : Func} {R : Ending → World → Prop} {a : Act} {w : World} {p u : Tmp} {b : Nat} {cs : Array Value} {t : Value} (h : fn.results = #[.cell p 44, .tmp u]) (hp : a.tmps.getD p undef = .pointer (some ⟨b, 0, none⟩)) (hu : a.tmps.getD u undef = t) (hg : w.heap[b]? = some (.cells cs 44)) (hz : cs.size = 4) (hd : a.defers = []) (hR : R (.returned (.tuple #[.agg cs, t])) w) : bodyPost Tryz.prog fn R .ret a w := by
  refine bodyPost_ret (v := .tuple #[.agg cs, t]) ?_ hd hR
  have hp' : a.tmps[p]?.getD undef = .pointer (some ⟨b, 0, none⟩) := by simpa using hp
  have hu' : a.tmps[u]?.getD undef = t := by simpa using hu
  rw [results_cell_tmp h]
  simp [hp', hu', asAddr, Result.andThen, run_loadVar_row w b 44 44 cs _ _ hg Tryz.underlying44 rfl (by rw [hz]; kernel_rfl)]

/-- What region 5 makes: a box with the record. -/
structure BxR (B : Nat) (w wx : World) (b : Nat) (z0 z1 : Int) (m : ByteArray) (g cap : Nat) (ring : List ByteArray) : Prop where
  box : wx.heap[b]? = some (.cells #[.int .i64 z0, .int .i64 z1, .string m, .slice (some ⟨g, 0, none⟩) ring.length cap] 44)
  hi : B < b
  rg : RgZ wx g cap ring
  below : Below (B + 1) w wx

theorem alloc_here (w : World) (o : Obj) : (w.alloc o).heap[w.heap.size]? = some o ∧ w.heap.size < (w.alloc o).heap.size := ⟨heap_alloc_new w o, by show _ < (w.heap.push o).size; rw [Array.size_push]; omega⟩

theorem Below.up {n m : Nat} {w w' : World} (h : Below n w w') (hm : m ≤ n) : Below m w w' := h.mono hm

theorem stored4 {w : World} {b : Nat} {t : TypeId} {x0 x1 x2 x3 : Value} (h : w.heap[b]? = some (.cells #[x0, x1, x2, x3] t)) (y0 y1 y2 y3 : Value) : ((((w.setCell ⟨b, 0, none⟩ y0).setCell ⟨b, 1, none⟩ y1).setCell ⟨b, 2, none⟩ y2).setCell ⟨b, 3, none⟩ y3).heap[b]? = some (.cells #[y0, y1, y2, y3] t) := set4_all h y0 y1 y2 y3

theorem below_set4 {n b : Nat} {w w' : World} (h : Below n w w') (hb : n ≤ b) (y0 y1 y2 y3 : Value) : Below n w ((((w'.setCell ⟨b, 0, none⟩ y0).setCell ⟨b, 1, none⟩ y1).setCell ⟨b, 2, none⟩ y2).setCell ⟨b, 3, none⟩ y3) := (((h.setCell hb _).setCell hb _).setCell hb _).setCell hb _

theorem set4_off {w : World} {b b' : Nat} (h : b' ≠ b) (y0 y1 y2 y3 : Value) : ((((w.setCell ⟨b, 0, none⟩ y0).setCell ⟨b, 1, none⟩ y1).setCell ⟨b, 2, none⟩ y2).setCell ⟨b, 3, none⟩ y3).heap[b']? = w.heap[b']? :=
  (setCell_at _ _ _ _ h).trans ((setCell_at _ _ _ _ h).trans ((setCell_at _ _ _ _ h).trans (setCell_at _ _ _ _ h)))

theorem rgZ_set4 {w : World} {g cap b : Nat} {ring : List ByteArray} (h : RgZ w g cap ring) {x0 x1 x2 x3 : Value} (hx : w.heap[b]? = some (.cells #[x0, x1, x2, x3] 44)) (y0 y1 y2 y3 : Value) : RgZ ((((w.setCell ⟨b, 0, none⟩ y0).setCell ⟨b, 1, none⟩ y1).setCell ⟨b, 2, none⟩ y2).setCell ⟨b, 3, none⟩ y3) g cap ring := by
  obtain ⟨cur, fr, h1, h2⟩ := h.blk
  have hne : g ≠ b := by
    intro e
    rw [e, hx] at h1
    injection h1 with h1
    injection h1 with _ e2 _
    exact absurd e2 (by decide)
  have e : ((((w.setCell ⟨b, 0, none⟩ y0).setCell ⟨b, 1, none⟩ y1).setCell ⟨b, 2, none⟩ y2).setCell ⟨b, 3, none⟩ y3).heap[g]? = w.heap[g]? :=
    (setCell_at _ _ _ _ hne).trans ((setCell_at _ _ _ _ hne).trans ((setCell_at _ _ _ _ hne).trans (setCell_at _ _ _ _ hne)))
  refine ⟨?_, h.le, h.most, cur, fr, e.trans h1, h2⟩
  have := (Array.getElem?_eq_some_iff.1 (e.trans h1)).1
  exact this

set_option maxHeartbeats 8000000 in
theorem readRecord_ok (s : ByteArray) (w : World) (hs : s.size ≤ 4000) : Calls Tryz.prog 12 #[.string s] w (RrE s w) := by
  obtain ⟨W, hW⟩ : ∃ W, W = w.alloc (.cells #[.int .i64 0, .int .i64 0, .string ⟨#[]⟩, .slice none 0 0] 44) := ⟨_, rfl⟩
  have hbW : Below w.heap.size w W := by rw [hW]; exact (Below.refl _ _).alloc (Nat.le_refl _) _
  have hh : W.heap[w.heap.size]? = some (.cells #[.int .i64 0, .int .i64 0, .string ⟨#[]⟩, .slice none 0 0] 44) := by rw [hW]; exact heap_alloc_new w _
  have hsW : W.heap.size = w.heap.size + 1 := by rw [hW]; exact Array.size_push _
  have HRes : Hid (∀ V, Below W.heap.size W V → V.heap[w.heap.size]? = some (.cells #[.int .i64 0, .int .i64 0, .string ⟨#[]⟩, .slice none 0 0] 44)) := fun V hV => (hV.block _ (by omega)).trans hh
  have HC1 : Hid (Calls Tryz.prog 22 #[.string s, .int .u8 35] W fun e w' => ∃ g cap, e = .returned (.slice (some ⟨g, 0, none⟩) (cutT 35 s).length cap) ∧ RgZ w' g cap (cutT 35 s) ∧ W.heap.size ≤ g ∧ Below W.heap.size W w') := cutZ_ok 35 s W (by omega)
  obtain ⟨P, r, hP⟩ : ∃ P r, cutT 35 s = P :: r := by
    cases h : cutT 35 s with
    | nil => exact absurd h (cutT_ne 35 s)
    | cons a t => exact ⟨a, t, rfl⟩
  have hPs : P.size ≤ 4000 := by have := cutT_small 35 s P (by rw [hP]; simp); omega
  have HC2 : Hid (∀ V, Calls Tryz.prog 22 #[.string P, .int .u8 124] V fun e w' => ∃ g cap, e = .returned (.slice (some ⟨g, 0, none⟩) (cutT 124 P).length cap) ∧ RgZ w' g cap (cutT 124 P) ∧ V.heap.size ≤ g ∧ Below V.heap.size V w') := fun V => cutZ_ok 124 P V (by omega)
  have HNG : Hid (∀ {p0 p1 p2 p3 : ByteArray}, cutT 124 P = [p0, p1, p2, p3] → ∀ {d c : Nat} {m : ByteArray} {ring : List ByteArray}, MayR (d : Int) (c : Int) m ring → lnB (txB d c m ring) = s ++ ⟨#[10]⟩ → dgE p0.data.toList = (d : Int) ∧ dgE p1.data.toList = (c : Int) ∧ p2 = m ∧ cutT 44 p3 = ring) := fun {p0 p1 p2 p3} hp {d c m ring} h he => none_but hP hp h he
  have HN4 : Hid (∀ {d c : Nat} {m : ByteArray} {ring : List ByteArray}, MayR (d : Int) (c : Int) m ring → lnB (txB d c m ring) = s ++ ⟨#[10]⟩ → (cutT 124 P).length = 4) := fun {d c m ring} h he => by
    obtain ⟨⟨r2, k1⟩, k2, k3⟩ := cut_back h he
    rw [hP] at k1
    injection k1 with e0 _
    rw [e0, k2]
    rfl
  have hl0 : (cutT 35 s)[0]? = some P := by rw [hP]; rfl
  have hl1 : 1 ≤ (cutT 35 s).length := by rw [hP]; simp
  generalize cutT 35 s = A at *
  generalize hAL : A.length = La at *
  have HAL := hide hAL
  have HSM : Hid (∀ x, x ∈ cutT 124 P → x.size ≤ 4000) := fun x hx => by have := cutT_small 124 P x hx; omega
  have HB2 : Hid (cutT 124 P = cutT 124 P) := rfl
  have HL2 : Hid (1 ≤ (cutT 124 P).length) := by
    show 1 ≤ _
    cases h : cutT 124 P with
    | nil => exact absurd h (cutT_ne 124 P)
    | cons a t => simp
  have HW := hide hW
  have HBW := hide hbW
  have HSW := hide hsW
  have HSZ := hide hs
  have HL0 := hide hl0
  have HPP : Hid (∀ e w', ((∃ (d c : Nat) (m : ByteArray) (ring : List ByteArray) (g cap : Nat), MayR (d : Int) (c : Int) m ring ∧ e = .returned (.tuple #[.agg #[.int .i64 (d : Int), .int .i64 (c : Int), .string m, .slice (some ⟨g, 0, none⟩) ring.length cap], .bool true]) ∧ RgS w' (.slice (some ⟨g, 0, none⟩) ring.length cap) ring ∧ lnB (txB d c m ring) = s ++ ⟨#[10]⟩) ∨
    (∃ (z0 z1 : Int) (m : ByteArray) (p : Option Addr) (l k : Nat), e = .returned (.tuple #[.agg #[.int .i64 z0, .int .i64 z1, .string m, .slice p l k], .bool false]) ∧ ∀ (d c : Nat) (m : ByteArray) (ring : List ByteArray), MayR (d : Int) (c : Int) m ring → lnB (txB d c m ring) ≠ s ++ ⟨#[10]⟩)) ∧ Below w.heap.size w w' → RrE s w e w') := fun e w' h => h
  generalize RrE s w = PP at *
  clear hW hbW hh hsW hP hl0 hs hPs hAL
  go_enter Tryz.func12, Tryz.ntmps12
  go_wp2_with fail
  refine (HW.out ▸ HC1.out).mono ?_
  rintro e V1 ⟨g1, c1, rfl, hz1, hg1, hb1⟩
  rw [← HW.out] at hb1 hg1
  have p0 := hz1.cell HL0.out
  have q0 : La ≤ c1 := by have := hz1.le; rw [HAL.out] at this; exact this
  have q1 : c1 ≤ 9223372036854775807 := hz1.most
  have HB1 := hide hb1
  have hi1 : (0 : Int) < (La : Int) := by omega
  clear hz1 hb1 HC1 HW
  go_wp2_with fail
  refine (HC2.out V1).mono ?_
  rintro e V2 ⟨g2, c2, rfl, hz2, hg2, hb2⟩
  have HB2' : Hid (Below W.heap.size W V2) := HB1.out.trans (hb2.mono HB1.out.size)
  have HZ2 := hide hz2
  have HG2 := hide (Nat.le_trans HB1.out.size hg2)
  clear hz2 hb2 hg2 HC2 p0 q0 q1 hi1
  by_cases h4 : (cutT 124 P).length = 4
  · obtain ⟨p0, p1, p2, p3, hp⟩ : ∃ p0 p1 p2 p3, cutT 124 P = [p0, p1, p2, p3] := by
      match h : cutT 124 P, h4 with
      | [a, b, c, d], _ => exact ⟨a, b, c, d, rfl⟩
    have hsm := HSM.out
    rw [hp] at hsm
    have hs0 := hsm p0 (by simp)
    have hs1 := hsm p1 (by simp)
    have hs2 := hsm p2 (by simp)
    have hs3 := hsm p3 (by simp)
    have hz := HZ2.out
    rw [hp] at hz
    have m0 := hz.cell (j := 0) (x := p0) rfl
    have m1 := hz.cell (j := 1) (x := p1) rfl
    have m2 := hz.cell (j := 2) (x := p2) rfl
    have m3 := hz.cell (j := 3) (x := p3) rfl
    have hlt2 := hz.lt
    have hc24 : 4 ≤ c2 := hz.le
    have hc2m := hz.most
    have HP2 : Hid (p2.size ≤ 4000) := hs2
    have HNB : Hid (∀ {d c : Nat} {m : ByteArray} {ring : List ByteArray}, MayR (d : Int) (c : Int) m ring → lnB (txB d c m ring) = s ++ ⟨#[10]⟩ → dgE p0.data.toList = (d : Int) ∧ dgE p1.data.toList = (c : Int) ∧ p2 = m ∧ cutT 44 p3 = ring) := fun {d c m ring} h he => HNG.out hp h he
    have HD0 : Hid (∀ V, Calls Tryz.prog 23 #[.string p0] V fun e w' => e = .returned (.int .i64 (dgE p0.data.toList)) ∧ V = w') := fun V => digits_any p0 V (by omega)
    have HD1 : Hid (∀ V, Calls Tryz.prog 23 #[.string p1] V fun e w' => e = .returned (.int .i64 (dgE p1.data.toList)) ∧ V = w') := fun V => digits_any p1 V (by omega)
    have HC3 : Hid (∀ V, Calls Tryz.prog 22 #[.string p3, .int .u8 44] V fun e w' => ∃ g cap, e = .returned (.slice (some ⟨g, 0, none⟩) (cutT 44 p3).length cap) ∧ RgZ w' g cap (cutT 44 p3) ∧ V.heap.size ≤ g ∧ Below V.heap.size V w') := fun V => cutZ_ok 44 p3 V (by omega)
    have HRS : Hid (∀ x, x ∈ cutT 44 p3 → x.size ≤ 4000) := fun x hx => by have := cutT_small 44 p3 x hx; omega
    have HR1 : Hid (1 ≤ (cutT 44 p3).length) := by
      show 1 ≤ _
      cases h : cutT 44 p3 with
      | nil => exact absurd h (cutT_ne 44 p3)
      | cons a t => simp
    rw [h4]
    generalize dgE p0.data.toList = z0 at *
    generalize dgE p1.data.toList = z1 at *
    generalize cutT 44 p3 = ring at *
    have HK : Hid (∀ V, Below V2.heap.size V2 V → V.cell? ⟨g2, 0, none⟩ = some (.string p0) ∧ V.cell? ⟨g2, 1, none⟩ = some (.string p1) ∧ V.cell? ⟨g2, 2, none⟩ = some (.string p2) ∧ V.cell? ⟨g2, 3, none⟩ = some (.string p3)) := fun V hV => ⟨(hV.cell (p := ⟨g2, 0, none⟩) hlt2).trans m0, (hV.cell (p := ⟨g2, 1, none⟩) hlt2).trans m1, (hV.cell (p := ⟨g2, 2, none⟩) hlt2).trans m2, (hV.cell (p := ⟨g2, 3, none⟩) hlt2).trans m3⟩
    have HS2 : Hid (w.heap.size + 1 ≤ V2.heap.size) := by have h1 := HB2'.out.size; have h2 := HSW.out; show _ ≤ _; omega
    clear hz hsm HSM HL2 hp h4 m0 m1 m2 m3 HZ2 hs0 hs1 hs2 hs3 HB2 HNG HN4
    go_wp2_with fail
    go_upto_region 5 with fail
    go_cut [6] from 18 to 33 (fun bv wx => ∃ (b g cap : Nat), bv = .pointer (some ⟨b, 0, none⟩) ∧ Hid (BxR w.heap.size V2 wx b z0 z1 p2 g cap ring))
    case first =>
      refine wp_region_held_drew (S := fun W' => W'.cell? ⟨g2, 0, none⟩ = some (.string p0) ∧ W'.cell? ⟨g2, 1, none⟩ = some (.string p1) ∧ W'.cell? ⟨g2, 2, none⟩ = some (.string p2) ∧ W'.cell? ⟨g2, 3, none⟩ = some (.string p3)) (by kernel_rfl) (HK.out _ (Below.refl _ _).drew) (fun hS => ?_)
      refine wpAnyH_take (i := 0) (v := .slice (some ⟨g2, 0, none⟩) 4 c2) rfl (by kernel_rfl) (by kernel_rfl) (by kernel_rfl) (fun _ _ _ h => h) (Or.inl ⟨by kernel_rfl, fun w' hS' => by clear hS'; go_simp⟩) hS ?_
      refine wpAnyH_take (i := 1) (v := .pointer (some ⟨g2, 0, none⟩)) rfl (by kernel_rfl) (by kernel_rfl) (by kernel_rfl) (fun _ _ _ h => h) (Or.inl ⟨by kernel_rfl, fun w' hS' => by clear hS'; go_simp⟩) hS ?_
      refine wpAnyH_take (i := 2) (v := .string p0) rfl (by kernel_rfl) (by kernel_rfl) (by kernel_rfl) (fun _ _ _ h => h) (Or.inl ⟨by kernel_rfl, fun w' hS' => by have h2 := hS'.1; clear hS'; go_simp⟩) hS ?_
      refine wpAnyH_take (i := 4) (v := .slice (some ⟨g2, 0, none⟩) 4 c2) rfl (by kernel_rfl) (by kernel_rfl) (by kernel_rfl) (fun _ _ _ h => h) (Or.inl ⟨by kernel_rfl, fun w' hS' => by clear hS'; go_simp⟩) hS ?_
      refine wpAnyH_take (i := 5) (v := .pointer (some ⟨g2, 1, none⟩)) rfl (by kernel_rfl) (by kernel_rfl) (by kernel_rfl) (fun _ _ _ h => h) (Or.inl ⟨by kernel_rfl, fun w' hS' => by clear hS'; go_simp⟩) hS ?_
      refine wpAnyH_take (i := 6) (v := .string p1) rfl (by kernel_rfl) (by kernel_rfl) (by kernel_rfl) (fun _ _ _ h => h) (Or.inl ⟨by kernel_rfl, fun w' hS' => by have h2 := hS'.2.1; clear hS'; go_simp⟩) hS ?_
      refine wpAnyH_take (i := 8) (v := .slice (some ⟨g2, 0, none⟩) 4 c2) rfl (by kernel_rfl) (by kernel_rfl) (by kernel_rfl) (fun _ _ _ h => h) (Or.inl ⟨by kernel_rfl, fun w' hS' => by clear hS'; go_simp⟩) hS ?_
      refine wpAnyH_take (i := 9) (v := .pointer (some ⟨g2, 2, none⟩)) rfl (by kernel_rfl) (by kernel_rfl) (by kernel_rfl) (fun _ _ _ h => h) (Or.inl ⟨by kernel_rfl, fun w' hS' => by clear hS'; go_simp⟩) hS ?_
      refine wpAnyH_take (i := 10) (v := .string p2) rfl (by kernel_rfl) (by kernel_rfl) (by kernel_rfl) (fun _ _ _ h => h) (Or.inl ⟨by kernel_rfl, fun w' hS' => by have h2 := hS'.2.2.1; clear hS'; go_simp⟩) hS ?_
      refine wpAnyH_take (i := 11) (v := .slice (some ⟨g2, 0, none⟩) 4 c2) rfl (by kernel_rfl) (by kernel_rfl) (by kernel_rfl) (fun _ _ _ h => h) (Or.inl ⟨by kernel_rfl, fun w' hS' => by clear hS'; go_simp⟩) hS ?_
      refine wpAnyH_take (i := 12) (v := .pointer (some ⟨g2, 3, none⟩)) rfl (by kernel_rfl) (by kernel_rfl) (by kernel_rfl) (fun _ _ _ h => h) (Or.inl ⟨by kernel_rfl, fun w' hS' => by clear hS'; go_simp⟩) hS ?_
      refine wpAnyH_take (i := 13) (v := .string p3) rfl (by kernel_rfl) (by kernel_rfl) (by kernel_rfl) (fun _ _ _ h => h) (Or.inl ⟨by kernel_rfl, fun w' hS' => by have h2 := hS'.2.2.2; clear hS'; go_simp⟩) hS ?_
      have hB : Below V2.heap.size V2 V2.drew := (Below.refl _ _).drew
      refine wpAnyH_ready (rs := [3, 16]) (by kernel_rfl) (by simp) ?_
      refine AllReadyH.cons rfl (fun K hK => ?_) (AllReadyH.cons rfl (fun K hK => ?_) AllReadyH.nil)
      · go_simp
        refine (HD0.out _).mono ?_
        rintro e V9 ⟨rfl, rfl⟩
        refine hK.out _ _ (HK.out _ hB) (fun hS => ?_)
        clear hK
        refine wpAnyH_ready (rs := [7, 16]) (by kernel_rfl) (by simp) ?_
        refine AllReadyH.cons rfl (fun K hK => ?_) (AllReadyH.cons rfl (fun K hK => ?_) AllReadyH.nil)
        · go_simp
          refine (HD1.out _).mono ?_
          rintro e V9 ⟨rfl, rfl⟩
          refine hK.out _ _ (HK.out _ hB) (fun hS => ?_)
          clear hK
          refine wpAnyH_ready (rs := [14, 16]) (by kernel_rfl) (by simp) ?_
          refine AllReadyH.cons rfl (fun K hK => ?_) (AllReadyH.cons rfl (fun K hK => ?_) AllReadyH.nil)
          · go_simp
            refine (HC3.out _).mono ?_
            rintro e V4 ⟨g4, c4, rfl, hz4, hg4, hb4⟩
            have hB4 := hB.trans (hb4.mono hB.size)
            refine hK.out _ _ (HK.out _ hB4) (fun hS => ?_)
            clear hK
            refine wpAnyH_take (i := 15) (v := .agg #[.int .i64 z0, .int .i64 z1, .string p2, .slice (some ⟨g4, 0, none⟩) ring.length c4]) rfl (by kernel_rfl) (by kernel_rfl) (by kernel_rfl) (fun _ _ _ h => h) (Or.inl ⟨by kernel_rfl, fun w' hS' => by clear hS'; go_simp⟩) hS ?_
            refine wpAnyH_ready (rs := [16]) (by kernel_rfl) (by simp) ?_
            refine AllReadyH.cons rfl (fun K hK => ?_) AllReadyH.nil
            go_simp
            have hX4 := (alloc_here V4 (.cells #[.int .i64 0, .int .i64 0, .string ⟨#[]⟩, .slice none 0 0] 44)).1
            have hB5 := hB4.alloc hB4.size (.cells #[.int .i64 0, .int .i64 0, .string ⟨#[]⟩, .slice none 0 0] 44)
            refine hK.out _ _ (HK.out _ hB5) (fun hS => ?_)
            clear hK
            obtain ⟨⟨j0, j1, j2, j3⟩, i0, i1, i2, i3⟩ := cells4 hX4
            have HFN : Hid (BxR w.heap.size V2 (V4.alloc (.cells #[.int .i64 z0, .int .i64 z1, .string p2, .slice (some ⟨g4, 0, none⟩) ring.length c4] 44)) V4.heap.size z0 z1 p2 g4 c4 ring) := ⟨heap_alloc_new V4 _, Nat.le_trans HS2.out hB4.size, hz4.below ((Below.refl _ _).alloc (Nat.le_refl _) _), Below.up (hB4.alloc hB4.size _) HS2.out⟩
            refine wpAnyH_ready (rs := [17]) (by kernel_rfl) (by simp) ?_
            refine AllReadyH.cons rfl (fun K hK => ?_) AllReadyH.nil
            go_simp
            refine hK.out _ _ (HK.out _ (hB4.alloc hB4.size _)) (fun hS => ?_)
            clear hK
            refine wpAnyH_done (by kernel_rfl) ?_ _
            clear hS
            go_simp
            go_step
            go_meet
            exact ⟨_, _, _, rfl, HFN⟩
          · go_simp
            have hX : (V2.drew.alloc (.cells #[.int .i64 0, .int .i64 0, .string ⟨#[]⟩, .slice none 0 0] 44)).heap[V2.heap.size]? = some (.cells #[.int .i64 0, .int .i64 0, .string ⟨#[]⟩, .slice none 0 0] 44) ∧ V2.heap.size < (V2.drew.alloc (.cells #[.int .i64 0, .int .i64 0, .string ⟨#[]⟩, .slice none 0 0] 44)).heap.size := alloc_here V2.drew _
            have hB : Below V2.heap.size V2 (V2.drew.alloc (.cells #[.int .i64 0, .int .i64 0, .string ⟨#[]⟩, .slice none 0 0] 44)) := hB.alloc (Nat.le_refl _) _
            refine hK.out _ _ (HK.out _ hB) (fun hS => ?_)
            clear hK
            refine wpAnyH_ready (rs := [14]) (by kernel_rfl) (by simp) ?_
            refine AllReadyH.cons rfl (fun K hK => ?_) AllReadyH.nil
            go_simp
            refine (HC3.out _).mono ?_
            rintro e V4 ⟨g4, c4, rfl, hz4, hg4, hb4⟩
            have hX4 := (hb4.block _ hX.2).trans hX.1
            have hB4 := hB.trans (hb4.mono hB.size)
            refine hK.out _ _ (HK.out _ hB4) (fun hS => ?_)
            clear hK
            refine wpAnyH_take (i := 15) (v := .agg #[.int .i64 z0, .int .i64 z1, .string p2, .slice (some ⟨g4, 0, none⟩) ring.length c4]) rfl (by kernel_rfl) (by kernel_rfl) (by kernel_rfl) (fun _ _ _ h => h) (Or.inl ⟨by kernel_rfl, fun w' hS' => by clear hS'; go_simp⟩) hS ?_
            have hst := stored4 hX4 (.int .i64 z0) (.int .i64 z1) (.string p2) (.slice (some ⟨g4, 0, none⟩) ring.length c4)
            obtain ⟨⟨j0, j1, j2, j3⟩, i0, i1, i2, i3⟩ := cells4 hX4
            have HFN : Hid (BxR w.heap.size V2 _ V2.heap.size z0 z1 p2 g4 c4 ring) := ⟨hst, HS2.out, rgZ_set4 hz4 hX4 _ _ _ _, below_set4 (Below.up (hB4) HS2.out) (HS2.out) _ _ _ _⟩
            refine wpAnyH_ready (rs := [17]) (by kernel_rfl) (by simp) ?_
            refine AllReadyH.cons rfl (fun K hK => ?_) AllReadyH.nil
            go_simp
            refine hK.out _ _ (HK.out _ (below_set4 (hB4) (Nat.le_refl _) _ _ _ _)) (fun hS => ?_)
            clear hK
            refine wpAnyH_done (by kernel_rfl) ?_ _
            clear hS
            go_simp
            go_step
            go_meet
            exact ⟨_, _, _, rfl, HFN⟩
        · go_simp
          have hX : (V2.drew.alloc (.cells #[.int .i64 0, .int .i64 0, .string ⟨#[]⟩, .slice none 0 0] 44)).heap[V2.heap.size]? = some (.cells #[.int .i64 0, .int .i64 0, .string ⟨#[]⟩, .slice none 0 0] 44) ∧ V2.heap.size < (V2.drew.alloc (.cells #[.int .i64 0, .int .i64 0, .string ⟨#[]⟩, .slice none 0 0] 44)).heap.size := alloc_here V2.drew _
          have hB : Below V2.heap.size V2 (V2.drew.alloc (.cells #[.int .i64 0, .int .i64 0, .string ⟨#[]⟩, .slice none 0 0] 44)) := hB.alloc (Nat.le_refl _) _
          refine hK.out _ _ (HK.out _ hB) (fun hS => ?_)
          clear hK
          refine wpAnyH_ready (rs := [7]) (by kernel_rfl) (by simp) ?_
          refine AllReadyH.cons rfl (fun K hK => ?_) AllReadyH.nil
          go_simp
          refine (HD1.out _).mono ?_
          rintro e V9 ⟨rfl, rfl⟩
          refine hK.out _ _ (HK.out _ hB) (fun hS => ?_)
          clear hK
          refine wpAnyH_ready (rs := [14]) (by kernel_rfl) (by simp) ?_
          refine AllReadyH.cons rfl (fun K hK => ?_) AllReadyH.nil
          go_simp
          refine (HC3.out _).mono ?_
          rintro e V4 ⟨g4, c4, rfl, hz4, hg4, hb4⟩
          have hX4 := (hb4.block _ hX.2).trans hX.1
          have hB4 := hB.trans (hb4.mono hB.size)
          refine hK.out _ _ (HK.out _ hB4) (fun hS => ?_)
          clear hK
          refine wpAnyH_take (i := 15) (v := .agg #[.int .i64 z0, .int .i64 z1, .string p2, .slice (some ⟨g4, 0, none⟩) ring.length c4]) rfl (by kernel_rfl) (by kernel_rfl) (by kernel_rfl) (fun _ _ _ h => h) (Or.inl ⟨by kernel_rfl, fun w' hS' => by clear hS'; go_simp⟩) hS ?_
          have hst := stored4 hX4 (.int .i64 z0) (.int .i64 z1) (.string p2) (.slice (some ⟨g4, 0, none⟩) ring.length c4)
          obtain ⟨⟨j0, j1, j2, j3⟩, i0, i1, i2, i3⟩ := cells4 hX4
          have HFN : Hid (BxR w.heap.size V2 _ V2.heap.size z0 z1 p2 g4 c4 ring) := ⟨hst, HS2.out, rgZ_set4 hz4 hX4 _ _ _ _, below_set4 (Below.up (hB4) HS2.out) (HS2.out) _ _ _ _⟩
          refine wpAnyH_ready (rs := [17]) (by kernel_rfl) (by simp) ?_
          refine AllReadyH.cons rfl (fun K hK => ?_) AllReadyH.nil
          go_simp
          refine hK.out _ _ (HK.out _ (below_set4 (hB4) (Nat.le_refl _) _ _ _ _)) (fun hS => ?_)
          clear hK
          refine wpAnyH_done (by kernel_rfl) ?_ _
          clear hS
          go_simp
          go_step
          go_meet
          exact ⟨_, _, _, rfl, HFN⟩
      · go_simp
        have hX : (V2.drew.alloc (.cells #[.int .i64 0, .int .i64 0, .string ⟨#[]⟩, .slice none 0 0] 44)).heap[V2.heap.size]? = some (.cells #[.int .i64 0, .int .i64 0, .string ⟨#[]⟩, .slice none 0 0] 44) ∧ V2.heap.size < (V2.drew.alloc (.cells #[.int .i64 0, .int .i64 0, .string ⟨#[]⟩, .slice none 0 0] 44)).heap.size := alloc_here V2.drew _
        have hB : Below V2.heap.size V2 (V2.drew.alloc (.cells #[.int .i64 0, .int .i64 0, .string ⟨#[]⟩, .slice none 0 0] 44)) := hB.alloc (Nat.le_refl _) _
        refine hK.out _ _ (HK.out _ hB) (fun hS => ?_)
        clear hK
        refine wpAnyH_ready (rs := [3]) (by kernel_rfl) (by simp) ?_
        refine AllReadyH.cons rfl (fun K hK => ?_) AllReadyH.nil
        go_simp
        refine (HD0.out _).mono ?_
        rintro e V9 ⟨rfl, rfl⟩
        refine hK.out _ _ (HK.out _ hB) (fun hS => ?_)
        clear hK
        refine wpAnyH_ready (rs := [7]) (by kernel_rfl) (by simp) ?_
        refine AllReadyH.cons rfl (fun K hK => ?_) AllReadyH.nil
        go_simp
        refine (HD1.out _).mono ?_
        rintro e V9 ⟨rfl, rfl⟩
        refine hK.out _ _ (HK.out _ hB) (fun hS => ?_)
        clear hK
        refine wpAnyH_ready (rs := [14]) (by kernel_rfl) (by simp) ?_
        refine AllReadyH.cons rfl (fun K hK => ?_) AllReadyH.nil
        go_simp
        refine (HC3.out _).mono ?_
        rintro e V4 ⟨g4, c4, rfl, hz4, hg4, hb4⟩
        have hX4 := (hb4.block _ hX.2).trans hX.1
        have hB4 := hB.trans (hb4.mono hB.size)
        refine hK.out _ _ (HK.out _ hB4) (fun hS => ?_)
        clear hK
        refine wpAnyH_take (i := 15) (v := .agg #[.int .i64 z0, .int .i64 z1, .string p2, .slice (some ⟨g4, 0, none⟩) ring.length c4]) rfl (by kernel_rfl) (by kernel_rfl) (by kernel_rfl) (fun _ _ _ h => h) (Or.inl ⟨by kernel_rfl, fun w' hS' => by clear hS'; go_simp⟩) hS ?_
        have hst := stored4 hX4 (.int .i64 z0) (.int .i64 z1) (.string p2) (.slice (some ⟨g4, 0, none⟩) ring.length c4)
        obtain ⟨⟨j0, j1, j2, j3⟩, i0, i1, i2, i3⟩ := cells4 hX4
        have HFN : Hid (BxR w.heap.size V2 _ V2.heap.size z0 z1 p2 g4 c4 ring) := ⟨hst, HS2.out, rgZ_set4 hz4 hX4 _ _ _ _, below_set4 (Below.up (hB4) HS2.out) (HS2.out) _ _ _ _⟩
        refine wpAnyH_ready (rs := [17]) (by kernel_rfl) (by simp) ?_
        refine AllReadyH.cons rfl (fun K hK => ?_) AllReadyH.nil
        go_simp
        refine hK.out _ _ (HK.out _ (below_set4 (hB4) (Nat.le_refl _) _ _ _ _)) (fun hS => ?_)
        clear hK
        refine wpAnyH_done (by kernel_rfl) ?_ _
        clear hS
        go_simp
        go_step
        go_meet
        exact ⟨_, _, _, rfl, HFN⟩
    case rest =>
      obtain ⟨b, g, cap, rfl, HX⟩ := hcut
      have hbx := HX.out.box
      obtain ⟨⟨j0, j1, j2, j3⟩, i0, i1, i2, i3⟩ := cells4 hbx
      have HM := hide (recMay_ok z0 z1 p2 _ ring wc HX.out.rg.rgS.rg (by have := HP2.out; omega) (fun x hx => by have := HRS.out x hx; omega) HR1.out)
      have HBX := hide hbx
      have HRT : Hid (∀ V, Below wc.heap.size wc V → V.heap[w.heap.size]? = some (.cells #[.int .i64 0, .int .i64 0, .string ⟨#[]⟩, .slice none 0 0] 44) ∧ RgZ V g cap ring ∧ Below w.heap.size w V) := fun V hV => by
        have h1 : Below W.heap.size W wc := HB2'.out.trans (HX.out.below.mono (Nat.le_of_eq HSW.out))
        have h2 := h1.trans (hV.mono h1.size)
        exact ⟨HRes.out V h2, HX.out.rg.below hV, HBW.out.trans (h2.mono HBW.out.size)⟩
      clear hbx
      go_wp2_with fail
      refine HM.out.mono ?_
      rintro e V5 ⟨⟨k, rfl, hk⟩, hb5⟩
      have hbs : b < wc.heap.size := (Array.getElem?_eq_some_iff.1 HBX.out).1
      have hbx5 := (hb5.block _ hbs).trans HBX.out
      have hb5s : b < V5.heap.size := (Array.getElem?_eq_some_iff.1 hbx5).1
      have HB5 := hide hb5
      clear hb5 HM j0 j1 j2 j3 i0 i1 i2 i3 hbs
      by_cases hk0 : k = 0
      · have hM : MayR z0 z1 p2 ring := hk.1 hk0
        subst hk0
        obtain ⟨d, rfl⟩ := Int.eq_ofNat_of_zero_le hM.d0
        obtain ⟨c, rfl⟩ := Int.eq_ofNat_of_zero_le (show 0 ≤ z1 by have := hM.c1; omega)
        have HLi : Hid (∀ V, Below V5.heap.size V5 V → Calls Tryz.prog 25 #[.agg #[.int .i64 (d : Int), .int .i64 (c : Int), .string p2, .slice (some ⟨g, 0, none⟩) ring.length cap]] V fun e w' => e = .returned (.string (lnB (txB d c p2 ring))) ∧ Below V.heap.size V w') := fun V hV => recLine_ok d c p2 _ ring V (HRT.out V (HB5.out.trans (hV.mono HB5.out.size))).2.1.rgS.rg hM
        have HMM := hide hM
        have hsz : s.size ≤ 4000 := HSZ.out
        obtain ⟨T9, hT9⟩ : ∃ T9, s ++ (⟨#[10]⟩ : ByteArray) = T9 := ⟨_, rfl⟩
        have ha9 := str_add s _ T9 hT9 (by rw [← hT9, ByteArray.size_append]; have : (⟨#[10]⟩ : ByteArray).size = 1 := rfl; omega)
        obtain ⟨q, hq⟩ : ∃ q, q = decide (lnB (txB d c p2 ring) = T9) := ⟨_, rfl⟩
        have hqq : ((lnB (txB d c p2 ring)).toList == T9.toList) = q := by rw [eqs_iff, hq]
        have HQ := hide hq
        have HT9 := hide hT9
        generalize hLB : lnB (txB d c p2 ring) = LB at *
        have HLB := hide hLB
        clear hk hM hq hT9 hLB HSZ
        go_upto_region 7 with fail
        refine wp_region_held_drew (S := fun W' => W'.heap[b]? = some (.cells #[.int .i64 (d : Int), .int .i64 (c : Int), .string p2, .slice (some ⟨g, 0, none⟩) ring.length cap] 44)) (by kernel_rfl) hbx5 (fun hS => ?_)
        refine wpAnyH_take (i := 0) (v := .agg #[.int .i64 (d : Int), .int .i64 (c : Int), .string p2, .slice (some ⟨g, 0, none⟩) ring.length cap]) rfl (by kernel_rfl) (by kernel_rfl) (by kernel_rfl) (fun _ _ _ h => h) (Or.inl ⟨by kernel_rfl, fun w' hS' => by have h2 := hS'; obtain ⟨⟨x0, x1, x2, x3⟩, -⟩ := cells4 h2; clear hS'; go_simp⟩) hS ?_
        refine wpAnyH_take (i := 1) (v := .int .i64 0) rfl (by kernel_rfl) (by kernel_rfl) (by kernel_rfl) (fun _ _ _ h => h) (Or.inl ⟨by kernel_rfl, fun w' hS' => by clear hS'; go_simp⟩) hS ?_
        refine wpAnyH_take (i := 2) (v := .bool true) rfl (by kernel_rfl) (by kernel_rfl) (by kernel_rfl) (fun _ _ _ h => h) (Or.inl ⟨by kernel_rfl, fun w' hS' => by clear hS'; go_simp⟩) hS ?_
        refine wpAnyH_take (i := 3) (v := .bool true) rfl (by kernel_rfl) (by kernel_rfl) (by kernel_rfl) (fun _ _ _ h => h) (Or.inl ⟨by kernel_rfl, fun w' hS' => by clear hS'; go_simp⟩) hS ?_
        refine wpAnyH_take (i := 4) (v := .agg #[.int .i64 (d : Int), .int .i64 (c : Int), .string p2, .slice (some ⟨g, 0, none⟩) ring.length cap]) rfl (by kernel_rfl) (by kernel_rfl) (by kernel_rfl) (fun _ _ _ h => h) (Or.inl ⟨by kernel_rfl, fun w' hS' => by have h2 := hS'; obtain ⟨⟨x0, x1, x2, x3⟩, -⟩ := cells4 h2; clear hS'; go_simp⟩) hS ?_
        refine wpAnyH_take (i := 6) (v := .string s) rfl (by kernel_rfl) (by kernel_rfl) (by kernel_rfl) (fun _ _ _ h => h) (Or.inl ⟨by kernel_rfl, fun w' hS' => by clear hS'; go_simp⟩) hS ?_
        refine wpAnyH_take (i := 7) (v := .string T9) rfl (by kernel_rfl) (by kernel_rfl) (by kernel_rfl) (fun _ _ _ h => h) (Or.inl ⟨by kernel_rfl, fun w' hS' => by clear hS'; go_simp⟩) hS ?_
        refine wpAnyH_ready (rs := [5]) (by kernel_rfl) (by simp) ?_
        refine AllReadyH.cons rfl (fun K hK => ?_) AllReadyH.nil
        go_simp
        refine (HLi.out V5.drew (Below.refl V5.heap.size V5).drew).mono ?_
        rintro e V6 ⟨rfl, hb6⟩
        have hB6 : Below V5.heap.size V5 V6 := ((Below.refl V5.heap.size V5).drew).trans hb6
        have hbx6 := (hB6.block _ hb5s).trans hbx5
        refine hK.out _ _ hbx6 (fun hS => ?_)
        clear hK hb6
        refine wpAnyH_take (i := 8) (v := .bool q) rfl (by kernel_rfl) (by kernel_rfl) (by kernel_rfl) (fun _ _ _ h => h) (Or.inl ⟨by kernel_rfl, fun w' hS' => by clear hS'; go_simp⟩) hS ?_
        refine wpAnyH_take (i := 9) (v := .bool q) rfl (by kernel_rfl) (by kernel_rfl) (by kernel_rfl) (fun _ _ _ h => h) (Or.inl ⟨by kernel_rfl, fun w' hS' => by clear hS'; go_simp⟩) hS ?_
        obtain ⟨hres, hrg, hbel⟩ := HRT.out _ (HB5.out.trans (hB6.mono HB5.out.size))
        obtain ⟨⟨j0, j1, j2, j3⟩, i0, i1, i2, i3⟩ := cells4 hres
        have hbne : b ≠ w.heap.size := by have := HX.out.hi; omega
        have HFB := hide (below_set4 hbel (Nat.le_refl _) (.int .i64 (d : Int)) (.int .i64 (c : Int)) (.string p2) (.slice (some ⟨g, 0, none⟩) ring.length cap))
        have HFR := hide (rgZ_set4 hrg hres (.int .i64 (d : Int)) (.int .i64 (c : Int)) (.string p2) (.slice (some ⟨g, 0, none⟩) ring.length cap))
        have HFH := hide (set4_all hres (.int .i64 (d : Int)) (.int .i64 (c : Int)) (.string p2) (.slice (some ⟨g, 0, none⟩) ring.length cap))
        refine wpAnyH_ready (rs := [10]) (by kernel_rfl) (by simp) ?_
        refine AllReadyH.cons rfl (fun K hK => ?_) AllReadyH.nil
        go_simp
        refine hK.out _ _ ((set4_off (w := V6) hbne (.int .i64 (d : Int)) (.int .i64 (c : Int)) (.string p2) (.slice (some ⟨g, 0, none⟩) ring.length cap)).trans hbx6) (fun hS => ?_)
        clear hK
        refine wpAnyH_take (i := 11) (v := .bool q) rfl (by kernel_rfl) (by kernel_rfl) (by kernel_rfl) (fun _ _ _ h => h) (Or.inl ⟨by kernel_rfl, fun w' hS' => by clear hS'; go_simp⟩) hS ?_
        refine wpAnyH_done (by kernel_rfl) ?_ _
        clear hS hbne hres hrg hbel j0 j1 j2 j3 i0 i1 i2 i3 hbx5 hbx6 hB6
        go_wp2
        refine ret_rec_tmp (p := 2) (u := 3) (t := .bool q) rfl rfl rfl HFH.out rfl rfl ?_
        refine HPP.out _ _ ⟨?_, HFB.out⟩
        by_cases hE : LB = T9
        · left
          exact ⟨d, c, p2, ring, g, cap, HMM.out, by rw [HQ.out, decide_eq_true hE], HFR.out.rgS, by rw [HLB.out, hE, HT9.out]⟩
        · right
          refine ⟨d, c, p2, _, _, _, by rw [HQ.out, decide_eq_false hE], fun d' c' m' ring' h' he' => ?_⟩
          obtain ⟨y0, y1, y2, y3⟩ := HNB.out h' he'
          have e0 : d = d' := by omega
          have e1 : c = c' := by omega
          subst e0; subst e1; subst y2; subst y3
          exact hE (by rw [← HLB.out, he', HT9.out])
      · have hkf : (k == 0) = false := by simpa using hk0
        have HNM : Hid (¬ MayR z0 z1 p2 ring) := fun h => hk0 (hk.2 h)
        clear hk hk0
        go_upto_region 7 with fail
        refine wp_region_held_drew (S := fun W' => W'.heap[b]? = some (.cells #[.int .i64 z0, .int .i64 z1, .string p2, .slice (some ⟨g, 0, none⟩) ring.length cap] 44)) (by kernel_rfl) hbx5 (fun hS => ?_)
        refine wpAnyH_take (i := 0) (v := .agg #[.int .i64 z0, .int .i64 z1, .string p2, .slice (some ⟨g, 0, none⟩) ring.length cap]) rfl (by kernel_rfl) (by kernel_rfl) (by kernel_rfl) (fun _ _ _ h => h) (Or.inl ⟨by kernel_rfl, fun w' hS' => by have h2 := hS'; obtain ⟨⟨x0, x1, x2, x3⟩, -⟩ := cells4 h2; clear hS'; go_simp⟩) hS ?_
        refine wpAnyH_take (i := 1) (v := .int .i64 k) rfl (by kernel_rfl) (by kernel_rfl) (by kernel_rfl) (fun _ _ _ h => h) (Or.inl ⟨by kernel_rfl, fun w' hS' => by clear hS'; go_simp⟩) hS ?_
        refine wpAnyH_take (i := 2) (v := .bool false) rfl (by kernel_rfl) (by kernel_rfl) (by kernel_rfl) (fun _ _ _ h => h) (Or.inl ⟨by kernel_rfl, fun w' hS' => by clear hS'; go_simp⟩) hS ?_
        refine wpAnyH_take (i := 3) (v := .bool false) rfl (by kernel_rfl) (by kernel_rfl) (by kernel_rfl) (fun _ _ _ h => h) (Or.inl ⟨by kernel_rfl, fun w' hS' => by clear hS'; go_simp⟩) hS ?_
        refine wpAnyH_take (i := 4) (v := undef) rfl (by kernel_rfl) (by kernel_rfl) (by kernel_rfl) (fun _ _ _ h => h) (Or.inr ⟨by kernel_rfl, rfl⟩) hS ?_
        refine wpAnyH_take (i := 5) (v := undef) rfl (by kernel_rfl) (by kernel_rfl) (by kernel_rfl) (fun _ _ _ h => h) (Or.inr ⟨by kernel_rfl, rfl⟩) hS ?_
        refine wpAnyH_take (i := 6) (v := undef) rfl (by kernel_rfl) (by kernel_rfl) (by kernel_rfl) (fun _ _ _ h => h) (Or.inr ⟨by kernel_rfl, rfl⟩) hS ?_
        refine wpAnyH_take (i := 7) (v := undef) rfl (by kernel_rfl) (by kernel_rfl) (by kernel_rfl) (fun _ _ _ h => h) (Or.inr ⟨by kernel_rfl, rfl⟩) hS ?_
        refine wpAnyH_take (i := 8) (v := undef) rfl (by kernel_rfl) (by kernel_rfl) (by kernel_rfl) (fun _ _ _ h => h) (Or.inr ⟨by kernel_rfl, rfl⟩) hS ?_
        refine wpAnyH_take (i := 9) (v := .bool false) rfl (by kernel_rfl) (by kernel_rfl) (by kernel_rfl) (fun _ _ _ h => h) (Or.inl ⟨by kernel_rfl, fun w' hS' => by clear hS'; go_simp⟩) hS ?_
        have hB6 : Below V5.heap.size V5 V5 := Below.refl V5.heap.size V5
        have hbx6 := (hB6.block _ hb5s).trans hbx5
        obtain ⟨hres, hrg, hbel⟩ := HRT.out _ (HB5.out.trans (hB6.mono HB5.out.size))
        obtain ⟨⟨j0, j1, j2, j3⟩, i0, i1, i2, i3⟩ := cells4 hres
        have hbne : b ≠ w.heap.size := by have := HX.out.hi; omega
        have HFB := hide (below_set4 hbel (Nat.le_refl _) (.int .i64 z0) (.int .i64 z1) (.string p2) (.slice (some ⟨g, 0, none⟩) ring.length cap))
        have HFR := hide (rgZ_set4 hrg hres (.int .i64 z0) (.int .i64 z1) (.string p2) (.slice (some ⟨g, 0, none⟩) ring.length cap))
        have HFH := hide (set4_all hres (.int .i64 z0) (.int .i64 z1) (.string p2) (.slice (some ⟨g, 0, none⟩) ring.length cap))
        refine wpAnyH_ready (rs := [10]) (by kernel_rfl) (by simp) ?_
        refine AllReadyH.cons rfl (fun K hK => ?_) AllReadyH.nil
        go_simp
        refine hK.out _ _ ((set4_off (w := V5) hbne (.int .i64 z0) (.int .i64 z1) (.string p2) (.slice (some ⟨g, 0, none⟩) ring.length cap)).trans hbx6) (fun hS => ?_)
        clear hK
        refine wpAnyH_take (i := 11) (v := .bool false) rfl (by kernel_rfl) (by kernel_rfl) (by kernel_rfl) (fun _ _ _ h => h) (Or.inl ⟨by kernel_rfl, fun w' hS' => by clear hS'; go_simp⟩) hS ?_
        refine wpAnyH_done (by kernel_rfl) ?_ _
        clear hS hbne hres hrg hbel j0 j1 j2 j3 i0 i1 i2 i3 hbx5 hbx6 hB6
        go_wp2
        refine ret_rec_tmp (p := 2) (u := 3) (t := .bool false) rfl rfl rfl HFH.out rfl rfl ?_
        refine HPP.out _ _ ⟨Or.inr ⟨z0, z1, p2, _, _, _, rfl, fun d' c' m' ring' h' he' => ?_⟩, HFB.out.drew⟩
        obtain ⟨y0, y1, y2, y3⟩ := HNB.out h' he'
        refine HNM.out ?_
        rw [y0, y1, y2, y3]
        exact h'
  · have hres := HRes.out V2 HB2'.out
    obtain ⟨⟨j0, j1, j2, j3⟩, i0, i1, i2, i3⟩ := cells4 hres
    have HFB := hide (below_set4 (HBW.out.trans (HB2'.out.mono HBW.out.size)) (Nat.le_refl _) (.int .i64 0) (.int .i64 0) (.string ⟨#[]⟩) (.slice none 0 0))
    have HFH := hide (set4_all hres (.int .i64 0) (.int .i64 0) (.string ⟨#[]⟩) (.slice none 0 0))
    generalize hLc : (cutT 124 P).length = Lc at *
    have hne : ((Lc : Int) == 4) = false := by simp; omega
    have HN : Hid (∀ (d c : Nat) (m : ByteArray) (ring : List ByteArray), MayR (d : Int) (c : Int) m ring → lnB (txB d c m ring) ≠ s ++ ⟨#[10]⟩) := fun d c m ring h he => h4 (HN4.out h he)
    clear hLc h4 hres HZ2 HSM HN4 HNG
    go_wp2
    refine ret_rec_tmp (p := 2) (u := 3) (t := .bool false) rfl rfl rfl HFH.out rfl rfl ?_
    exact HPP.out _ _ ⟨Or.inr ⟨0, 0, _, _, _, _, rfl, fun d' c' m' ring' h' he' => HN.out d' c' m' ring' h' he'⟩, HFB.out⟩

end Go.Proofs.YtffnfchekbafmaaGreatDoor

/- Contract: (*Book).Add. -/
namespace Go.Proofs.YtffnfchekbafmaaGreatDoor
open Go.RowKit Go.Lib
set_option maxRecDepth 100000
set_option linter.unusedVariables false

/-- Only block p is written, and new ones. -/
structure But (p : Nat) (w w' : World) : Prop where
  os : w'.os = w.os
  tape : w'.tape = w.tape
  output : w'.output = w.output
  size : w.heap.size ≤ w'.heap.size
  block : ∀ b, b < w.heap.size → b ≠ p → w'.heap[b]? = w.heap[b]?

theorem But.of {p : Nat} {w w' : World} (h : Below w.heap.size w w') : But p w w' := ⟨h.os, h.tape, h.output, h.size, fun b hb _ => h.block b hb⟩

theorem But.trans {p : Nat} {a b c : World} (h : But p a b) (k : But p b c) : But p a c :=
  ⟨k.os.trans h.os, k.tape.trans h.tape, k.output.trans h.output, Nat.le_trans h.size k.size, fun x hx hp => (k.block x (Nat.lt_of_lt_of_le hx h.size) hp).trans (h.block x hx hp)⟩

theorem But.below {p B : Nat} {w w' : World} (h : But p w w') (hB : B ≤ p) (hw : B ≤ w.heap.size) : Below B w w' := ⟨h.os, h.tape, h.output, h.size, fun b hb => h.block b (Nat.lt_of_lt_of_le hb hw) (by omega)⟩

theorem But.str {p : Nat} {w w' : World} {cur : Array Value} {t : TypeId} {fr : Nat × Nat} (h : But p w w') (hp : w.heap[p]? = some (.cells cur t fr)) (ht : t ≠ 9) : StrK w w' := fun b cur2 fr2 e => by
  have hb := (Array.getElem?_eq_some_iff.1 e).1
  refine (h.block b hb (fun hk => ?_)).trans e
  subst hk
  rw [hp] at e
  injection e with e
  injection e with _ e2 _
  exact ht e2

end Go.Proofs.YtffnfchekbafmaaGreatDoor

/- Plain: a stable sort by insertion and merging in place: arrays as functions, places and keys. -/
namespace Go.Proofs.YtffnfchekbafmaaGreatDoor

/-- An array of things, each with the place where it stood at first. -/
abbrev TagF (α : Type) := Nat → α × Nat

variable {α : Type}

/-- Two change places. -/
def swF (f : TagF α) (i j : Nat) : TagF α := fun k => if k = i then f j else if k = j then f i else f k

theorem swF_left (f : TagF α) (i j : Nat) : swF f i j i = f j := by unfold swF; rw [if_pos rfl]

theorem swF_right (f : TagF α) (i j : Nat) : swF f i j j = f i := by
  unfold swF
  by_cases h : j = i
  · rw [if_pos h, h]
  · rw [if_neg h, if_pos rfl]

theorem swF_other (f : TagF α) {i j k : Nat} (h1 : k ≠ i) (h2 : k ≠ j) : swF f i j k = f k := by unfold swF; rw [if_neg h1, if_neg h2]

/-- The first so many of an array. -/
def lstF (n : Nat) (f : TagF α) : List (α × Nat) := (List.range n).map f

/-- Only within [a, b) is anything elsewhere; and what stands there stood there. -/
structure Pw (n a b : Nat) (f g : TagF α) : Prop where
  out : ∀ k, ¬ (a ≤ k ∧ k < b) → g k = f k
  come : ∀ k, a ≤ k → k < b → ∃ j, a ≤ j ∧ j < b ∧ g k = f j
  inj : (∀ i j, i < n → j < n → (f i).2 = (f j).2 → i = j) → ∀ i j, i < n → j < n → (g i).2 = (g j).2 → i = j

theorem Pw.refl (n a b : Nat) (f : TagF α) : Pw n a b f f := ⟨fun _ _ => rfl, fun k h1 h2 => ⟨k, h1, h2, rfl⟩, fun h => h⟩

theorem Pw.trans {n a b : Nat} {f g h : TagF α} (p : Pw n a b f g) (q : Pw n a b g h) : Pw n a b f h :=
  ⟨fun k hk => (q.out k hk).trans (p.out k hk), fun k h1 h2 => by
    obtain ⟨j, j1, j2, e⟩ := q.come k h1 h2
    obtain ⟨i, i1, i2, e2⟩ := p.come j j1 j2
    exact ⟨i, i1, i2, e.trans e2⟩, fun hf => q.inj (p.inj hf)⟩

theorem Pw.mono {n a b a' b' : Nat} {f g : TagF α} (p : Pw n a b f g) (h1 : a' ≤ a) (h2 : b ≤ b') : Pw n a' b' f g :=
  ⟨fun k hk => p.out k (fun h => hk ⟨by omega, by omega⟩), fun k k1 k2 => by
    by_cases h : a ≤ k ∧ k < b
    · obtain ⟨j, j1, j2, e⟩ := p.come k h.1 h.2
      exact ⟨j, by omega, by omega, e⟩
    · exact ⟨k, k1, k2, p.out k h⟩, p.inj⟩

theorem Pw.swF {n a b i j : Nat} (f : TagF α) (hi : a ≤ i ∧ i < b) (hj : a ≤ j ∧ j < b) (hb : b ≤ n) : Pw n a b f (swF f i j) := by
  refine ⟨fun k hk => swF_other f (fun e => hk (by rw [e]; exact hi)) (fun e => hk (by rw [e]; exact hj)), fun k k1 k2 => ?_, fun hf x y hx hy e => ?_⟩
  · by_cases e1 : k = i
    · exact ⟨j, hj.1, hj.2, by rw [e1, swF_left]⟩
    · by_cases e2 : k = j
      · exact ⟨i, hi.1, hi.2, by rw [e2, swF_right]⟩
      · exact ⟨k, k1, k2, swF_other f e1 e2⟩
  · have key : ∀ x, x < n → ∃ x', x' < n ∧ YtffnfchekbafmaaGreatDoor.swF f i j x = f x' ∧ (x = i → x' = j) ∧ (x ≠ i → x = j → x' = i) ∧ (x ≠ i → x ≠ j → x' = x) := fun x hx => by
      by_cases e1 : x = i
      · exact ⟨j, by omega, by rw [e1, swF_left], fun _ => rfl, fun h => absurd e1 h, fun h => absurd e1 h⟩
      · by_cases e2 : x = j
        · exact ⟨i, by omega, by rw [e2, swF_right], fun h => absurd h e1, fun _ _ => rfl, fun _ h => absurd e2 h⟩
        · exact ⟨x, hx, swF_other f e1 e2, fun h => absurd h e1, fun _ h => absurd h e2, fun _ _ => rfl⟩
    obtain ⟨x', hx', ex, x1, x2, x3⟩ := key x hx
    obtain ⟨y', hy', ey, y1, y2, y3⟩ := key y hy
    rw [ex, ey] at e
    have h := hf x' y' hx' hy' e
    by_cases e1 : x = i <;> by_cases e2 : x = j <;> by_cases e3 : y = i <;> by_cases e4 : y = j <;> simp_all <;> omega

/-- In order by key, and by place where keys are like. -/
def LtK (key : α → Int) (x y : α × Nat) : Prop := key x.1 < key y.1 ∨ (key x.1 = key y.1 ∧ x.2 < y.2)

theorem LtK.trans {key : α → Int} {x y z : α × Nat} (h : LtK key x y) (k : LtK key y z) : LtK key x z := by
  unfold LtK at *
  omega

theorem LtK.irrefl {key : α → Int} {x : α × Nat} : ¬ LtK key x x := by unfold LtK; omega

theorem LtK.key_le {key : α → Int} {x y : α × Nat} (h : LtK key x y) : key x.1 ≤ key y.1 := by unfold LtK at h; omega

/-- Within [a, b) all stand in order. -/
def Srd (key : α → Int) (f : TagF α) (a b : Nat) : Prop := ∀ i j, a ≤ i → i < j → j < b → LtK key (f i) (f j)

theorem Srd.sub {key : α → Int} {f : TagF α} {a b a' b' : Nat} (h : Srd key f a b) (h1 : a ≤ a') (h2 : b' ≤ b) : Srd key f a' b' := fun i j hi hij hj => h i j (by omega) hij (by omega)

/-- All of [a, b) stand ahead of all of [c, d). -/
def Bfr (key : α → Int) (f : TagF α) (a b c d : Nat) : Prop := ∀ i j, a ≤ i → i < b → c ≤ j → j < d → LtK key (f i) (f j)

/-- The places of [a, b) lie ahead of those of [c, d). -/
def Plc (f : TagF α) (a b c d : Nat) : Prop := ∀ i j, a ≤ i → i < b → c ≤ j → j < d → (f i).2 < (f j).2

/-- Two parts in order, one ahead of the other. -/
theorem Srd.join {key : α → Int} {f : TagF α} {a m b : Nat} (h1 : Srd key f a m) (h2 : Srd key f m b) (h3 : Bfr key f a m m b) : Srd key f a b := fun i j hi hij hj => by
  by_cases e1 : j < m
  · exact h1 i j hi hij e1
  · by_cases e2 : i < m
    · exact h3 i j hi e2 (by omega) hj
    · exact h2 i j (by omega) hij hj

/-- What was moved within its part stays ahead of what was moved within its own. -/
theorem Bfr.moved {key : α → Int} {n a b c d : Nat} {f g : TagF α} (h : Bfr key f a b c d) (p : Pw n a b f g) (hbc : b ≤ c) : Bfr key g a b c d := fun i j i1 i2 j1 j2 => by
  obtain ⟨i', x1, x2, e⟩ := p.come i i1 i2
  rw [e, p.out j (by omega)]
  exact h i' j x1 x2 j1 j2

theorem Bfr.moved2 {key : α → Int} {n a b c d : Nat} {f g : TagF α} (h : Bfr key f a b c d) (p : Pw n c d f g) (hbc : b ≤ c) : Bfr key g a b c d := fun i j i1 i2 j1 j2 => by
  obtain ⟨j', x1, x2, e⟩ := p.come j j1 j2
  rw [e, p.out i (by omega)]
  exact h i j' i1 i2 x1 x2

theorem Srd.kept {key : α → Int} {n a b c d : Nat} {f g : TagF α} (h : Srd key f a b) (p : Pw n c d f g) (hd : d ≤ a ∨ b ≤ c) : Srd key g a b := fun i j hi hij hj => by
  rw [p.out i (by omega), p.out j (by omega)]
  exact h i j hi hij hj

/-! turning round: [s, m) and [m, e) change sides -/

/-- What stands where the parts [s, m) and [m, e) have changed sides. -/
def rotF (f : TagF α) (s m e : Nat) : TagF α := fun k => if k < s ∨ e ≤ k then f k else if k < s + (e - m) then f (k - s + m) else f (k - (e - m))

/-- What stands where [a, a + n) and [b, b + n) have changed places one by one. -/
def swrF (f : TagF α) (a b n : Nat) : TagF α := fun k => if a ≤ k ∧ k < a + n then f (k - a + b) else if b ≤ k ∧ k < b + n then f (k - b + a) else f k

theorem swrF_zero (f : TagF α) (a b : Nat) : swrF f a b 0 = f := by
  funext k
  unfold swrF
  rw [if_neg (by omega), if_neg (by omega)]

theorem swrF_succ (f : TagF α) {a b n : Nat} (h : a + n < b) : swF (swrF f a b n) (a + n) (b + n) = swrF f a b (n + 1) := by
  funext k
  unfold swF swrF
  by_cases e1 : k = a + n
  · rw [if_pos e1, if_neg (by omega), if_neg (by omega), if_pos (by omega)]; congr 1; omega
  · rw [if_neg e1]
    by_cases e2 : k = b + n
    · rw [if_pos e2, if_neg (by omega), if_neg (by omega), if_neg (by omega), if_pos (by omega)]; congr 1; omega
    · rw [if_neg e2]
      by_cases e3 : a ≤ k ∧ k < a + n
      · have h2 : a ≤ k ∧ k < a + (n + 1) := by omega
        rw [if_pos e3, if_pos h2]
      · have h2 : ¬ (a ≤ k ∧ k < a + (n + 1)) := by omega
        rw [if_neg e3, if_neg h2]
        by_cases e4 : b ≤ k ∧ k < b + n
        · have h3 : b ≤ k ∧ k < b + (n + 1) := by omega
          rw [if_pos e4, if_pos h3]
        · have h3 : ¬ (b ≤ k ∧ k < b + (n + 1)) := by omega
          rw [if_neg e4, if_neg h3]

theorem swrF_pw {n a b c lo hi : Nat} (f : TagF α) (h1 : lo ≤ a) (h2 : a + c ≤ b) (h3 : b + c ≤ hi) (hn : hi ≤ n) : Pw n lo hi f (swrF f a b c) := by
  induction c with
  | zero => rw [swrF_zero]; exact Pw.refl _ _ _ _
  | succ c ih =>
    rw [← swrF_succ f (by omega)]
    exact (ih (by omega) (by omega)).trans (Pw.swF _ ⟨by omega, by omega⟩ ⟨by omega, by omega⟩ hn)

/-- One step of turning round, where the first part is the longer. -/
theorem rot_left (g : TagF α) {m i j : Nat} (hi : i ≤ m) (h : j < i) : rotF (swrF g (m - i) m j) (m - (i - j)) m (m + j) = rotF g (m - i) m (m + j) := by
  funext k
  unfold rotF swrF
  by_cases c1 : k < m - i ∨ m + j ≤ k
  · rw [if_pos (show k < m - (i - j) ∨ m + j ≤ k by omega), if_pos c1, if_neg (by omega), if_neg (by omega)]
  · rw [if_neg c1]
    by_cases c2 : k < m - i + j
    · rw [if_pos (show k < m - (i - j) ∨ m + j ≤ k by omega), if_pos (show k < m - i + (m + j - m) by omega), if_pos (show m - i ≤ k ∧ k < m - i + j by omega)]
    · rw [if_neg (show ¬ (k < m - (i - j) ∨ m + j ≤ k) by omega), if_neg (show ¬ k < m - i + (m + j - m) by omega)]
      by_cases c3 : k < m - (i - j) + (m + j - m)
      · rw [if_pos c3, if_neg (show ¬ (m - i ≤ k - (m - (i - j)) + m ∧ k - (m - (i - j)) + m < m - i + j) by omega), if_pos (show m ≤ k - (m - (i - j)) + m ∧ k - (m - (i - j)) + m < m + j by omega)]
        congr 1; omega
      · rw [if_neg c3, if_neg (show ¬ (m - i ≤ k - (m + j - m) ∧ k - (m + j - m) < m - i + j) by omega), if_neg (show ¬ (m ≤ k - (m + j - m) ∧ k - (m + j - m) < m + j) by omega)]

theorem rot_right (g : TagF α) {m i j : Nat} (hi : i ≤ m) (h : i < j) : rotF (swrF g (m - i) (m + j - i) i) (m - i) m (m + (j - i)) = rotF g (m - i) m (m + j) := by
  funext k
  unfold rotF swrF
  by_cases c1 : k < m - i ∨ m + j ≤ k
  · rw [if_pos (show k < m - i ∨ m + (j - i) ≤ k by omega), if_pos c1, if_neg (by omega), if_neg (by omega)]
  · rw [if_neg c1]
    by_cases c2 : m + (j - i) ≤ k
    · rw [if_pos (show k < m - i ∨ m + (j - i) ≤ k by omega), if_neg (show ¬ k < m - i + (m + j - m) by omega), if_neg (show ¬ (m - i ≤ k ∧ k < m - i + i) by omega), if_pos (show m + j - i ≤ k ∧ k < m + j - i + i by omega)]
      congr 1; omega
    · rw [if_neg (show ¬ (k < m - i ∨ m + (j - i) ≤ k) by omega), if_pos (show k < m - i + (m + j - m) by omega)]
      by_cases c3 : k < m - i + (m + (j - i) - m)
      · rw [if_pos c3, if_neg (show ¬ (m - i ≤ k - (m - i) + m ∧ k - (m - i) + m < m - i + i) by omega), if_neg (show ¬ (m + j - i ≤ k - (m - i) + m ∧ k - (m - i) + m < m + j - i + i) by omega)]
      · rw [if_neg c3, if_pos (show m - i ≤ k - (m + (j - i) - m) ∧ k - (m + (j - i) - m) < m - i + i by omega)]
        congr 1; omega

theorem rot_even (g : TagF α) {m i : Nat} (hi : i ≤ m) : swrF g (m - i) m i = rotF g (m - i) m (m + i) := by
  funext k
  unfold rotF swrF
  by_cases c1 : k < m - i ∨ m + i ≤ k
  · rw [if_pos c1, if_neg (by omega), if_neg (by omega)]
  · rw [if_neg c1]
    by_cases c2 : k < m - i + i
    · rw [if_pos (show m - i ≤ k ∧ k < m - i + i by omega), if_pos (show k < m - i + (m + i - m) by omega)]
    · rw [if_neg (show ¬ (m - i ≤ k ∧ k < m - i + i) by omega), if_pos (show m ≤ k ∧ k < m + i by omega), if_neg (show ¬ k < m - i + (m + i - m) by omega)]
      congr 1; omega

theorem rotF_none {f : TagF α} {s m e : Nat} (h : s = m ∨ m = e) (hs : s ≤ m) (he : m ≤ e) : rotF f s m e = f := by
  funext k
  unfold rotF
  by_cases c1 : k < s ∨ e ≤ k
  · rw [if_pos c1]
  · rw [if_neg c1]
    by_cases c2 : k < s + (e - m)
    · rw [if_pos c2]; congr 1; omega
    · rw [if_neg c2]; congr 1; omega

theorem rotF_pw {n lo hi s m e : Nat} (f : TagF α) (h0 : lo ≤ s) (h1 : s ≤ m) (h2 : m ≤ e) (h3 : e ≤ hi) (hn : hi ≤ n) : Pw n lo hi f (rotF f s m e) := by
  refine ⟨fun k hk => ?_, fun k k1 k2 => ?_, fun hf x y hx hy e1 => ?_⟩
  · unfold rotF; rw [if_pos (by omega)]
  · unfold rotF
    by_cases c1 : k < s ∨ e ≤ k
    · exact ⟨k, k1, k2, by rw [if_pos c1]⟩
    · by_cases c2 : k < s + (e - m)
      · exact ⟨k - s + m, by omega, by omega, by rw [if_neg c1, if_pos c2]⟩
      · exact ⟨k - (e - m), by omega, by omega, by rw [if_neg c1, if_neg c2]⟩
  · have key : ∀ k, k < n → ∃ k', k' < n ∧ rotF f s m e k = f k' ∧ ((k < s ∨ e ≤ k) → k' = k) ∧ (¬ (k < s ∨ e ≤ k) → k < s + (e - m) → k' = k - s + m) ∧ (¬ (k < s ∨ e ≤ k) → ¬ k < s + (e - m) → k' = k - (e - m)) := fun k hk => by
      unfold rotF
      by_cases c1 : k < s ∨ e ≤ k
      · exact ⟨k, hk, by rw [if_pos c1], fun _ => rfl, fun h => absurd c1 h, fun h => absurd c1 h⟩
      · by_cases c2 : k < s + (e - m)
        · exact ⟨k - s + m, by omega, by rw [if_neg c1, if_pos c2], fun h => absurd h c1, fun _ _ => rfl, fun _ h => absurd c2 h⟩
        · exact ⟨k - (e - m), by omega, by rw [if_neg c1, if_neg c2], fun h => absurd h c1, fun _ h => absurd h c2, fun _ _ => rfl⟩
    obtain ⟨x', hx', ex, x1, x2, x3⟩ := key x hx
    obtain ⟨y', hy', ey, y1, y2, y3⟩ := key y hy
    rw [ex, ey] at e1
    have h := hf x' y' hx' hy' e1
    by_cases c1 : x < s ∨ e ≤ x <;> by_cases c2 : x < s + (e - m) <;> by_cases d1 : y < s ∨ e ≤ y <;> by_cases d2 : y < s + (e - m) <;> simp only [c1, c2, d1, d2, forall_const, not_true, not_false_eq_true, false_implies] at x1 x2 x3 y1 y2 y3 <;> omega

/-- SYMMERGE's CUT: the two halves lie apart. 'st' is where the first part is cut, 'en' where the second one is. -/
theorem sym_cut {key : α → Int} {f : TagF α} {a m b mid st en : Nat} (hL : Srd key f a m) (hR : Srd key f m b) (hP : Plc f a m m b)
    (h1 : a ≤ st) (h2 : st ≤ m) (h3 : m ≤ en) (h4 : en ≤ b) (hen : en - m + st = mid) (hlo : a < st → en < b → key (f (st - 1)).1 ≤ key (f en).1) (hhi : st < m → m < en → key (f (en - 1)).1 < key (f st).1) :
    Bfr key (rotF f st m en) a mid mid b ∧ Srd key (rotF f st m en) a st ∧ Srd key (rotF f st m en) st mid ∧ Srd key (rotF f st m en) mid en ∧ Srd key (rotF f st m en) en b ∧ Plc (rotF f st m en) a st st mid ∧ Plc (rotF f st m en) mid en en b := by
  have r0 : ∀ k, k < st → rotF f st m en k = f k := fun k h => by unfold rotF; rw [if_pos (by omega)]
  have r1 : ∀ k, st ≤ k → k < mid → rotF f st m en k = f (k - st + m) := fun k k1 k2 => by unfold rotF; rw [if_neg (by omega), if_pos (by omega)]
  have r2 : ∀ k, mid ≤ k → k < en → rotF f st m en k = f (k - (en - m)) := fun k k1 k2 => by unfold rotF; rw [if_neg (by omega), if_neg (by omega)]
  have r3 : ∀ k, en ≤ k → rotF f st m en k = f k := fun k h => by unfold rotF; rw [if_pos (by omega)]
  have kl : ∀ i j, a ≤ i → i ≤ j → j < m → key (f i).1 ≤ key (f j).1 := fun i j hi hij hj => by
    rcases Nat.eq_or_lt_of_le hij with e | e
    · rw [e]; exact Int.le_refl _
    · exact (hL i j hi e hj).key_le
  have kr : ∀ i j, m ≤ i → i ≤ j → j < b → key (f i).1 ≤ key (f j).1 := fun i j hi hij hj => by
    rcases Nat.eq_or_lt_of_le hij with e | e
    · rw [e]; exact Int.le_refl _
    · exact (hR i j hi e hj).key_le
  refine ⟨fun i j i1 i2 j1 j2 => ?_, fun i j hi hij hj => ?_, fun i j hi hij hj => ?_, fun i j hi hij hj => ?_, fun i j hi hij hj => ?_, fun i j i1 i2 j1 j2 => ?_, fun i j i1 i2 j1 j2 => ?_⟩
  · by_cases ci : i < st
    · rw [r0 i ci]
      by_cases cj : j < en
      · rw [r2 j j1 cj]
        exact hL _ _ i1 (by omega) (by omega)
      · rw [r3 j (by omega)]
        have e1 := kl i (st - 1) i1 (by omega) (by omega)
        have e2 := hlo (by omega) (by omega)
        have e3 := kr en j (by omega) (by omega) j2
        have e4 := hP i j i1 (by omega) (by omega) j2
        unfold LtK
        omega
    · rw [r1 i (by omega) i2]
      by_cases cj : j < en
      · rw [r2 j j1 cj]
        have e1 := kr (i - st + m) (en - 1) (by omega) (by omega) (by omega)
        have e2 := hhi (by omega) (by omega)
        have e3 := kl st (j - (en - m)) (by omega) (by omega) (by omega)
        left
        omega
      · rw [r3 j (by omega)]
        exact hR _ _ (by omega) (by omega) j2
  · rw [r0 i (by omega), r0 j hj]; exact hL i j hi hij (by omega)
  · rw [r1 i hi (by omega), r1 j (by omega) hj]; exact hR _ _ (by omega) (by omega) (by omega)
  · rw [r2 i hi (by omega), r2 j (by omega) hj]; exact hL _ _ (by omega) (by omega) (by omega)
  · rw [r3 i hi, r3 j (by omega)]; exact hR i j (by omega) hij hj
  · rw [r0 i i2, r1 j j1 j2]; exact hP _ _ i1 (by omega) (by omega) (by omega)
  · rw [r2 i i1 i2, r3 j j1]; exact hP _ _ (by omega) (by omega) (by omega) j2

end Go.Proofs.YtffnfchekbafmaaGreatDoor

/- Plain: what is in order is told by what is there. -/
namespace Go.Proofs.YtffnfchekbafmaaGreatDoor
variable {α : Type}

theorem lstF_length (n : Nat) (f : TagF α) : (lstF n f).length = n := by unfold lstF; simp

theorem lstF_get {n : Nat} {f : TagF α} {k : Nat} (h : k < n) : (lstF n f)[k]? = some (f k) := by unfold lstF; simp [h]

theorem lstF_mem {n : Nat} {f : TagF α} {x : α × Nat} : x ∈ lstF n f ↔ ∃ k, k < n ∧ f k = x := by unfold lstF; simp

theorem lstF_nodup {n : Nat} {f : TagF α} (h : ∀ i j, i < n → j < n → (f i).2 = (f j).2 → i = j) : (lstF n f).Nodup := by
  unfold lstF
  rw [List.nodup_iff_pairwise_ne, List.pairwise_map]
  refine List.Pairwise.imp_of_mem ?_ (List.nodup_range (n := n))
  intro a b ha hb hab e
  exact hab (h a b (List.mem_range.1 ha) (List.mem_range.1 hb) (by rw [e]))

theorem permF_sub {β : Type} : ∀ {l m : List β}, l.Nodup → l ⊆ m → m.length ≤ l.length → l.Perm m
  | [], m, _, _, hl => by
    have : m = [] := List.eq_nil_of_length_eq_zero (by simpa using hl)
    rw [this]
  | x :: t, m, hn, hs, hl => by
    obtain ⟨s, u, rfl⟩ := List.append_of_mem (hs List.mem_cons_self)
    rw [List.nodup_cons] at hn
    have ht : t ⊆ s ++ u := fun y hy => by
      have h1 := hs (List.mem_cons_of_mem _ hy)
      rw [List.mem_append, List.mem_cons] at h1
      rw [List.mem_append]
      rcases h1 with h1 | h1 | h1
      · exact Or.inl h1
      · exact absurd hy (by rw [h1]; exact hn.1)
      · exact Or.inr h1
    have h2 := permF_sub hn.2 ht (by simp only [List.length_append, List.length_cons] at hl ⊢; omega)
    exact (h2.cons x).trans List.perm_middle.symm

theorem Pw.perm {n : Nat} {f g : TagF α} (p : Pw n 0 n f g) (h : ∀ i j, i < n → j < n → (f i).2 = (f j).2 → i = j) : (lstF n g).Perm (lstF n f) := by
  refine permF_sub (lstF_nodup (p.inj h)) (fun x hx => ?_) (by rw [lstF_length, lstF_length]; exact Nat.le_refl _)
  obtain ⟨k, hk, rfl⟩ := lstF_mem.1 hx
  obtain ⟨j, _, hj, e⟩ := p.come k (Nat.zero_le _) hk
  exact lstF_mem.2 ⟨j, hj, e.symm⟩

theorem Srd.pairwise {key : α → Int} {n : Nat} {f : TagF α} (h : Srd key f 0 n) : (lstF n f).Pairwise (LtK key) := by
  unfold lstF
  rw [List.pairwise_map]
  have h2 : (List.range n).Pairwise (fun i j => i < j ∧ j < n) := by
    have h3 := List.pairwise_lt_range (n := n)
    refine List.Pairwise.imp_of_mem ?_ h3
    intro a b _ hb hab
    exact ⟨hab, List.mem_range.1 hb⟩
  exact h2.imp (fun {a b} hab => h a b (Nat.zero_le _) hab.1 hab.2)

/-- What is in order by key and place is told by what is there. -/
theorem sorted_unique {key : α → Int} {l m : List (α × Nat)} (hp : l.Perm m) (h1 : l.Pairwise (LtK key)) (h2 : m.Pairwise (LtK key)) : l = m :=
  List.Perm.eq_of_pairwise (fun _ _ _ _ hab hba => absurd (hab.trans hba) LtK.irrefl) h1 h2 hp

end Go.Proofs.YtffnfchekbafmaaGreatDoor
