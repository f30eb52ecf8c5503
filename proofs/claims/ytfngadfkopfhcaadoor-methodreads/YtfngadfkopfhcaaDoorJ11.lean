/- Joined: MrE, MrF, IAl, MrG, Mat. -/
import Derived.Test.YtfngadfkopfhcaaDoorJ3
import Derived.Test.YtfngadfkopfhcaaDoorJ4
import Derived.Test.YtfngadfkopfhcaaDoorJ10
import Derived.Deep.Matrix
import Derived.OpenShut
/- Contract: method.Read. -/
namespace Go.Proofs.YtfngadfkopfhcaaDoor
open Go.RowKit
set_option maxRecDepth 20000
set_option linter.unusedVariables false

/-- What is asked of package variables of the library. -/
structure Glb (w : World) : Prop where
  mx : ∃ m, w.cell? ⟨2, 0, none⟩ = some (.int .i64 m)
  rg : ∃ ev, w.cell? ⟨1, 0, none⟩ = some ev ∧ (ev = .nilIface ∨ ∃ te pe, ev = .iface te pe)

theorem Glb.below {w w' : World} (h : Glb w) (hb : Below w.heap.size w w') : Glb w' := by
  obtain ⟨m, hm⟩ := h.mx
  obtain ⟨ev, hv, h2⟩ := h.rg
  exact ⟨⟨m, by rw [hb.cell (World.block_lt_of_cell? _ _ hm)]; exact hm⟩, ⟨ev, by rw [hb.cell (World.block_lt_of_cell? _ _ hv)]; exact hv, h2⟩⟩

theorem split_ok (s : ByteArray) (w : World) (hg : Glb w) (hs : s.size ≤ 4000) :
    Calls Tryd.prog 7 #[.string s, .string ⟨#[124]⟩] w fun e w' => e = .returned (.slice (some ⟨w.heap.size, 0, none⟩) (cutB s).length (cutB s).length) ∧ w' = w.alloc (.cells (sVals (cutB s)).toArray 9) := by
  obtain ⟨m, hm⟩ := hg.mx
  have h := Any.strings_Split (P := Tryd.prog) (ρ := rnL) laysSp infoStr s ⟨#[124]⟩ m w (by omega) hm (by decide)
  rw [← cutB_length, splitB_cut] at h
  exact h

theorem atoi_ok (s : ByteArray) (w : World) (hg : Glb w) (hs : s.size ≤ 4000) (hd : ∀ b ∈ s.data.toList, dgt b = true) (h0 : s.data.toList ≠ []) :
    Calls Tryd.prog 10 #[.string s] w fun e w' => ∃ (z : Int) (ev : Value), e = .returned (.tuple #[.int .i64 z, ev]) ∧ (2 ≤ z ∧ z ≤ 12 ↔ 2 ≤ valF 0 s.data.toList ∧ valF 0 s.data.toList ≤ 12) ∧ (2 ≤ z ∧ z ≤ 12 → z = ((valF 0 s.data.toList : Nat) : Int)) ∧ Below w.heap.size w w' := by
  have ha := atoi_dgt hd h0
  by_cases hv : valF 0 s.data.toList < 9223372036854775808
  · rw [if_pos hv] at ha
    have h := Any.strconv_Atoi_ok (P := Tryd.prog) (ρ := rnL) laysAt s (by omega) _ ha w
    refine Calls.mono (show Calls Tryd.prog 10 _ _ _ from h) ?_
    rintro e w' ⟨rfl, hw⟩
    refine ⟨_, _, rfl, by omega, fun _ => rfl, ?_⟩
    rcases hw with rfl | ⟨t, rfl⟩
    · exact Below.refl _ _
    · exact Lib.bytesWorld_below _ _ _
  · rw [if_neg hv] at ha
    obtain ⟨ev, hev, h2⟩ := hg.rg
    have h := Any.strconv_Atoi_range (P := Tryd.prog) (ρ := rnL) laysAt s (by omega) ha ev w hev h2
    refine Calls.mono (show Calls Tryd.prog 10 _ _ _ from h) ?_
    rintro e w' ⟨N, rfl, _, _, hb⟩
    refine ⟨_, _, rfl, ?_, ?_, hb⟩
    · rw [sat_dgt hd h0]; omega
    · rw [sat_dgt hd h0]; omega

theorem ret_meth_tmp {fn : Func} {R : Ending → World → Prop} {a : Act} {w : World} {p u : Tmp} {b : Nat} {cs : Array Value} {t : Value} (h : fn.results = #[.cell p 24, .tmp u]) (hp : a.tmps.getD p undef = .pointer (some ⟨b, 0, none⟩)) (hu : a.tmps.getD u undef = t) (hg : w.heap[b]? = some (.cells cs 24)) (hz : cs.size = 3) (hd : a.defers = []) (hR : R (.returned (.tuple #[.agg cs, t])) w) : bodyPost Tryd.prog fn R .ret a w := by
  refine bodyPost_ret (v := .tuple #[.agg cs, t]) ?_ hd hR
  have hp' : a.tmps[p]?.getD undef = .pointer (some ⟨b, 0, none⟩) := by simpa using hp
  have hu' : a.tmps[u]?.getD undef = t := by simpa using hu
  rw [results_cell_tmp h]
  simp [hp', hu', asAddr, Result.andThen, run_loadVar_row w b 24 24 cs _ _ hg Tryd.underlying24 rfl (by rw [hz]; kernel_rfl)]

/-- What reading a method comes to. -/
def RdPost (code : Int) (a : ByteArray) (n : Int) (X : List (List Int)) (w : World) (e : Ending) (w' : World) : Prop :=
  ∃ v, e = .returned (.tuple #[.agg #[.string a, .int .i64 n, v], .int .i64 code]) ∧ IntsAll w' v X ∧ Below w.heap.size w w'

theorem intsAll_none (w : World) : IntsAll w (.slice none 0 0) [] := ⟨[], Or.inl ⟨rfl, _, _, rfl⟩, rfl, fun j hj => by simp at hj⟩

/-- A method's box that is still as it was laid. -/
def Zbox (w : World) (B : Nat) : Prop := w.heap[B]? = some (.cells #[.string ByteArray.empty, .int .i64 0, .slice none 0 0] 24)

theorem Zbox.start (w : World) : Zbox (w.alloc (.cells #[.string ⟨#[]⟩, .int .i64 0, .slice none 0 0] 24)) w.heap.size := heap_alloc_new w _

theorem Zbox.below {w w' : World} {B : Nat} (h : Zbox w B) (hb : Below w.heap.size w w') : Zbox w' B := by
  unfold Zbox at *
  rw [hb.block B ((Array.getElem?_eq_some_iff.1 h).1)]; exact h

theorem Zbox.cells {w : World} {B : Nat} (h : Zbox w B) : w.cell? ⟨B, 0, none⟩ = some (.string ⟨#[]⟩) ∧ w.cell? ⟨B, 1, none⟩ = some (.int .i64 0) ∧ w.cell? ⟨B, 2, none⟩ = some (.slice none 0 0) ∧ w.frozen? ⟨B, 0, none⟩ = false ∧ w.frozen? ⟨B, 1, none⟩ = false ∧ w.frozen? ⟨B, 2, none⟩ = false := by
  unfold Zbox at h
  simp [World.cell?, World.frozen?, h]
  rfl

/-- A method's box, all three cells set. -/
theorem Zbox.set {w : World} {B : Nat} (h : Zbox w B) (x y z : Value) : (((w.setCell ⟨B, 0, none⟩ x).setCell ⟨B, 1, none⟩ y).setCell ⟨B, 2, none⟩ z).heap[B]? = some (.cells #[x, y, z] 24) := by
  unfold Zbox at h
  simp [World.setCell, Array.getElem?_modify, h]

theorem below_set3 {w0 w : World} {B b : Nat} (h : Below B w0 w) (hb : B ≤ b) (x y z : Value) : Below B w0 (((w.setCell ⟨b, 0, none⟩ x).setCell ⟨b, 1, none⟩ y).setCell ⟨b, 2, none⟩ z) :=
  ((h.setCell (p := ⟨b, 0, none⟩) hb x).setCell (p := ⟨b, 1, none⟩) hb y).setCell (p := ⟨b, 2, none⟩) hb z

/-- Behind the split. -/
structure RdSt (w W : World) (ps : List ByteArray) : Prop where
  box : Zbox W w.heap.size
  part : ∀ j x, ps[j]? = some x → W.cell? ⟨w.heap.size + 1, j, none⟩ = some (.string x)
  lt : w.heap.size + 1 < W.heap.size
  below : Below w.heap.size w W
  glb : Glb W

theorem RdSt.later {w W W' : World} {ps : List ByteArray} (h : RdSt w W ps) (hb : Below W.heap.size W W') : RdSt w W' ps :=
  ⟨h.box.below hb, fun j x hx => by rw [hb.cell (p := ⟨w.heap.size + 1, j, none⟩) h.lt]; exact h.part j x hx, Nat.lt_of_lt_of_le h.lt hb.size, h.below.trans (hb.mono h.below.size), h.glb.below hb⟩

theorem split_st (s : ByteArray) (w : World) (hg : Glb w) (hs : s.size ≤ 4000) :
    Calls Tryd.prog 7 #[.string s, .string ⟨#[124]⟩] (w.alloc (.cells #[.string ⟨#[]⟩, .int .i64 0, .slice none 0 0] 24)) fun e W => e = .returned (.slice (some ⟨w.heap.size + 1, 0, none⟩) (cutB s).length (cutB s).length) ∧ RdSt w W (cutB s) := by
  have HZ0 := Zbox.start w
  have HB0 := ((Below.refl w.heap.size w).alloc (Nat.le_refl _) (.cells #[.string ⟨#[]⟩, .int .i64 0, .slice none 0 0] 24))
  refine (split_ok s _ (hg.below HB0) hs).mono ?_
  rintro e W ⟨rfl, rfl⟩
  have hb : Below (w.alloc (.cells #[.string ⟨#[]⟩, .int .i64 0, .slice none 0 0] 24)).heap.size _ ((w.alloc (.cells #[.string ⟨#[]⟩, .int .i64 0, .slice none 0 0] 24)).alloc (.cells (sVals (cutB s)).toArray 9)) := (Below.refl _ _).alloc (Nat.le_refl _) _
  have hz : (w.alloc (.cells #[.string ⟨#[]⟩, .int .i64 0, .slice none 0 0] 24)).heap.size = w.heap.size + 1 := by simp
  refine ⟨by rw [hz], HZ0.below hb, fun j x hx => ?_, by simp, HB0.trans (hb.mono HB0.size), (hg.below HB0).below hb⟩
  have hn := heap_alloc_new (w.alloc (.cells #[.string ⟨#[]⟩, .int .i64 0, .slice none 0 0] 24)) (.cells (sVals (cutB s)).toArray 9)
  rw [hz] at hn
  rw [cell_of_row _ _ j _ _ _ hn]
  simp [sVals, hx]

theorem RdSt.bad {w W : World} {ps : List ByteArray} (h : RdSt w W ps) (code : Int) (x y : Value) : RdPost code ByteArray.empty 0 [] w (.returned (.tuple #[.agg #[.string ⟨#[]⟩, .int .i64 0, .slice none 0 0], .int .i64 code])) (((W.setCell ⟨w.heap.size, 0, none⟩ (.string ⟨#[]⟩)).setCell ⟨w.heap.size, 1, none⟩ (.int .i64 0)).setCell ⟨w.heap.size, 2, none⟩ (.slice none 0 0)) :=
  ⟨_, rfl, intsAll_none _, below_set3 h.below (Nat.le_refl _) _ _ _⟩

set_option maxHeartbeats 4000000 in
theorem read_long (s : ByteArray) (w : World) (hs : s.size ≤ 9223372036854775807) (h : 4000 < s.size) : Calls Tryd.prog 4 #[.string s] w (RdPost 3 ByteArray.empty 0 [] w) := by
  have h' : 4000 < (s.size : Int) := by omega
  have HZ := hide (Zbox.start w)
  have HB := hide ((Below.refl w.heap.size w).alloc (Nat.le_refl _) (.cells #[.string ⟨#[]⟩, .int .i64 0, .slice none 0 0] 24))
  clear h
  go_enter Tryd.func4, Tryd.ntmps4
  go_wp2
  exact ret_meth_tmp (p := 2) (u := 3) rfl rfl rfl HZ.out rfl rfl ⟨_, rfl, intsAll_none _, HB.out⟩

set_option maxHeartbeats 4000000 in
theorem read_short (s : ByteArray) (w : World) (hg : Glb w) (hs : s.size ≤ 4000) (h : (cutB s).length < 3) : Calls Tryd.prog 4 #[.string s] w (RdPost 5 ByteArray.empty 0 [] w) := by
  have h' : ¬ 4000 < (s.size : Int) := by omega
  have HS := hide (split_st s w hg hs)
  generalize cutB s = ps at *
  generalize ps.length = L at *
  have h2 : (L : Int) < 3 := by omega
  clear h
  clear hg
  go_enter Tryd.func4, Tryd.ntmps4
  go_wp2_with fail
  refine HS.out.mono ?_
  rintro e W ⟨rfl, hR⟩
  have HR := hide hR
  obtain ⟨z0, z1, z2, f0, f1, f2⟩ := hR.box.cells
  clear hR
  go_wp2
  exact ret_meth_tmp (p := 2) (u := 3) rfl rfl rfl (HR.out.box.set _ _ _) rfl rfl (HR.out.bad _ undef undef)

set_option maxHeartbeats 4000000 in
theorem read_many (s : ByteArray) (w : World) (hg : Glb w) (hs : s.size ≤ 4000) (h : 3 < (cutB s).length) : Calls Tryd.prog 4 #[.string s] w (RdPost 4 ByteArray.empty 0 [] w) := by
  have h' : ¬ 4000 < (s.size : Int) := by omega
  have HS := hide (split_st s w hg hs)
  generalize cutB s = ps at *
  generalize ps.length = L at *
  have h2 : 3 < (L : Int) := by omega
  clear h
  clear hg
  go_enter Tryd.func4, Tryd.ntmps4
  go_wp2_with fail
  refine HS.out.mono ?_
  rintro e W ⟨rfl, hR⟩
  have HR := hide hR
  obtain ⟨z0, z1, z2, f0, f1, f2⟩ := hR.box.cells
  clear hR
  go_wp2
  exact ret_meth_tmp (p := 2) (u := 3) rfl rfl rfl (HR.out.box.set _ _ _) rfl rfl (HR.out.bad _ undef undef)

theorem cut_sizes {s x : ByteArray} (h : x ∈ cutB s) : x.size ≤ s.size := by
  have key : ∀ (l : List UInt8) y, y ∈ cutL l → y.length ≤ l.length := by
    intro l
    induction l with
    | nil => intro y hy; simp [cutL] at hy; rw [hy]; exact Nat.le_refl _
    | cons b l ih =>
      intro y hy
      rw [cutL] at hy
      split at hy
      · rcases List.mem_cons.1 hy with rfl | hy
        · simp
        · have := ih y hy; simp; omega
      · cases hc : cutL l with
        | nil => rw [hc] at hy; simp at hy; rw [hy]; simp
        | cons p q =>
          rw [hc] at hy ih
          rcases List.mem_cons.1 hy with rfl | hy
          · have := ih p (by simp); simp; omega
          · have := ih y (by simp [hy]); simp; omega
  obtain ⟨l, hl, rfl⟩ := List.mem_map.1 h
  have := key _ l hl
  show l.toArray.size ≤ _
  rw [Array.length_toList] at this
  simpa using this

set_option maxHeartbeats 4000000 in
theorem read_name (s : ByteArray) (w : World) (hg : Glb w) (hs : s.size ≤ 4000) (a b c : ByteArray) (hc : cutB s = [a, b, c]) (hn : nm a = false) : Calls Tryd.prog 4 #[.string s] w (RdPost 7 ByteArray.empty 0 [] w) := by
  have h' : ¬ 4000 < (s.size : Int) := by omega
  have HS := hide (split_st s w hg hs)
  rw [hc] at HS
  have hsa : a.size ≤ 9223372036854775807 := by have := cut_sizes (s := s) (x := a) (by rw [hc]; simp); omega
  have hsb : b.size ≤ 4000 := by have := cut_sizes (s := s) (x := b) (by rw [hc]; simp); omega
  have HNM := hide (fun W => name_any a W hsa)
  have HDC := hide (fun W => decimal_any b W (by omega))
  rw [hn] at HNM
  clear hc hn HDC
  clear hg
  go_enter Tryd.func4, Tryd.ntmps4
  go_wp2_with fail
  refine HS.out.mono ?_
  rintro e W ⟨rfl, hR⟩
  have HR := hide hR
  obtain ⟨z0, z1, z2, f0, f1, f2⟩ := hR.box.cells
  have p0 := hR.part 0 a rfl
  have p1 := hR.part 1 b rfl
  have p2 := hR.part 2 c rfl
  have hlt := hR.lt
  clear hR
  go_wp2_with fail
  refine (HNM.out _).mono ?_
  rintro e W2 ⟨rfl, hb2⟩
  replace HR := hide (HR.out.later hb2)
  obtain ⟨y0, y1, y2, g0, g1, g2⟩ := HR.out.box.cells
  clear z0 z1 z2 f0 f1 f2 p0 p1 p2 hb2
  go_wp2
  exact ret_meth_tmp (p := 2) (u := 3) rfl rfl rfl (HR.out.box.set _ _ _) rfl rfl (HR.out.bad _ undef undef)

set_option maxHeartbeats 4000000 in
theorem read_num (s : ByteArray) (w : World) (hg : Glb w) (hs : s.size ≤ 4000) (a b c : ByteArray) (hc : cutB s = [a, b, c]) (hn : nm a = true) (hd : dcm b.data.toList = false) : Calls Tryd.prog 4 #[.string s] w (RdPost 4 ByteArray.empty 0 [] w) := by
  have h' : ¬ 4000 < (s.size : Int) := by omega
  have HS := hide (split_st s w hg hs)
  rw [hc] at HS
  have hsa : a.size ≤ 9223372036854775807 := by have := cut_sizes (s := s) (x := a) (by rw [hc]; simp); omega
  have hsb : b.size ≤ 4000 := by have := cut_sizes (s := s) (x := b) (by rw [hc]; simp); omega
  have HNM := hide (fun W => name_any a W hsa)
  have HDC := hide (fun W => decimal_any b W (by omega))
  rw [hn] at HNM
  rw [hd] at HDC
  clear hc hn hd
  clear hg
  go_enter Tryd.func4, Tryd.ntmps4
  go_wp2_with fail
  refine HS.out.mono ?_
  rintro e W ⟨rfl, hR⟩
  have HR := hide hR
  obtain ⟨z0, z1, z2, f0, f1, f2⟩ := hR.box.cells
  have p0 := hR.part 0 a rfl
  have p1 := hR.part 1 b rfl
  have p2 := hR.part 2 c rfl
  have hlt := hR.lt
  clear hR
  go_wp2_with fail
  refine (HNM.out _).mono ?_
  rintro e W2 ⟨rfl, hb2⟩
  replace HR := hide (HR.out.later hb2)
  have q1 := HR.out.part 1 b rfl
  clear z0 z1 z2 f0 f1 f2 p0 p1 p2 hb2
  go_wp2_with fail
  refine (HDC.out _).mono ?_
  rintro e W3 ⟨rfl, hb3⟩
  replace HR := hide (HR.out.later hb3)
  obtain ⟨y0, y1, y2, g0, g1, g2⟩ := HR.out.box.cells
  clear q1 hb3
  go_wp2
  exact ret_meth_tmp (p := 2) (u := 3) rfl rfl rfl (HR.out.box.set _ _ _) rfl rfl (HR.out.bad _ undef undef)

theorem dcm_parts {l : List UInt8} (h : dcm l = true) : (∀ b ∈ l, dgt b = true) ∧ l ≠ [] := by
  unfold dcm at h
  rw [Bool.and_eq_true] at h
  refine ⟨fun b hb => List.all_eq_true.1 h.1 b hb, fun e => ?_⟩
  rcases of_decide_eq_true h.2 with h1 | h1
  · rw [e] at h1; cases h1
  · exact h1.1 e

set_option maxHeartbeats 4000000 in
theorem read_count (s : ByteArray) (w : World) (hg : Glb w) (hs : s.size ≤ 4000) (a b c : ByteArray) (hc : cutB s = [a, b, c]) (hn : nm a = true) (hd : dcm b.data.toList = true) (hv : ¬ (2 ≤ valF 0 b.data.toList ∧ valF 0 b.data.toList ≤ 12)) : Calls Tryd.prog 4 #[.string s] w (RdPost 1 ByteArray.empty 0 [] w) := by
  have h' : ¬ 4000 < (s.size : Int) := by omega
  have HS := hide (split_st s w hg hs)
  rw [hc] at HS
  have hsa : a.size ≤ 9223372036854775807 := by have := cut_sizes (s := s) (x := a) (by rw [hc]; simp); omega
  have hsb : b.size ≤ 4000 := by have := cut_sizes (s := s) (x := b) (by rw [hc]; simp); omega
  have HNM := hide (fun W => name_any a W hsa)
  have HDC := hide (fun W => decimal_any b W (by omega))
  rw [hn] at HNM
  rw [hd] at HDC
  have HDP := hide (dcm_parts hd)
  clear hc hn hd
  clear hg
  go_enter Tryd.func4, Tryd.ntmps4
  go_wp2_with fail
  refine HS.out.mono ?_
  rintro e W ⟨rfl, hR⟩
  have HR := hide hR
  obtain ⟨z0, z1, z2, f0, f1, f2⟩ := hR.box.cells
  have p0 := hR.part 0 a rfl
  have p1 := hR.part 1 b rfl
  have p2 := hR.part 2 c rfl
  have hlt := hR.lt
  clear hR
  go_wp2_with fail
  refine (HNM.out _).mono ?_
  rintro e W2 ⟨rfl, hb2⟩
  replace HR := hide (HR.out.later hb2)
  have q1 := HR.out.part 1 b rfl
  clear z0 z1 z2 f0 f1 f2 p0 p1 p2 hb2
  go_wp2_with fail
  refine (HDC.out _).mono ?_
  rintro e W3 ⟨rfl, hb3⟩
  replace HR := hide (HR.out.later hb3)
  have r1 := HR.out.part 1 b rfl
  clear q1 hb3
  go_wp2_with fail
  refine (atoi_ok b _ HR.out.glb hsb HDP.out.1 HDP.out.2).mono ?_
  rintro e W4 ⟨z, ev, rfl, hz1, hz2, hb4⟩
  replace HR := hide (HR.out.later hb4)
  have hzb : z < 2 ∨ 12 < z := by rw [← hz1] at hv; omega
  obtain ⟨y0, y1, y2, g0, g1, g2⟩ := HR.out.box.cells
  clear r1 hb4 hz1 hz2 hv
  go_wp2_with fail
  refine (mmay_no _ _ hzb).mono ?_
  rintro e w' ⟨rfl, rfl⟩
  go_wp2
  exact ret_meth_tmp (p := 2) (u := 3) rfl rfl rfl (HR.out.box.set _ _ _) rfl rfl (HR.out.bad _ undef undef)

/-- A method's box, all three cells set: the changes stay. -/
theorem LL.set3 {w : World} {base B : Nat} {v : Value} {vs : List Value} {X : List (List Int)} (h : LL w base v vs X) (hb : B < base) (x y z : Value) : LL (((w.setCell ⟨B, 0, none⟩ x).setCell ⟨B, 1, none⟩ y).setCell ⟨B, 2, none⟩ z) base v vs X :=
  ((h.set hb).set hb).set hb

/-- What reading three parts comes to where the number may be. -/
def rdP (a : ByteArray) (N : Nat) (c : ByteArray) : Int × ByteArray × Int × List (List Int) :=
  if (RS.parse N si (runesOf c)).1 = 0 then (0, a, (N : Int), (RS.parse N si (runesOf c)).2) else ((RS.parse N si (runesOf c)).1, ByteArray.empty, 0, [])

set_option maxHeartbeats 4000000 in
theorem read_parse (s : ByteArray) (w : World) (hg : Glb w) (hs : s.size ≤ 4000) (a b c : ByteArray) (hc : cutB s = [a, b, c]) (hn : nm a = true) (hd : dcm b.data.toList = true) (N : Nat) (hN : valF 0 b.data.toList = N) (hv1 : 2 ≤ N) (hv2 : N ≤ 12) : Calls Tryd.prog 4 #[.string s] w (RdPost (rdP a N c).1 (rdP a N c).2.1 (rdP a N c).2.2.1 (rdP a N c).2.2.2 w) := by
  have h' : ¬ 4000 < (s.size : Int) := by omega
  have HS := hide (split_st s w hg hs)
  rw [hc] at HS
  have hsa : a.size ≤ 9223372036854775807 := by have := cut_sizes (s := s) (x := a) (by rw [hc]; simp); omega
  have hsb : b.size ≤ 4000 := by have := cut_sizes (s := s) (x := b) (by rw [hc]; simp); omega
  have hsc : c.size ≤ 4000 := by have := cut_sizes (s := s) (x := c) (by rw [hc]; simp); omega
  have HNM := hide (fun W => name_any a W hsa)
  have HDC := hide (fun W => decimal_any b W (by omega))
  rw [hn] at HNM
  rw [hd] at HDC
  have HDP := hide (dcm_parts hd)
  have HPO := hide (fun W => parse_own (N : Int) c W (by omega) (by omega) hsc)
  have HRD : Hid (rdP a N c = if (RS.parse N si (runesOf c)).1 = 0 then (0, a, (N : Int), (RS.parse N si (runesOf c)).2) else ((RS.parse N si (runesOf c)).1, ByteArray.empty, 0, [])) := rfl
  clear hc hn hd hg
  unfold ParseOwn at HPO
  generalize RS.parse N si (runesOf c) = pr at *
  obtain ⟨code, X⟩ := pr
  generalize rdP a N c = rp at *
  go_enter Tryd.func4, Tryd.ntmps4
  go_wp2_with fail
  refine HS.out.mono ?_
  rintro e W ⟨rfl, hR⟩
  have HR := hide hR
  have p0 := hR.part 0 a rfl
  have hlt := hR.lt
  clear hR
  go_wp2_with fail
  refine (HNM.out _).mono ?_
  rintro e W2 ⟨rfl, hb2⟩
  replace HR := hide (HR.out.later hb2)
  have q1 := HR.out.part 1 b rfl
  clear p0 hb2
  go_wp2_with fail
  refine (HDC.out _).mono ?_
  rintro e W3 ⟨rfl, hb3⟩
  replace HR := hide (HR.out.later hb3)
  have r1 := HR.out.part 1 b rfl
  clear q1 hb3
  go_wp2_with fail
  refine (atoi_ok b _ HR.out.glb hsb HDP.out.1 HDP.out.2).mono ?_
  rintro e W4 ⟨z, ev, rfl, hz1, hz2, hb4⟩
  replace HR := hide (HR.out.later hb4)
  have hzb := hz1.2 (by rw [hN]; omega)
  have hzN := hz2 hzb
  rw [hN] at hzN
  subst hzN
  have r2 := HR.out.part 2 c rfl
  have hlt4 := HR.out.lt
  clear r1 hb4 hz1 hz2 hN hlt
  go_wp2_with fail
  refine (mmay_yes _ _ (by omega) (by omega)).mono ?_
  rintro e w' ⟨rfl, rfl⟩
  go_wp2_with fail
  refine (HPO.out _).mono ?_
  rintro e W5 ⟨hb5, v, vs, rfl, hL⟩
  replace HR := hide (HR.out.later hb5)
  obtain ⟨y0, y1, y2, g0, g1, g2⟩ := HR.out.box.cells
  have t0 := HR.out.part 0 a rfl
  have HL := hide (hL.set3 (show w.heap.size < W4.heap.size by omega))
  obtain ⟨vp, vc, hvf⟩ := owns_slice hL.row
  subst hvf
  clear r2 hb5 hL HPO
  by_cases h0 : code = 0
  · subst h0
    rw [if_pos rfl] at HRD
    have hr := HRD.out
    subst hr
    clear HRD
    go_wp2
    exact ret_meth_tmp (p := 2) (u := 3) rfl rfl rfl (HR.out.box.set _ _ _) rfl rfl ⟨_, rfl, (HL.out _ _ _).ints, below_set3 HR.out.below (Nat.le_refl _) _ _ _⟩
  · rw [if_neg h0] at HRD
    have hr := HRD.out
    subst hr
    clear HRD
    have hne : (code != 0) = true := by simpa using h0
    go_wp2
    exact ret_meth_tmp (p := 2) (u := 3) rfl rfl rfl (HR.out.box.set _ _ _) rfl rfl (HR.out.bad _ undef undef)

end Go.Proofs.YtfngadfkopfhcaaDoor

/- Contract: the answer's ReadMethod. -/
namespace Go.Proofs.YtfngadfkopfhcaaDoor
open Go.RowKit
set_option maxRecDepth 20000
set_option linter.unusedVariables false

/-- Behind the cut. -/
structure RmSt (w W : World) (g : Nat) (ps : List ByteArray) : Prop where
  box : Zbox W w.heap.size
  part : ∀ j x, ps[j]? = some x → W.cell? ⟨g, j, none⟩ = some (.string x)
  lt : g < W.heap.size
  low : w.heap.size < g
  below : Below w.heap.size w W

theorem RmSt.later {w W W' : World} {g : Nat} {ps : List ByteArray} (h : RmSt w W g ps) (hb : Below W.heap.size W W') : RmSt w W' g ps :=
  ⟨h.box.below hb, fun j x hx => by rw [hb.cell (p := ⟨g, j, none⟩) h.lt]; exact h.part j x hx, Nat.lt_of_lt_of_le h.lt hb.size, h.low, h.below.trans (hb.mono h.below.size)⟩

theorem cutB_pos (s : ByteArray) : 1 ≤ (cutB s).length := by rw [cutB_length]; omega

theorem cut_st (s : ByteArray) (w : World) (hs : s.size ≤ 4000) :
    Calls Tryd.prog 13 #[.string s, .int .u8 124] (w.alloc (.cells #[.string ⟨#[]⟩, .int .i64 0, .slice none 0 0] 24)) fun e W => ∃ g c, e = .returned (.slice (some ⟨g, 0, none⟩) (cutB s).length c) ∧ (cutB s).length ≤ c ∧ c ≤ 9223372036854775807 ∧ RmSt w W g (cutB s) := by
  have HZ0 := Zbox.start w
  have HB0 := ((Below.refl w.heap.size w).alloc (Nat.le_refl _) (.cells #[.string ⟨#[]⟩, .int .i64 0, .slice none 0 0] 24))
  refine (cutAt_any s _ (by omega)).mono ?_
  rintro e W ⟨v, rfl, ho, hb⟩
  have hz : (w.alloc (.cells #[.string ⟨#[]⟩, .int .i64 0, .slice none 0 0] 24)).heap.size = w.heap.size + 1 := by simp
  obtain ⟨g, c, rfl, hg1, hg2, hc1, hc2⟩ := owns_form ho (cutB_pos s)
  refine ⟨g, c, rfl, hc1, hc2, HZ0.below hb, fun j x hx => ?_, hg2, by rw [hz] at hg1; omega, HB0.trans (hb.mono HB0.size)⟩
  have h9 := ho.cells (g := g) rfl j (.string x) (by simp [sVals, hx])
  rw [Addr.add_lit, Nat.zero_add] at h9
  exact h9

theorem RmSt.bad {w W : World} {g : Nat} {ps : List ByteArray} (h : RmSt w W g ps) (code : Int) : RdPost code ByteArray.empty 0 [] w (.returned (.tuple #[.agg #[.string ⟨#[]⟩, .int .i64 0, .slice none 0 0], .int .i64 code])) (((W.setCell ⟨w.heap.size, 0, none⟩ (.string ⟨#[]⟩)).setCell ⟨w.heap.size, 1, none⟩ (.int .i64 0)).setCell ⟨w.heap.size, 2, none⟩ (.slice none 0 0)) :=
  ⟨_, rfl, intsAll_none _, below_set3 h.below (Nat.le_refl _) _ _ _⟩

set_option maxHeartbeats 4000000 in
theorem rread_long (s : ByteArray) (w : World) (hs : s.size ≤ 9223372036854775807) (h : 4000 < s.size) : Calls Tryd.prog 5 #[.string s] w (RdPost 3 ByteArray.empty 0 [] w) := by
  have h' : 4000 < (s.size : Int) := by omega
  have HZ := hide (Zbox.start w)
  have HB := hide ((Below.refl w.heap.size w).alloc (Nat.le_refl _) (.cells #[.string ⟨#[]⟩, .int .i64 0, .slice none 0 0] 24))
  clear h
  go_enter Tryd.func5, Tryd.ntmps5
  go_wp2
  exact ret_meth_tmp (p := 2) (u := 3) rfl rfl rfl HZ.out rfl rfl ⟨_, rfl, intsAll_none _, HB.out⟩

set_option maxHeartbeats 4000000 in
theorem rread_short (s : ByteArray) (w : World) (hs : s.size ≤ 4000) (h : (cutB s).length < 3) : Calls Tryd.prog 5 #[.string s] w (RdPost 5 ByteArray.empty 0 [] w) := by
  have h' : ¬ 4000 < (s.size : Int) := by omega
  have HS := hide (cut_st s w hs)
  generalize cutB s = ps at *
  generalize ps.length = L at *
  have h2 : (L : Int) < 3 := by omega
  clear h
  go_enter Tryd.func5, Tryd.ntmps5
  go_wp2_with fail
  refine HS.out.mono ?_
  rintro e W ⟨g, cc, rfl, hcc1, hcc2, hR⟩
  have HR := hide hR
  obtain ⟨z0, z1, z2, f0, f1, f2⟩ := hR.box.cells
  clear hR
  go_wp2
  exact ret_meth_tmp (p := 2) (u := 3) rfl rfl rfl (HR.out.box.set _ _ _) rfl rfl (HR.out.bad _)

set_option maxHeartbeats 4000000 in
theorem rread_many (s : ByteArray) (w : World) (hs : s.size ≤ 4000) (h : 3 < (cutB s).length) : Calls Tryd.prog 5 #[.string s] w (RdPost 4 ByteArray.empty 0 [] w) := by
  have h' : ¬ 4000 < (s.size : Int) := by omega
  have HS := hide (cut_st s w hs)
  generalize cutB s = ps at *
  generalize ps.length = L at *
  have h2 : 3 < (L : Int) := by omega
  clear h
  go_enter Tryd.func5, Tryd.ntmps5
  go_wp2_with fail
  refine HS.out.mono ?_
  rintro e W ⟨g, cc, rfl, hcc1, hcc2, hR⟩
  have HR := hide hR
  obtain ⟨z0, z1, z2, f0, f1, f2⟩ := hR.box.cells
  clear hR
  go_wp2
  exact ret_meth_tmp (p := 2) (u := 3) rfl rfl rfl (HR.out.box.set _ _ _) rfl rfl (HR.out.bad _)

set_option maxHeartbeats 4000000 in
theorem rread_name (s : ByteArray) (w : World) (hs : s.size ≤ 4000) (a b c : ByteArray) (hc : cutB s = [a, b, c]) (hn : nm a = false) : Calls Tryd.prog 5 #[.string s] w (RdPost 7 ByteArray.empty 0 [] w) := by
  have h' : ¬ 4000 < (s.size : Int) := by omega
  have HS := hide (cut_st s w hs)
  rw [hc] at HS
  have hsa : a.size ≤ 1048576 := by have := cut_sizes (s := s) (x := a) (by rw [hc]; simp); omega
  have hsb : b.size ≤ 4000 := by have := cut_sizes (s := s) (x := b) (by rw [hc]; simp); omega
  have hsc : c.size ≤ 4000 := by have := cut_sizes (s := s) (x := c) (by rw [hc]; simp); omega
  have HNM := hide (fun W => isName_any a W hsa)
  rw [nm_isN] at HNM
  rw [hn] at HNM
  clear hc hn
  go_enter Tryd.func5, Tryd.ntmps5
  go_wp2_with fail
  refine HS.out.mono ?_
  rintro e W ⟨g, cc, rfl, hcc1, hcc2, hR⟩
  have HR := hide hR
  obtain ⟨z0, z1, z2, f0, f1, f2⟩ := hR.box.cells
  have p0 := hR.part 0 a rfl
  have hlt := hR.lt
  simp only [List.length_cons, List.length_nil] at hcc1
  clear hR
  go_wp2_with fail
  refine (HNM.out _).mono ?_
  rintro e W2 ⟨rfl, hb2⟩
  replace HR := hide (HR.out.later hb2)
  obtain ⟨y0, y1, y2, g0, g1, g2⟩ := HR.out.box.cells
  have q1 := HR.out.part 1 b rfl
  have hlt2 := HR.out.lt
  clear z0 z1 z2 f0 f1 f2 p0 hb2 hlt
  go_wp2
  exact ret_meth_tmp (p := 2) (u := 3) rfl rfl rfl (HR.out.box.set _ _ _) rfl rfl (HR.out.bad _)

set_option maxHeartbeats 4000000 in
theorem rread_num (s : ByteArray) (w : World) (hs : s.size ≤ 4000) (a b c : ByteArray) (hc : cutB s = [a, b, c]) (hn : nm a = true) (hd : dcm b.data.toList = false) : Calls Tryd.prog 5 #[.string s] w (RdPost 4 ByteArray.empty 0 [] w) := by
  have h' : ¬ 4000 < (s.size : Int) := by omega
  have HS := hide (cut_st s w hs)
  rw [hc] at HS
  have hsa : a.size ≤ 1048576 := by have := cut_sizes (s := s) (x := a) (by rw [hc]; simp); omega
  have hsb : b.size ≤ 4000 := by have := cut_sizes (s := s) (x := b) (by rw [hc]; simp); omega
  have hsc : c.size ≤ 4000 := by have := cut_sizes (s := s) (x := c) (by rw [hc]; simp); omega
  have HNM := hide (fun W => isName_any a W hsa)
  rw [nm_isN] at HNM
  rw [hn] at HNM
  have HDG := hide (fun W => digits_any b W (by omega))
  rw [show dgE b.data.toList = -1 from by unfold dgE; rw [if_neg (by rw [hd]; decide)]] at HDG
  clear hc hn hd
  go_enter Tryd.func5, Tryd.ntmps5
  go_wp2_with fail
  refine HS.out.mono ?_
  rintro e W ⟨g, cc, rfl, hcc1, hcc2, hR⟩
  have HR := hide hR
  obtain ⟨z0, z1, z2, f0, f1, f2⟩ := hR.box.cells
  have p0 := hR.part 0 a rfl
  have hlt := hR.lt
  simp only [List.length_cons, List.length_nil] at hcc1
  clear hR
  go_wp2_with fail
  refine (HNM.out _).mono ?_
  rintro e W2 ⟨rfl, hb2⟩
  replace HR := hide (HR.out.later hb2)
  obtain ⟨y0, y1, y2, g0, g1, g2⟩ := HR.out.box.cells
  have q1 := HR.out.part 1 b rfl
  have hlt2 := HR.out.lt
  clear z0 z1 z2 f0 f1 f2 p0 hb2 hlt
  go_wp2_with fail
  refine (HDG.out _).mono ?_
  rintro e w' ⟨rfl, rfl⟩
  go_wp2
  exact ret_meth_tmp (p := 2) (u := 3) rfl rfl rfl (HR.out.box.set _ _ _) rfl rfl (HR.out.bad _)

set_option maxHeartbeats 4000000 in
theorem rread_count (s : ByteArray) (w : World) (hs : s.size ≤ 4000) (a b c : ByteArray) (hc : cutB s = [a, b, c]) (hn : nm a = true) (hd : dcm b.data.toList = true) (hv : ¬ (2 ≤ valF 0 b.data.toList ∧ valF 0 b.data.toList ≤ 12)) : Calls Tryd.prog 5 #[.string s] w (RdPost 1 ByteArray.empty 0 [] w) := by
  have h' : ¬ 4000 < (s.size : Int) := by omega
  have HS := hide (cut_st s w hs)
  rw [hc] at HS
  have hsa : a.size ≤ 1048576 := by have := cut_sizes (s := s) (x := a) (by rw [hc]; simp); omega
  have hsb : b.size ≤ 4000 := by have := cut_sizes (s := s) (x := b) (by rw [hc]; simp); omega
  have hsc : c.size ≤ 4000 := by have := cut_sizes (s := s) (x := c) (by rw [hc]; simp); omega
  have HNM := hide (fun W => isName_any a W hsa)
  rw [nm_isN] at HNM
  rw [hn] at HNM
  have HDG := hide (fun W => digits_any b W (by omega))
  rw [show dgE b.data.toList = ((capF 0 b.data.toList : Nat) : Int) from by unfold dgE; rw [if_pos hd], capF_val b.data.toList 0 0 rfl] at HDG
  have hzb : min (valF 0 b.data.toList) 1000000000 < 2 ∨ 12 < min (valF 0 b.data.toList) 1000000000 := by omega
  generalize min (valF 0 b.data.toList) 1000000000 = z at *
  clear hc hn hd hv
  go_enter Tryd.func5, Tryd.ntmps5
  go_wp2_with fail
  refine HS.out.mono ?_
  rintro e W ⟨g, cc, rfl, hcc1, hcc2, hR⟩
  have HR := hide hR
  obtain ⟨z0, z1, z2, f0, f1, f2⟩ := hR.box.cells
  have p0 := hR.part 0 a rfl
  have hlt := hR.lt
  simp only [List.length_cons, List.length_nil] at hcc1
  clear hR
  go_wp2_with fail
  refine (HNM.out _).mono ?_
  rintro e W2 ⟨rfl, hb2⟩
  replace HR := hide (HR.out.later hb2)
  obtain ⟨y0, y1, y2, g0, g1, g2⟩ := HR.out.box.cells
  have q1 := HR.out.part 1 b rfl
  have hlt2 := HR.out.lt
  clear z0 z1 z2 f0 f1 f2 p0 hb2 hlt
  go_wp2_with fail
  refine (HDG.out _).mono ?_
  rintro e w' ⟨rfl, rfl⟩
  rcases hzb with hzb | hzb
  · have hz1 : (z : Int) < 2 := by omega
    go_wp2
    exact ret_meth_tmp (p := 2) (u := 3) rfl rfl rfl (HR.out.box.set _ _ _) rfl rfl (HR.out.bad _)
  · have hz1 : ¬ (z : Int) < 2 := by omega
    have hz2 : 12 < (z : Int) := by omega
    go_wp2
    exact ret_meth_tmp (p := 2) (u := 3) rfl rfl rfl (HR.out.box.set _ _ _) rfl rfl (HR.out.bad _)

set_option maxHeartbeats 4000000 in
theorem rread_parse (s : ByteArray) (w : World) (hs : s.size ≤ 4000) (a b c : ByteArray) (hc : cutB s = [a, b, c]) (hn : nm a = true) (hd : dcm b.data.toList = true) (N : Nat) (hN : valF 0 b.data.toList = N) (hv1 : 2 ≤ N) (hv2 : N ≤ 12) : Calls Tryd.prog 5 #[.string s] w (RdPost (rdP a N c).1 (rdP a N c).2.1 (rdP a N c).2.2.1 (rdP a N c).2.2.2 w) := by
  have h' : ¬ 4000 < (s.size : Int) := by omega
  have HS := hide (cut_st s w hs)
  rw [hc] at HS
  have hsa : a.size ≤ 1048576 := by have := cut_sizes (s := s) (x := a) (by rw [hc]; simp); omega
  have hsb : b.size ≤ 4000 := by have := cut_sizes (s := s) (x := b) (by rw [hc]; simp); omega
  have hsc : c.size ≤ 4000 := by have := cut_sizes (s := s) (x := c) (by rw [hc]; simp); omega
  have HNM := hide (fun W => isName_any a W hsa)
  rw [nm_isN] at HNM
  rw [hn] at HNM
  have HDG := hide (fun W => digits_any b W (by omega))
  rw [show dgE b.data.toList = ((capF 0 b.data.toList : Nat) : Int) from by unfold dgE; rw [if_pos hd], capF_val b.data.toList 0 0 rfl, hN, show min N 1000000000 = N from by omega] at HDG
  have HPO := hide (fun W => parsePlaces_own (N : Int) c W (by omega) (by omega) hsc)
  have HRD : Hid (rdP a N c = if (RS.parse N si (runesOf c)).1 = 0 then (0, a, (N : Int), (RS.parse N si (runesOf c)).2) else ((RS.parse N si (runesOf c)).1, ByteArray.empty, 0, [])) := rfl
  clear hc hn hd hN
  unfold ParseOwn at HPO
  generalize RS.parse N si (runesOf c) = pr at *
  obtain ⟨code, X⟩ := pr
  generalize rdP a N c = rp at *
  go_enter Tryd.func5, Tryd.ntmps5
  go_wp2_with fail
  refine HS.out.mono ?_
  rintro e W ⟨g, cc, rfl, hcc1, hcc2, hR⟩
  have HR := hide hR
  obtain ⟨z0, z1, z2, f0, f1, f2⟩ := hR.box.cells
  have p0 := hR.part 0 a rfl
  have hlt := hR.lt
  simp only [List.length_cons, List.length_nil] at hcc1
  clear hR
  go_wp2_with fail
  refine (HNM.out _).mono ?_
  rintro e W2 ⟨rfl, hb2⟩
  replace HR := hide (HR.out.later hb2)
  obtain ⟨y0, y1, y2, g0, g1, g2⟩ := HR.out.box.cells
  have q1 := HR.out.part 1 b rfl
  have hlt2 := HR.out.lt
  clear z0 z1 z2 f0 f1 f2 p0 hb2 hlt
  go_wp2_with fail
  refine (HDG.out _).mono ?_
  rintro e w' ⟨rfl, rfl⟩
  have r2 := HR.out.part 2 c rfl
  have hlo := HR.out.low
  have n1 : ¬ (N : Int) < 0 := by omega
  have n2 : ¬ (N : Int) < 2 := by omega
  have n3 : ¬ 12 < (N : Int) := by omega
  clear q1 y0 y1 y2 g0 g1 g2
  go_wp2_with fail
  refine (HPO.out _).mono ?_
  rintro e W5 ⟨hb5, v, vs, rfl, hL⟩
  replace HR := hide (HR.out.later hb5)
  obtain ⟨y0, y1, y2, g0, g1, g2⟩ := HR.out.box.cells
  have t0 := HR.out.part 0 a rfl
  have HL := hide (hL.set3 (show w.heap.size < W2.heap.size by omega))
  obtain ⟨vp, vc, hvf⟩ := owns_slice hL.row
  subst hvf
  clear r2 hb5 hL HPO
  by_cases h0 : code = 0
  · subst h0
    rw [if_pos rfl] at HRD
    have hr := HRD.out
    subst hr
    clear HRD
    go_wp2
    exact ret_meth_tmp (p := 2) (u := 3) rfl rfl rfl (HR.out.box.set _ _ _) rfl rfl ⟨_, rfl, (HL.out _ _ _).ints, below_set3 HR.out.below (Nat.le_refl _) _ _ _⟩
  · rw [if_neg h0] at HRD
    have hr := HRD.out
    subst hr
    clear HRD
    have hne : (code != 0) = true := by simpa using h0
    go_wp2
    exact ret_meth_tmp (p := 2) (u := 3) rfl rfl rfl (HR.out.box.set _ _ _) rfl rfl (HR.out.bad _)

/-- Both read alike. -/
theorem reads_alike (s : ByteArray) (hs : s.size ≤ 9223372036854775807) : ∃ (code : Int) (a : ByteArray) (n : Int) (X : List (List Int)), (∀ w, Glb w → Calls Tryd.prog 4 #[.string s] w (RdPost code a n X w)) ∧ (∀ w, Calls Tryd.prog 5 #[.string s] w (RdPost code a n X w)) := by
  by_cases h4 : 4000 < s.size
  · exact ⟨_, _, _, _, fun w _ => read_long s w hs h4, fun w => rread_long s w hs h4⟩
  · have h4' : s.size ≤ 4000 := by omega
    by_cases h1 : (cutB s).length < 3
    · exact ⟨_, _, _, _, fun w hg => read_short s w hg h4' h1, fun w => rread_short s w h4' h1⟩
    · by_cases h2 : 3 < (cutB s).length
      · exact ⟨_, _, _, _, fun w hg => read_many s w hg h4' h2, fun w => rread_many s w h4' h2⟩
      · obtain ⟨a, b, c, hc⟩ : ∃ a b c, cutB s = [a, b, c] := by
          have h3 : (cutB s).length = 3 := by omega
          match cutB s, h3 with
          | [a, b, c], _ => exact ⟨a, b, c, rfl⟩
        cases hn : nm a with
        | false => exact ⟨_, _, _, _, fun w hg => read_name s w hg h4' a b c hc hn, fun w => rread_name s w h4' a b c hc hn⟩
        | true =>
          cases hd : dcm b.data.toList with
          | false => exact ⟨_, _, _, _, fun w hg => read_num s w hg h4' a b c hc hn hd, fun w => rread_num s w h4' a b c hc hn hd⟩
          | true =>
            by_cases hv : 2 ≤ valF 0 b.data.toList ∧ valF 0 b.data.toList ≤ 12
            · exact ⟨_, _, _, _, fun w hg => read_parse s w hg h4' a b c hc hn hd _ rfl hv.1 hv.2, fun w => rread_parse s w h4' a b c hc hn hd _ rfl hv.1 hv.2⟩
            · exact ⟨_, _, _, _, fun w hg => read_count s w hg h4' a b c hc hn hd hv, fun w => rread_count s w h4' a b c hc hn hd hv⟩

end Go.Proofs.YtfngadfkopfhcaaDoor

/- Plain: the length and the lists of a slice of lists. -/
namespace Go.Proofs.YtfngadfkopfhcaaDoor
open Go.RowKit

theorem IntsAll.len {w : World} {v : Value} {xss : List (List Int)} (h : IntsAll w v xss) : ∃ p c, v = .slice p xss.length c := by
  obtain ⟨vs, h1, h2, _⟩ := h
  rw [← h2]; exact h1.form

/-- The k-th list of a slice of lists that is not empty. -/
theorem IntsAll.cell {w : World} {v : Value} {xss : List (List Int)} (h : IntsAll w v xss) (h0 : 1 ≤ xss.length) : ∃ b off cap, v = .slice (some ⟨b, off, none⟩) xss.length cap ∧ b < w.heap.size ∧ xss.length ≤ cap ∧ cap ≤ 9223372036854775807 ∧
    ∀ k, k < xss.length → ∃ p c, w.cell? ⟨b, off + k, none⟩ = some (.slice p (xss.getD k []).length c) ∧ Hid (Ints w (.slice p (xss.getD k []).length c) (xss.getD k [])) := by
  obtain ⟨vs, h1, h2, h3⟩ := h
  rcases h1 with ⟨rfl, _⟩ | ⟨b, off, cap, rfl, h4, h5, h6, h7, h8⟩
  · simp at h2; omega
  · refine ⟨b, off, cap, by rw [h2], h7, by omega, h6, fun k hk => ?_⟩
    exact elAt h8 (by omega) (h3 k hk)

theorem IntsAll.cut {w : World} {b off K cap k : Nat} {X : List (List Int)} (h : IntsAll w (.slice (some ⟨b, off, none⟩) K cap) X) (hl : X.length = K) (hk : k ≤ K) : IntsAll w (.slice (some ⟨b, off, none⟩) k cap) (X.take k) := by
  obtain ⟨vs, h1, h2, h3⟩ := h
  rcases Nat.eq_zero_or_pos k with rfl | h0
  · exact ⟨[], Or.inl ⟨rfl, _, _, rfl⟩, by simp, fun j hj => by simp at hj⟩
  rcases h1 with ⟨rfl, _⟩ | ⟨b', off', cap', e, h4, h5, h6, h7, h8⟩
  · simp at h2; omega
  obtain ⟨⟨rfl, rfl⟩, _, rfl⟩ : (b = b' ∧ off = off') ∧ K = vs.length ∧ cap = cap' := by
    simpa using e
  refine ⟨vs.take k, Or.inr ⟨b, off, cap, ?_, ?_, ?_, h6, h7, fun j hj => ?_⟩, ?_, fun j hj => ?_⟩
  · rw [List.length_take, Nat.min_eq_left (by omega)]
  · rw [List.length_take]; omega
  · rw [List.length_take]; omega
  · rw [List.length_take] at hj
    rw [h8 j (by omega)]
    simp [List.getD, show j < k by omega]
  · rw [List.length_take, List.length_take, h2]
  · rw [List.length_take] at hj
    have e1 : (vs.take k).getD j undef = vs.getD j undef := by simp [List.getD, show j < k by omega]
    have e2 : (X.take k).getD j [] = X.getD j [] := by simp [List.getD, show j < k by omega]
    rw [e1, e2]
    exact h3 j (by omega)

end Go.Proofs.YtfngadfkopfhcaaDoor

/- The law MethodReads. -/
namespace Go.Proofs.YtfngadfkopfhcaaDoor
open Go.RowKit
set_option maxRecDepth 20000
set_option linter.unusedVariables false

theorem mbx (w : World) (s : ByteArray) (n : Int) (v : Value) : (w.alloc (.cells #[.string s, .int .i64 n, v] 24)).cell? ⟨w.heap.size, 0, none⟩ = some (.string s) ∧ (w.alloc (.cells #[.string s, .int .i64 n, v] 24)).cell? ⟨w.heap.size, 1, none⟩ = some (.int .i64 n) ∧ (w.alloc (.cells #[.string s, .int .i64 n, v] 24)).cell? ⟨w.heap.size, 2, none⟩ = some v := by
  refine ⟨?_, ?_, ?_⟩ <;> simp

set_option maxHeartbeats 4000000 in
theorem sameMethod_ok (s : ByteArray) (n : Int) (u v : Value) (X : List (List Int)) (w : World) (h1 : IntsAll w u X) (h2 : IntsAll w v X) :
    Calls Tryd.prog 6 #[.agg #[.string s, .int .i64 n, u], .agg #[.string s, .int .i64 n, v]] w fun e w' => e = .returned (.bool true) ∧ Below w.heap.size w w' := by
  obtain ⟨up, uc, rfl⟩ := h1.len
  obtain ⟨vp, vc, rfl⟩ := h2.len
  have HB0 : Below w.heap.size w ((w.alloc (.cells #[.string s, .int .i64 n, .slice up X.length uc] 24)).alloc (.cells #[.string s, .int .i64 n, .slice vp X.length vc] 24)) := ((Below.refl _ _).alloc (Nat.le_refl _) _).alloc (by simp) _
  have HS := hide (sameAll_any _ _ X X _ (h1.below HB0) (h2.below HB0))
  replace HB0 := hide HB0
  have hst : ((s.toList == s.toList) : Bool) = true := beq_self_eq_true _
  generalize X.length = L at *
  clear h1 h2
  go_enter Tryd.func6, Tryd.ntmps6
  go_wp2_with fail
  refine HS.out.mono ?_
  rintro e w2 ⟨rfl, hb2⟩
  have HF := hide (HB0.out.trans (hb2.mono HB0.out.size))
  clear hb2 HS
  go_wp2
  go_ret
  exact ⟨by simp, HF.out⟩

set_option maxHeartbeats 4000000 in
theorem methodReads_between (s : ByteArray) (w : World) (h1 : 600 < s.size) (h2 : s.size < 4001) :
    Calls Tryd.prog 3 #[.string s] w fun e w' => e = .returned (.bool true) ∧ Below w.heap.size w w' := by
  have h1' : 600 < (s.size : Int) := by omega
  have h2' : (s.size : Int) < 4001 := by omega
  go_enter Tryd.func3, Tryd.ntmps3
  go_wp2
  go_ret
  exact ⟨rfl, Below.refl _ _⟩

set_option maxHeartbeats 4000000 in
theorem methodReads_go (s : ByteArray) (w : World) (hs : s.size ≤ 9223372036854775807) (h : s.size ≤ 600 ∨ 4001 ≤ s.size) (code : Int) (a : ByteArray) (n : Int) (X : List (List Int)) (H1 : ∀ w, Glb w → Calls Tryd.prog 4 #[.string s] w (RdPost code a n X w)) (H2 : ∀ w, Calls Tryd.prog 5 #[.string s] w (RdPost code a n X w)) (hg : Glb w) :
    Calls Tryd.prog 3 #[.string s] w fun e w' => e = .returned (.bool true) ∧ Below w.heap.size w w' := by
  have HA := hide (H1 w hg)
  have HB := hide H2
  clear H1 H2 hg
  have hc : (¬ 600 < (s.size : Int)) ∨ (600 < (s.size : Int) ∧ ¬ (s.size : Int) < 4001) := by omega
  rcases hc with hc | ⟨hc, hc2⟩
  all_goals
    clear h
    go_enter Tryd.func3, Tryd.ntmps3
    go_wp2_with fail
    refine HA.out.mono ?_
    rintro e w1 ⟨u, rfl, hu, hb1⟩
    obtain ⟨up, uc, rfl⟩ := hu.len
    have hb2 : Below w.heap.size w (w1.alloc (.cells #[.string a, .int .i64 n, .slice up X.length uc] 24)) := hb1.alloc hb1.size _
    have HU2 := hide (hu.below ((Below.refl _ _).alloc (Nat.le_refl _) (.cells #[.string a, .int .i64 n, .slice up X.length uc] 24)))
    obtain ⟨c0, c1, c2⟩ := mbx w1 a n (.slice up X.length uc)
    have hsz : w1.heap.size < (w1.alloc (.cells #[.string a, .int .i64 n, .slice up X.length uc] 24)).heap.size := by simp
    clear hu hb1
    go_wp2_with fail
    generalize w1.alloc (.cells #[.string a, .int .i64 n, .slice up X.length uc] 24) = W1 at *
    refine (HB.out W1).mono ?_
    rintro e w3 ⟨v, rfl, hv, hb3⟩
    obtain ⟨vp, vc, rfl⟩ := hv.len
    have d0 := (hb3.cell (p := ⟨w1.heap.size, 0, none⟩) hsz).trans c0
    have d1 := (hb3.cell (p := ⟨w1.heap.size, 1, none⟩) hsz).trans c1
    have d2 := (hb3.cell (p := ⟨w1.heap.size, 2, none⟩) hsz).trans c2
    have HB4 : Hid (Below w.heap.size w (w3.alloc (.cells #[.string a, .int .i64 n, .slice vp X.length vc] 24))) := by
      have := hb2.trans (hb3.mono hb2.size)
      exact this.alloc this.size _
    have hbn := (Below.refl w3.heap.size w3).alloc (Nat.le_refl _) (.cells #[.string a, .int .i64 n, .slice vp X.length vc] 24)
    have HSM := hide (sameMethod_ok a n _ _ X _ ((HU2.out.below hb3).below hbn) (hv.below hbn))
    have hlt3 : w1.heap.size < w3.heap.size := Nat.lt_of_lt_of_le hsz hb3.size
    have e0 := (hbn.cell (p := ⟨w1.heap.size, 0, none⟩) hlt3).trans d0
    have e1 := (hbn.cell (p := ⟨w1.heap.size, 1, none⟩) hlt3).trans d1
    have e2 := (hbn.cell (p := ⟨w1.heap.size, 2, none⟩) hlt3).trans d2
    clear hb2 hb3 hbn hv HU2 HB c0 c1 c2 hsz
    generalize X.length = L at *
    go_wp2_with fail
    refine HSM.out.mono ?_
    rintro e w5 ⟨rfl, hb5⟩
    have HF := hide (HB4.out.trans (hb5.mono HB4.out.size))
    clear hb5 HSM
    go_wp2
    go_ret
    exact ⟨rfl, HF.out⟩

theorem methodReads_walk (s : ByteArray) (w : World) (hs : s.size ≤ 9223372036854775807) (hg : Glb w) :
    Calls Tryd.prog 3 #[.string s] w fun e w' => e = .returned (.bool true) ∧ Below w.heap.size w w' := by
  by_cases h : 600 < s.size ∧ s.size < 4001
  · exact methodReads_between s w h.1 h.2
  · obtain ⟨code, a, n, X, H1, H2⟩ := reads_alike s hs
    exact methodReads_go s w hs (by omega) code a n X H1 H2 hg

end Go.Proofs.YtfngadfkopfhcaaDoor

/- A slice of lists that came in reads as a list of lists. -/
namespace Go.Proofs.YtfngadfkopfhcaaDoor
open Go.RowKit Go.ChangeShapes Go.WideShapes

theorem ints_row {w : World} {a : Option Addr} {len cap : Nat} {zs : List Int} (hl : len ≤ cap) (hm : cap ≤ maxLen) (hz : zs.length = cap) (hn : a = none → cap = 0)
    (hc : ∀ x, a = some x → ∀ c, c < cap → w.cell? (x.add c) = some (.int .i64 (zs.getD c 0))) : Ints w (.slice a len cap) (zs.take len) := by
  rcases Nat.eq_zero_or_pos len with h0 | h0
  · subst h0
    exact Or.inl ⟨rfl, a, cap, rfl⟩
  · cases a with
    | none => have := hn rfl; omega
    | some x =>
      obtain ⟨b, off, rfl, hcell⟩ := ints_at (zs := zs) (fun i hi => hc x rfl i (by omega)) (by omega)
      have hlen : (zs.take len).length = len := by rw [List.length_take]; omega
      refine Or.inr ⟨b, off, cap, by rw [hlen], by omega, by omega, by unfold maxLen at hm; omega, ?_, fun j hj => ?_⟩
      · exact World.block_lt_of_cell? w _ (hcell 0 (by omega))
      · rw [hlen] at hj
        rw [hcell j (by omega)]
        simp [List.getD, hj]

theorem rows_all {w : World} {base : Nat} {a : Addr} {len cap : Nat} {A : Nat → Option Addr} {L C : Nat → Nat} {Z : Nat → List Int} (hl : len ≤ cap) (hm : cap ≤ maxLen)
    (h : ∀ r, r < cap → w.cell? (a.add r) = some (.slice (A r) (L r) (C r)) ∧ L r ≤ C r ∧ C r ≤ maxLen ∧ (Z r).length = C r ∧ (∀ n ∈ Z r, (Lit.int .i64 n).wf = true) ∧ (A r = none → C r = 0) ∧
        ∀ a', A r = some a' → base ≤ a'.block ∧ ∀ c, c < C r → w.cell? (a'.add c) = some (.int .i64 ((Z r).getD c 0))) :
    ∃ xss, IntsAll w (.slice (some a) len cap) xss := by
  refine ⟨(List.range len).map (fun r => (Z r).take (L r)), (List.range len).map (fun r => .slice (A r) (L r) (C r)), ?_, by simp, fun j hj => ?_⟩
  · rcases Nat.eq_zero_or_pos len with h0 | h0
    · subst h0
      exact Or.inl ⟨rfl, _, _, rfl⟩
    · obtain ⟨b, off, spot⟩ := a
      have hspot : spot = none := by simpa [Addr.add] using World.cell?_spot (h 0 (by omega)).1
      subst hspot
      refine Or.inr ⟨b, off, cap, by simp, by simpa using h0, by simpa using hl, by unfold maxLen at hm; omega, ?_, fun j hj => ?_⟩
      · exact World.block_lt_of_cell? w _ (h 0 (by omega)).1
      · simp at hj
        rw [← Addr.add_lit, (h j (by omega)).1]
        simp [List.getD, hj]
  · simp at hj
    have e1 : ((List.range len).map (fun r => Value.slice (A r) (L r) (C r))).getD j undef = .slice (A j) (L j) (C j) := by simp [List.getD, hj]
    have e2 : ((List.range len).map (fun r => (Z r).take (L r))).getD j [] = (Z j).take (L j) := by simp [List.getD, hj]
    rw [e1, e2]
    obtain ⟨_, a1, a2, a3, _, a5, a6⟩ := h j (by omega)
    exact ints_row a1 a2 a3 a5 (fun x hx => (a6 x hx).2)

end Go.Proofs.YtfngadfkopfhcaaDoor
