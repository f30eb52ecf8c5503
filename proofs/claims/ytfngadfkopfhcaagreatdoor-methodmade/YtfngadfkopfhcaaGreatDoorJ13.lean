/- Joined: PPw, PPz, MrE, MrF, MrG, MsI, MsK, MsM, MethOf. -/
import Derived.Test.YtfngadfkopfhcaaGreatDoorJ12
import Derived.Deep.CutRange
import Derived.Test.YtfngadfkopfhcaaGreatDoorJ10
import Derived.Test.YtfngadfkopfhcaaGreatDoorJ3
import Derived.Test.YtfngadfkopfhcaaGreatDoorJ4
import Derived.Test.YtfngadfkopfhcaaGreatDoorJ8
import Derived.Test.YtfngadfkopfhcaaGreatDoorJ9
import Derived.Test.YtfngadfkopfhcaaGreatDoorJ7
/- Contract: the answer's ParsePlaces, where it reads. (Written by mkpp.py.) -/
namespace Go.Proofs.YtfngadfkopfhcaaGreatDoor
open Go.RowKit

theorem RS.Fine.stp {n : Int} {cs : List Nat} {k : Nat} {st st' : RS} (h : RS.Fine k st) (hk : k < cs.length) (h0 : stp n cs k st = (0, st')) : RS.Fine (k + 1) st' := by
  unfold Go.Proofs.YtfngadfkopfhcaaGreatDoor.stp at h0
  rw [if_pos hk] at h0
  have := h.take (n := n) (c := cs.getD k 0) (by rw [h0])
  rw [h0] at this
  exact this

theorem PInv.step {n : Int} {cs : List Nat} {L : List Int} {w w5 : World} {rv av bv ov : Value} {k D : Nat} {avs bvs : List Value} {st st' : RS} (hR : PR n cs k st) (hF : k ≤ cs.length → RS.Fine k st) (hk : k ≤ cs.length) (h0 : stp n cs k st = (0, st'))
    (hov : st'.opn = [] → ov = .slice none 0 0) (hb : Below w.heap.size w w5) (hP : PA w5 w.heap.size D rv av bv ov L avs bvs st'.all st'.block st'.opn) : PInv n cs L w w5 rv av bv ov (k + 1) st' :=
  ⟨hR.step hk h0, fun h => (hF hk).stp (by omega) h0, hov, hb, D, avs, bvs, hP⟩

theorem post_bad {n : Int} {s : ByteArray} {w w' : World} {z : Int} (h : RS.parse n si (runesOf s) = (z, [])) (hb : Below w.heap.size w w') : ParseOwn n s w (.returned (.tuple #[.slice none 0 0, .int .i64 z])) w' := by
  refine ⟨hb, _, [], by rw [h], ?_⟩
  rw [h]
  exact LL.nil _ _

theorem PInv.bad {n : Int} {s : ByteArray} {w w' : World} {k : Nat} {st : RS} {z : Int} (hR : PR n (runesOf s) k st) (hk : k ≤ (runesOf s).length) (h0 : (stp n (runesOf s) k st).1 = z) (hz : z ≠ 0) (hb : Below w.heap.size w w') : ParseOwn n s w (.returned (.tuple #[.slice none 0 0, .int .i64 z])) w' := post_bad (hR.bad hk h0 hz) hb

/-- Behind the signs' end. -/
def CutP (n : Int) (L : List Int) (w wc : World) (rv av bv : Value) (st : RS) : Prop :=
  (st.endSigns n).1 = 0 ∧ Below w.heap.size w wc ∧ ∃ D avs bvs, PA wc w.heap.size D rv av bv (.slice none 0 0) L avs bvs (st.endSigns n).2.all (st.endSigns n).2.block []

theorem add_word {n : Int} {st : RS} {ps : List Int} (h : okc n 0 ps = true) : st.add n ps = (if 200 < (st.block ++ [ps]).length then 3 else 0, { st with block := st.block ++ [ps], dot := false }) := by unfold RS.add; rw [if_pos h]
theorem add_no {n : Int} {st : RS} {ps : List Int} (h : ¬ okc n 0 ps = true) : st.add n ps = (6, st) := by unfold RS.add; rw [if_neg h]

theorem endSigns_some {n : Int} {st : RS} (h : st.opn ≠ []) : st.endSigns n = RS.add n { st with opn := [] } (fill2 n (fill1 st.opn)) := by unfold RS.endSigns; rw [if_neg h]
theorem endSigns_none {n : Int} {st : RS} (h : st.opn = []) : st.endSigns n = (0, st) := by unfold RS.endSigns; rw [if_pos h]

/-- One list more of a block turned about. -/
theorem back_snoc {α : Type} (d : α) (l : List α) (m : Nat) (h : m + 2 ≤ l.length) : (l.dropLast.reverse).take (m + 1) = (l.dropLast.reverse).take m ++ [l.getD (l.length - 2 - m) d] := by
  rw [List.take_add_one, List.getElem?_eq_getElem (by simp; omega)]
  congr 1
  simp only [Option.toList_some, List.cons.injEq, and_true]
  rw [List.getElem_reverse, List.getElem_dropLast, List.getD_eq_getElem?_getD, List.getElem?_eq_getElem (by omega), Option.getD_some]
  congr 1
  simp only [List.length_dropLast]
  omega

theorem addr_add (b t : Nat) : (⟨b, 0, none⟩ : Addr).add t = ⟨b, t, none⟩ := by
  unfold Addr.add
  split <;> simp_all

theorem back_all {α : Type} (l : List α) (m : Nat) (h : l.length ≤ m + 1) : (l.dropLast.reverse).take m = l.dropLast.reverse := List.take_of_length_le (by simp; omega)

theorem LL.one_cells {w : World} {base : Nat} {v : Value} {vs : List Value} {xss : List (List Int)} (h : LL w base v vs xss) : ∀ u ∈ vs, u.oneCell' = true := by
  have ha := h.all
  clear h
  intro u hu
  induction vs generalizing xss with
  | nil => cases hu
  | cons x xs ih =>
    cases xss with
    | nil => exact ha.elim
    | cons y ys =>
      rcases List.mem_cons.1 hu with rfl | hu
      · obtain ⟨p, c, e⟩ := owns_slice ha.1
        rw [e]; rfl
      · exact ih ha.2 hu

theorem OwnAll.take {w : World} {base : Nat} : ∀ {us : List Value} {xs : List (List Int)} (m : Nat), OwnAll w base us xs → OwnAll w base (us.take m) (xs.take m)
  | [], [], m, _ => by cases m <;> trivial
  | [], _ :: _, _, h => h.elim
  | _ :: _, [], _, h => h.elim
  | _ :: _, _ :: _, 0, _ => trivial
  | _ :: _, _ :: _, m + 1, h => ⟨h.1, OwnAll.take m h.2⟩

end Go.Proofs.YtfngadfkopfhcaaGreatDoor

/- The walk of PlaceParses. -/
namespace Go.Proofs.YtfngadfkopfhcaaGreatDoor
open Go.RowKit

def PP2 (code : Int) (xss : List (List Int)) (w : World) (e : Ending) (w' : World) : Prop := Below w.heap.size w w' ∧ ∃ v, e = .returned (.tuple #[v, .int .i64 code]) ∧ IntsAll w' v xss

theorem PP2.none {code : Int} {w w' : World} (h : Below w.heap.size w w') : PP2 code [] w (.returned (.tuple #[.slice none 0 0, .int .i64 code])) w' :=
  ⟨h, _, rfl, [], Or.inl ⟨rfl, _, _, rfl⟩, rfl, fun j hj => by simp at hj⟩

end Go.Proofs.YtfngadfkopfhcaaGreatDoor

/- Contract: method.Read. -/
namespace Go.Proofs.YtfngadfkopfhcaaGreatDoor
open Go.RowKit
set_option maxRecDepth 20000
set_option linter.unusedVariables false

/-- What is asked of package variables of the library. -/
structure Glb (w : World) : Prop where
  mx : ∃ m, w.cell? ⟨0, 0, none⟩ = some (.int .i64 m)
  rg : ∃ ev, w.cell? ⟨3, 0, none⟩ = some ev ∧ (ev = .nilIface ∨ ∃ te pe, ev = .iface te pe)

theorem Glb.below {w w' : World} (h : Glb w) (hb : Below w.heap.size w w') : Glb w' := by
  obtain ⟨m, hm⟩ := h.mx
  obtain ⟨ev, hv, h2⟩ := h.rg
  exact ⟨⟨m, by rw [hb.cell (World.block_lt_of_cell? _ _ hm)]; exact hm⟩, ⟨ev, by rw [hb.cell (World.block_lt_of_cell? _ _ hv)]; exact hv, h2⟩⟩

theorem split_ok (s : ByteArray) (w : World) (hg : Glb w) (hs : s.size ≤ 4000) :
    Calls Tryz.prog 65 #[.string s, .string ⟨#[124]⟩] w fun e w' => e = .returned (.slice (some ⟨w.heap.size, 0, none⟩) (cutB s).length (cutB s).length) ∧ w' = w.alloc (.cells (sVals (cutB s)).toArray 9) := by
  obtain ⟨m, hm⟩ := hg.mx
  have h := Any.strings_Split (P := Tryz.prog) (ρ := rnL) laysSp infoStr s ⟨#[124]⟩ m w (by omega) hm (by decide)
  rw [← cutB_length, splitB_cut] at h
  exact h

theorem atoi_ok (s : ByteArray) (w : World) (hg : Glb w) (hs : s.size ≤ 4000) (hd : ∀ b ∈ s.data.toList, dgt b = true) (h0 : s.data.toList ≠ []) :
    Calls Tryz.prog 67 #[.string s] w fun e w' => ∃ (z : Int) (ev : Value), e = .returned (.tuple #[.int .i64 z, ev]) ∧ (2 ≤ z ∧ z ≤ 12 ↔ 2 ≤ valF 0 s.data.toList ∧ valF 0 s.data.toList ≤ 12) ∧ (2 ≤ z ∧ z ≤ 12 → z = ((valF 0 s.data.toList : Nat) : Int)) ∧ Below w.heap.size w w' := by
  have ha := atoi_dgt hd h0
  by_cases hv : valF 0 s.data.toList < 9223372036854775808
  · rw [if_pos hv] at ha
    have h := Any.strconv_Atoi_ok (P := Tryz.prog) (ρ := rnL) laysAt s (by omega) _ ha w
    refine Calls.mono (show Calls Tryz.prog 67 _ _ _ from h) ?_
    rintro e w' ⟨rfl, hw⟩
    refine ⟨_, _, rfl, by omega, fun _ => rfl, ?_⟩
    rcases hw with rfl | ⟨t, rfl⟩
    · exact Below.refl _ _
    · exact Lib.bytesWorld_below _ _ _
  · rw [if_neg hv] at ha
    obtain ⟨ev, hev, h2⟩ := hg.rg
    have h := Any.strconv_Atoi_range (P := Tryz.prog) (ρ := rnL) laysAt s (by omega) ha ev w hev h2
    refine Calls.mono (show Calls Tryz.prog 67 _ _ _ from h) ?_
    rintro e w' ⟨N, rfl, _, _, hb⟩
    refine ⟨_, _, rfl, ?_, ?_, hb⟩
    · rw [sat_dgt hd h0]; omega
    · rw [sat_dgt hd h0]; omega

theorem ret_meth_tmp {fn : Func} {R : Ending → World → Prop} {a : Act} {w : World} {p u : Tmp} {b : Nat} {cs : Array Value} {t : Value} (h : fn.results = #[.cell p 24, .tmp u]) (hp : a.tmps.getD p undef = .pointer (some ⟨b, 0, none⟩)) (hu : a.tmps.getD u undef = t) (hg : w.heap[b]? = some (.cells cs 24)) (hz : cs.size = 3) (hd : a.defers = []) (hR : R (.returned (.tuple #[.agg cs, t])) w) : bodyPost Tryz.prog fn R .ret a w := by
  refine bodyPost_ret (v := .tuple #[.agg cs, t]) ?_ hd hR
  have hp' : a.tmps[p]?.getD undef = .pointer (some ⟨b, 0, none⟩) := by simpa using hp
  have hu' : a.tmps[u]?.getD undef = t := by simpa using hu
  rw [results_cell_tmp h]
  simp [hp', hu', asAddr, Result.andThen, run_loadVar_row w b 24 24 cs _ _ hg Tryz.underlying24 rfl (by rw [hz]; kernel_rfl)]

/-- What reading a method comes to. -/
def RdPost (code : Int) (a : ByteArray) (n : Int) (X : List (List Int)) (w : World) (e : Ending) (w' : World) : Prop :=
  ∃ v, e = .returned (.tuple #[.agg #[.string a, .int .i64 n, v], .int .i64 code]) ∧ IntsAll w' v X ∧ Below w.heap.size w w'

theorem intsAll_none (w : World) : IntsAll w (.slice none 0 0) [] := ⟨[], Or.inl ⟨rfl, _, _, rfl⟩, rfl, fun j hj => by simp at hj⟩

/-- A method's box that is still as it was laid. -/
def Zbox (w : World) (B : Nat) : Prop := w.heap[B]? = some (.cells #[.string ByteArray.empty, .int .i64 0, .slice none 0 0] 24)

theorem Zbox.start (w : World) : Zbox (w.alloc (.cells #[.string ⟨#[]⟩, .int .i64 0, .slice none 0 0] 24)) w.heap.size := heap_alloc_new w _

theorem Zbox.below {w w' : World} {B : Nat} (h : Zbox w B) (hb : Below w.heap.size w w') : Zbox w' B := by
  unfold Zbox at *
  rw [hb.block B ((Array.getElem?_eq_some_iff.1 h).1)]; exact h

theorem Zbox.cells {w : World} {B : Nat} (h : Zbox w B) : w.cell? ⟨B, 0, none⟩ = some (.string ⟨#[]⟩) ∧ w.cell? ⟨B, 1, none⟩ = some (.int .i64 0) ∧ w.cell? ⟨B, 2, none⟩ = some (.slice none 0 0) ∧ w.frozen? ⟨B, 0, none⟩ = false ∧ w.frozen? ⟨B, 1, none⟩ = false ∧ w.frozen? ⟨B, 2, none⟩ = false := by
  unfold Zbox at h
  simp [World.cell?, World.frozen?, h]
  rfl

/-- A method's box, all three cells set. -/
theorem Zbox.set {w : World} {B : Nat} (h : Zbox w B) (x y z : Value) : (((w.setCell ⟨B, 0, none⟩ x).setCell ⟨B, 1, none⟩ y).setCell ⟨B, 2, none⟩ z).heap[B]? = some (.cells #[x, y, z] 24) := by
  unfold Zbox at h
  simp [World.setCell, Array.getElem?_modify, h]

theorem below_set3 {w0 w : World} {B b : Nat} (h : Below B w0 w) (hb : B ≤ b) (x y z : Value) : Below B w0 (((w.setCell ⟨b, 0, none⟩ x).setCell ⟨b, 1, none⟩ y).setCell ⟨b, 2, none⟩ z) :=
  ((h.setCell (p := ⟨b, 0, none⟩) hb x).setCell (p := ⟨b, 1, none⟩) hb y).setCell (p := ⟨b, 2, none⟩) hb z

/-- Behind the split. -/
structure RdSt (w W : World) (ps : List ByteArray) : Prop where
  box : Zbox W w.heap.size
  part : ∀ j x, ps[j]? = some x → W.cell? ⟨w.heap.size + 1, j, none⟩ = some (.string x)
  lt : w.heap.size + 1 < W.heap.size
  below : Below w.heap.size w W
  glb : Glb W

theorem RdSt.later {w W W' : World} {ps : List ByteArray} (h : RdSt w W ps) (hb : Below W.heap.size W W') : RdSt w W' ps :=
  ⟨h.box.below hb, fun j x hx => by rw [hb.cell (p := ⟨w.heap.size + 1, j, none⟩) h.lt]; exact h.part j x hx, Nat.lt_of_lt_of_le h.lt hb.size, h.below.trans (hb.mono h.below.size), h.glb.below hb⟩

theorem split_st (s : ByteArray) (w : World) (hg : Glb w) (hs : s.size ≤ 4000) :
    Calls Tryz.prog 65 #[.string s, .string ⟨#[124]⟩] (w.alloc (.cells #[.string ⟨#[]⟩, .int .i64 0, .slice none 0 0] 24)) fun e W => e = .returned (.slice (some ⟨w.heap.size + 1, 0, none⟩) (cutB s).length (cutB s).length) ∧ RdSt w W (cutB s) := by
  have HZ0 := Zbox.start w
  have HB0 := ((Below.refl w.heap.size w).alloc (Nat.le_refl _) (.cells #[.string ⟨#[]⟩, .int .i64 0, .slice none 0 0] 24))
  refine (split_ok s _ (hg.below HB0) hs).mono ?_
  rintro e W ⟨rfl, rfl⟩
  have hb : Below (w.alloc (.cells #[.string ⟨#[]⟩, .int .i64 0, .slice none 0 0] 24)).heap.size _ ((w.alloc (.cells #[.string ⟨#[]⟩, .int .i64 0, .slice none 0 0] 24)).alloc (.cells (sVals (cutB s)).toArray 9)) := (Below.refl _ _).alloc (Nat.le_refl _) _
  have hz : (w.alloc (.cells #[.string ⟨#[]⟩, .int .i64 0, .slice none 0 0] 24)).heap.size = w.heap.size + 1 := by simp
  refine ⟨by rw [hz], HZ0.below hb, fun j x hx => ?_, by simp, HB0.trans (hb.mono HB0.size), (hg.below HB0).below hb⟩
  have hn := heap_alloc_new (w.alloc (.cells #[.string ⟨#[]⟩, .int .i64 0, .slice none 0 0] 24)) (.cells (sVals (cutB s)).toArray 9)
  rw [hz] at hn
  rw [cell_of_row _ _ j _ _ _ hn]
  simp [sVals, hx]

theorem RdSt.bad {w W : World} {ps : List ByteArray} (h : RdSt w W ps) (code : Int) (x y : Value) : RdPost code ByteArray.empty 0 [] w (.returned (.tuple #[.agg #[.string ⟨#[]⟩, .int .i64 0, .slice none 0 0], .int .i64 code])) (((W.setCell ⟨w.heap.size, 0, none⟩ (.string ⟨#[]⟩)).setCell ⟨w.heap.size, 1, none⟩ (.int .i64 0)).setCell ⟨w.heap.size, 2, none⟩ (.slice none 0 0)) :=
  ⟨_, rfl, intsAll_none _, below_set3 h.below (Nat.le_refl _) _ _ _⟩

set_option maxHeartbeats 4000000 in
theorem read_long (s : ByteArray) (w : World) (hs : s.size ≤ 9223372036854775807) (h : 4000 < s.size) : Calls Tryz.prog 47 #[.string s] w (RdPost 3 ByteArray.empty 0 [] w) := by
  have h' : 4000 < (s.size : Int) := by omega
  have HZ := hide (Zbox.start w)
  have HB := hide ((Below.refl w.heap.size w).alloc (Nat.le_refl _) (.cells #[.string ⟨#[]⟩, .int .i64 0, .slice none 0 0] 24))
  clear h
  go_enter Tryz.func47, Tryz.ntmps47
  go_wp2
  exact ret_meth_tmp (p := 2) (u := 3) rfl rfl rfl HZ.out rfl rfl ⟨_, rfl, intsAll_none _, HB.out⟩

set_option maxHeartbeats 4000000 in
theorem read_short (s : ByteArray) (w : World) (hg : Glb w) (hs : s.size ≤ 4000) (h : (cutB s).length < 3) : Calls Tryz.prog 47 #[.string s] w (RdPost 5 ByteArray.empty 0 [] w) := by
  have h' : ¬ 4000 < (s.size : Int) := by omega
  have HS := hide (split_st s w hg hs)
  generalize cutB s = ps at *
  generalize ps.length = L at *
  have h2 : (L : Int) < 3 := by omega
  clear h
  clear hg
  go_enter Tryz.func47, Tryz.ntmps47
  go_wp2_with fail
  refine HS.out.mono ?_
  rintro e W ⟨rfl, hR⟩
  have HR := hide hR
  obtain ⟨z0, z1, z2, f0, f1, f2⟩ := hR.box.cells
  clear hR
  go_wp2
  exact ret_meth_tmp (p := 2) (u := 3) rfl rfl rfl (HR.out.box.set _ _ _) rfl rfl (HR.out.bad _ undef undef)

set_option maxHeartbeats 4000000 in
theorem read_many (s : ByteArray) (w : World) (hg : Glb w) (hs : s.size ≤ 4000) (h : 3 < (cutB s).length) : Calls Tryz.prog 47 #[.string s] w (RdPost 4 ByteArray.empty 0 [] w) := by
  have h' : ¬ 4000 < (s.size : Int) := by omega
  have HS := hide (split_st s w hg hs)
  generalize cutB s = ps at *
  generalize ps.length = L at *
  have h2 : 3 < (L : Int) := by omega
  clear h
  clear hg
  go_enter Tryz.func47, Tryz.ntmps47
  go_wp2_with fail
  refine HS.out.mono ?_
  rintro e W ⟨rfl, hR⟩
  have HR := hide hR
  obtain ⟨z0, z1, z2, f0, f1, f2⟩ := hR.box.cells
  clear hR
  go_wp2
  exact ret_meth_tmp (p := 2) (u := 3) rfl rfl rfl (HR.out.box.set _ _ _) rfl rfl (HR.out.bad _ undef undef)

theorem cut_sizes {s x : ByteArray} (h : x ∈ cutB s) : x.size ≤ s.size := by
  have key : ∀ (l : List UInt8) y, y ∈ cutL l → y.length ≤ l.length := by
    intro l
    induction l with
    | nil => intro y hy; simp [cutL] at hy; rw [hy]; exact Nat.le_refl _
    | cons b l ih =>
      intro y hy
      rw [cutL] at hy
      split at hy
      · rcases List.mem_cons.1 hy with rfl | hy
        · simp
        · have := ih y hy; simp; omega
      · cases hc : cutL l with
        | nil => rw [hc] at hy; simp at hy; rw [hy]; simp
        | cons p q =>
          rw [hc] at hy ih
          rcases List.mem_cons.1 hy with rfl | hy
          · have := ih p (by simp); simp; omega
          · have := ih y (by simp [hy]); simp; omega
  obtain ⟨l, hl, rfl⟩ := List.mem_map.1 h
  have := key _ l hl
  show l.toArray.size ≤ _
  rw [Array.length_toList] at this
  simpa using this

set_option maxHeartbeats 4000000 in
theorem read_name (s : ByteArray) (w : World) (hg : Glb w) (hs : s.size ≤ 4000) (a b c : ByteArray) (hc : cutB s = [a, b, c]) (hn : nm a = false) : Calls Tryz.prog 47 #[.string s] w (RdPost 7 ByteArray.empty 0 [] w) := by
  have h' : ¬ 4000 < (s.size : Int) := by omega
  have HS := hide (split_st s w hg hs)
  rw [hc] at HS
  have hsa : a.size ≤ 9223372036854775807 := by have := cut_sizes (s := s) (x := a) (by rw [hc]; simp); omega
  have hsb : b.size ≤ 4000 := by have := cut_sizes (s := s) (x := b) (by rw [hc]; simp); omega
  have HNM := hide (fun W => name_any a W hsa)
  have HDC := hide (fun W => decimal_any b W (by omega))
  rw [hn] at HNM
  clear hc hn HDC
  clear hg
  go_enter Tryz.func47, Tryz.ntmps47
  go_wp2_with fail
  refine HS.out.mono ?_
  rintro e W ⟨rfl, hR⟩
  have HR := hide hR
  obtain ⟨z0, z1, z2, f0, f1, f2⟩ := hR.box.cells
  have p0 := hR.part 0 a rfl
  have p1 := hR.part 1 b rfl
  have p2 := hR.part 2 c rfl
  have hlt := hR.lt
  clear hR
  go_wp2_with fail
  refine (HNM.out _).mono ?_
  rintro e W2 ⟨rfl, hb2⟩
  replace HR := hide (HR.out.later hb2)
  obtain ⟨y0, y1, y2, g0, g1, g2⟩ := HR.out.box.cells
  clear z0 z1 z2 f0 f1 f2 p0 p1 p2 hb2
  go_wp2
  exact ret_meth_tmp (p := 2) (u := 3) rfl rfl rfl (HR.out.box.set _ _ _) rfl rfl (HR.out.bad _ undef undef)

set_option maxHeartbeats 4000000 in
theorem read_num (s : ByteArray) (w : World) (hg : Glb w) (hs : s.size ≤ 4000) (a b c : ByteArray) (hc : cutB s = [a, b, c]) (hn : nm a = true) (hd : dcm b.data.toList = false) : Calls Tryz.prog 47 #[.string s] w (RdPost 4 ByteArray.empty 0 [] w) := by
  have h' : ¬ 4000 < (s.size : Int) := by omega
  have HS := hide (split_st s w hg hs)
  rw [hc] at HS
  have hsa : a.size ≤ 9223372036854775807 := by have := cut_sizes (s := s) (x := a) (by rw [hc]; simp); omega
  have hsb : b.size ≤ 4000 := by have := cut_sizes (s := s) (x := b) (by rw [hc]; simp); omega
  have HNM := hide (fun W => name_any a W hsa)
  have HDC := hide (fun W => decimal_any b W (by omega))
  rw [hn] at HNM
  rw [hd] at HDC
  clear hc hn hd
  clear hg
  go_enter Tryz.func47, Tryz.ntmps47
  go_wp2_with fail
  refine HS.out.mono ?_
  rintro e W ⟨rfl, hR⟩
  have HR := hide hR
  obtain ⟨z0, z1, z2, f0, f1, f2⟩ := hR.box.cells
  have p0 := hR.part 0 a rfl
  have p1 := hR.part 1 b rfl
  have p2 := hR.part 2 c rfl
  have hlt := hR.lt
  clear hR
  go_wp2_with fail
  refine (HNM.out _).mono ?_
  rintro e W2 ⟨rfl, hb2⟩
  replace HR := hide (HR.out.later hb2)
  have q1 := HR.out.part 1 b rfl
  clear z0 z1 z2 f0 f1 f2 p0 p1 p2 hb2
  go_wp2_with fail
  refine (HDC.out _).mono ?_
  rintro e W3 ⟨rfl, hb3⟩
  replace HR := hide (HR.out.later hb3)
  obtain ⟨y0, y1, y2, g0, g1, g2⟩ := HR.out.box.cells
  clear q1 hb3
  go_wp2
  exact ret_meth_tmp (p := 2) (u := 3) rfl rfl rfl (HR.out.box.set _ _ _) rfl rfl (HR.out.bad _ undef undef)

theorem dcm_parts {l : List UInt8} (h : dcm l = true) : (∀ b ∈ l, dgt b = true) ∧ l ≠ [] := by
  unfold dcm at h
  rw [Bool.and_eq_true] at h
  refine ⟨fun b hb => List.all_eq_true.1 h.1 b hb, fun e => ?_⟩
  rcases of_decide_eq_true h.2 with h1 | h1
  · rw [e] at h1; cases h1
  · exact h1.1 e

set_option maxHeartbeats 4000000 in
theorem read_count (s : ByteArray) (w : World) (hg : Glb w) (hs : s.size ≤ 4000) (a b c : ByteArray) (hc : cutB s = [a, b, c]) (hn : nm a = true) (hd : dcm b.data.toList = true) (hv : ¬ (2 ≤ valF 0 b.data.toList ∧ valF 0 b.data.toList ≤ 12)) : Calls Tryz.prog 47 #[.string s] w (RdPost 1 ByteArray.empty 0 [] w) := by
  have h' : ¬ 4000 < (s.size : Int) := by omega
  have HS := hide (split_st s w hg hs)
  rw [hc] at HS
  have hsa : a.size ≤ 9223372036854775807 := by have := cut_sizes (s := s) (x := a) (by rw [hc]; simp); omega
  have hsb : b.size ≤ 4000 := by have := cut_sizes (s := s) (x := b) (by rw [hc]; simp); omega
  have HNM := hide (fun W => name_any a W hsa)
  have HDC := hide (fun W => decimal_any b W (by omega))
  rw [hn] at HNM
  rw [hd] at HDC
  have HDP := hide (dcm_parts hd)
  clear hc hn hd
  clear hg
  go_enter Tryz.func47, Tryz.ntmps47
  go_wp2_with fail
  refine HS.out.mono ?_
  rintro e W ⟨rfl, hR⟩
  have HR := hide hR
  obtain ⟨z0, z1, z2, f0, f1, f2⟩ := hR.box.cells
  have p0 := hR.part 0 a rfl
  have p1 := hR.part 1 b rfl
  have p2 := hR.part 2 c rfl
  have hlt := hR.lt
  clear hR
  go_wp2_with fail
  refine (HNM.out _).mono ?_
  rintro e W2 ⟨rfl, hb2⟩
  replace HR := hide (HR.out.later hb2)
  have q1 := HR.out.part 1 b rfl
  clear z0 z1 z2 f0 f1 f2 p0 p1 p2 hb2
  go_wp2_with fail
  refine (HDC.out _).mono ?_
  rintro e W3 ⟨rfl, hb3⟩
  replace HR := hide (HR.out.later hb3)
  have r1 := HR.out.part 1 b rfl
  clear q1 hb3
  go_wp2_with fail
  refine (atoi_ok b _ HR.out.glb hsb HDP.out.1 HDP.out.2).mono ?_
  rintro e W4 ⟨z, ev, rfl, hz1, hz2, hb4⟩
  replace HR := hide (HR.out.later hb4)
  have hzb : z < 2 ∨ 12 < z := by rw [← hz1] at hv; omega
  obtain ⟨y0, y1, y2, g0, g1, g2⟩ := HR.out.box.cells
  clear r1 hb4 hz1 hz2 hv
  go_wp2_with fail
  refine (mmay_no _ _ hzb).mono ?_
  rintro e w' ⟨rfl, rfl⟩
  go_wp2
  exact ret_meth_tmp (p := 2) (u := 3) rfl rfl rfl (HR.out.box.set _ _ _) rfl rfl (HR.out.bad _ undef undef)

/-- A method's box, all three cells set: the changes stay. -/
theorem LL.set3 {w : World} {base B : Nat} {v : Value} {vs : List Value} {X : List (List Int)} (h : LL w base v vs X) (hb : B < base) (x y z : Value) : LL (((w.setCell ⟨B, 0, none⟩ x).setCell ⟨B, 1, none⟩ y).setCell ⟨B, 2, none⟩ z) base v vs X :=
  ((h.set hb).set hb).set hb

/-- What reading three parts comes to where the number may be. -/
def rdP (a : ByteArray) (N : Nat) (c : ByteArray) : Int × ByteArray × Int × List (List Int) :=
  if (RS.parse N si (runesOf c)).1 = 0 then (0, a, (N : Int), (RS.parse N si (runesOf c)).2) else ((RS.parse N si (runesOf c)).1, ByteArray.empty, 0, [])

set_option maxHeartbeats 4000000 in
theorem read_parse (s : ByteArray) (w : World) (hg : Glb w) (hs : s.size ≤ 4000) (a b c : ByteArray) (hc : cutB s = [a, b, c]) (hn : nm a = true) (hd : dcm b.data.toList = true) (N : Nat) (hN : valF 0 b.data.toList = N) (hv1 : 2 ≤ N) (hv2 : N ≤ 12) : Calls Tryz.prog 47 #[.string s] w (RdPost (rdP a N c).1 (rdP a N c).2.1 (rdP a N c).2.2.1 (rdP a N c).2.2.2 w) := by
  have h' : ¬ 4000 < (s.size : Int) := by omega
  have HS := hide (split_st s w hg hs)
  rw [hc] at HS
  have hsa : a.size ≤ 9223372036854775807 := by have := cut_sizes (s := s) (x := a) (by rw [hc]; simp); omega
  have hsb : b.size ≤ 4000 := by have := cut_sizes (s := s) (x := b) (by rw [hc]; simp); omega
  have hsc : c.size ≤ 4000 := by have := cut_sizes (s := s) (x := c) (by rw [hc]; simp); omega
  have HNM := hide (fun W => name_any a W hsa)
  have HDC := hide (fun W => decimal_any b W (by omega))
  rw [hn] at HNM
  rw [hd] at HDC
  have HDP := hide (dcm_parts hd)
  have HPO := hide (fun W => parse_own (N : Int) c W (by omega) (by omega) hsc)
  have HRD : Hid (rdP a N c = if (RS.parse N si (runesOf c)).1 = 0 then (0, a, (N : Int), (RS.parse N si (runesOf c)).2) else ((RS.parse N si (runesOf c)).1, ByteArray.empty, 0, [])) := rfl
  clear hc hn hd hg
  unfold ParseOwn at HPO
  generalize RS.parse N si (runesOf c) = pr at *
  obtain ⟨code, X⟩ := pr
  generalize rdP a N c = rp at *
  go_enter Tryz.func47, Tryz.ntmps47
  go_wp2_with fail
  refine HS.out.mono ?_
  rintro e W ⟨rfl, hR⟩
  have HR := hide hR
  have p0 := hR.part 0 a rfl
  have hlt := hR.lt
  clear hR
  go_wp2_with fail
  refine (HNM.out _).mono ?_
  rintro e W2 ⟨rfl, hb2⟩
  replace HR := hide (HR.out.later hb2)
  have q1 := HR.out.part 1 b rfl
  clear p0 hb2
  go_wp2_with fail
  refine (HDC.out _).mono ?_
  rintro e W3 ⟨rfl, hb3⟩
  replace HR := hide (HR.out.later hb3)
  have r1 := HR.out.part 1 b rfl
  clear q1 hb3
  go_wp2_with fail
  refine (atoi_ok b _ HR.out.glb hsb HDP.out.1 HDP.out.2).mono ?_
  rintro e W4 ⟨z, ev, rfl, hz1, hz2, hb4⟩
  replace HR := hide (HR.out.later hb4)
  have hzb := hz1.2 (by rw [hN]; omega)
  have hzN := hz2 hzb
  rw [hN] at hzN
  subst hzN
  have r2 := HR.out.part 2 c rfl
  have hlt4 := HR.out.lt
  clear r1 hb4 hz1 hz2 hN hlt
  go_wp2_with fail
  refine (mmay_yes _ _ (by omega) (by omega)).mono ?_
  rintro e w' ⟨rfl, rfl⟩
  go_wp2_with fail
  refine (HPO.out _).mono ?_
  rintro e W5 ⟨hb5, v, vs, rfl, hL⟩
  replace HR := hide (HR.out.later hb5)
  obtain ⟨y0, y1, y2, g0, g1, g2⟩ := HR.out.box.cells
  have t0 := HR.out.part 0 a rfl
  have HL := hide (hL.set3 (show w.heap.size < W4.heap.size by omega))
  obtain ⟨vp, vc, hvf⟩ := owns_slice hL.row
  subst hvf
  clear r2 hb5 hL HPO
  by_cases h0 : code = 0
  · subst h0
    rw [if_pos rfl] at HRD
    have hr := HRD.out
    subst hr
    clear HRD
    go_wp2
    exact ret_meth_tmp (p := 2) (u := 3) rfl rfl rfl (HR.out.box.set _ _ _) rfl rfl ⟨_, rfl, (HL.out _ _ _).ints, below_set3 HR.out.below (Nat.le_refl _) _ _ _⟩
  · rw [if_neg h0] at HRD
    have hr := HRD.out
    subst hr
    clear HRD
    have hne : (code != 0) = true := by simpa using h0
    go_wp2
    exact ret_meth_tmp (p := 2) (u := 3) rfl rfl rfl (HR.out.box.set _ _ _) rfl rfl (HR.out.bad _ undef undef)

end Go.Proofs.YtfngadfkopfhcaaGreatDoor

/- Contract: the answer's ReadMethod. -/
namespace Go.Proofs.YtfngadfkopfhcaaGreatDoor
open Go.RowKit
set_option maxRecDepth 20000
set_option linter.unusedVariables false

/-- Behind the cut. -/
structure RmSt (w W : World) (g : Nat) (ps : List ByteArray) : Prop where
  box : Zbox W w.heap.size
  part : ∀ j x, ps[j]? = some x → W.cell? ⟨g, j, none⟩ = some (.string x)
  lt : g < W.heap.size
  low : w.heap.size < g
  below : Below w.heap.size w W

theorem RmSt.later {w W W' : World} {g : Nat} {ps : List ByteArray} (h : RmSt w W g ps) (hb : Below W.heap.size W W') : RmSt w W' g ps :=
  ⟨h.box.below hb, fun j x hx => by rw [hb.cell (p := ⟨g, j, none⟩) h.lt]; exact h.part j x hx, Nat.lt_of_lt_of_le h.lt hb.size, h.low, h.below.trans (hb.mono h.below.size)⟩

theorem cutB_pos (s : ByteArray) : 1 ≤ (cutB s).length := by rw [cutB_length]; omega

theorem RmSt.bad {w W : World} {g : Nat} {ps : List ByteArray} (h : RmSt w W g ps) (code : Int) : RdPost code ByteArray.empty 0 [] w (.returned (.tuple #[.agg #[.string ⟨#[]⟩, .int .i64 0, .slice none 0 0], .int .i64 code])) (((W.setCell ⟨w.heap.size, 0, none⟩ (.string ⟨#[]⟩)).setCell ⟨w.heap.size, 1, none⟩ (.int .i64 0)).setCell ⟨w.heap.size, 2, none⟩ (.slice none 0 0)) :=
  ⟨_, rfl, intsAll_none _, below_set3 h.below (Nat.le_refl _) _ _ _⟩

end Go.Proofs.YtfngadfkopfhcaaGreatDoor

/- The law MethodReads. -/
namespace Go.Proofs.YtfngadfkopfhcaaGreatDoor
open Go.RowKit
set_option maxRecDepth 20000
set_option linter.unusedVariables false

theorem mbx (w : World) (s : ByteArray) (n : Int) (v : Value) : (w.alloc (.cells #[.string s, .int .i64 n, v] 24)).cell? ⟨w.heap.size, 0, none⟩ = some (.string s) ∧ (w.alloc (.cells #[.string s, .int .i64 n, v] 24)).cell? ⟨w.heap.size, 1, none⟩ = some (.int .i64 n) ∧ (w.alloc (.cells #[.string s, .int .i64 n, v] 24)).cell? ⟨w.heap.size, 2, none⟩ = some v := by
  refine ⟨?_, ?_, ?_⟩ <;> simp

set_option maxHeartbeats 4000000 in
theorem sameMethod_ok (s : ByteArray) (n : Int) (u v : Value) (X : List (List Int)) (w : World) (h1 : IntsAll w u X) (h2 : IntsAll w v X) :
    Calls Tryz.prog 48 #[.agg #[.string s, .int .i64 n, u], .agg #[.string s, .int .i64 n, v]] w fun e w' => e = .returned (.bool true) ∧ Below w.heap.size w w' := by
  obtain ⟨up, uc, rfl⟩ := h1.len
  obtain ⟨vp, vc, rfl⟩ := h2.len
  have HB0 : Below w.heap.size w ((w.alloc (.cells #[.string s, .int .i64 n, .slice up X.length uc] 24)).alloc (.cells #[.string s, .int .i64 n, .slice vp X.length vc] 24)) := ((Below.refl _ _).alloc (Nat.le_refl _) _).alloc (by simp) _
  have HS := hide (sameAll_any _ _ X X _ (h1.below HB0) (h2.below HB0))
  replace HB0 := hide HB0
  have hst : ((s.toList == s.toList) : Bool) = true := beq_self_eq_true _
  generalize X.length = L at *
  clear h1 h2
  go_enter Tryz.func48, Tryz.ntmps48
  go_wp2_with fail
  refine HS.out.mono ?_
  rintro e w2 ⟨rfl, hb2⟩
  have HF := hide (HB0.out.trans (hb2.mono HB0.out.size))
  clear hb2 HS
  go_wp2
  go_ret
  exact ⟨by simp, HF.out⟩

end Go.Proofs.YtfngadfkopfhcaaGreatDoor

/- A line that was written is read again; the law's part methodBack. -/
namespace Go.Proofs.YtfngadfkopfhcaaGreatDoor
open Go.RowKit Go.Lib
set_option maxRecDepth 20000
set_option linter.unusedVariables false

set_option maxHeartbeats 8000000 in
theorem dec_cont (n b0 b1 b2 b3 : Nat) (hn : 1 ≤ n) (h0 : b0 < 256) : ((decodeN n b0 b1 b2 b3).2 = 1 ∧ (b0 < 128 → (decodeN n b0 b1 b2 b3).1 = b0)) ∨ ((decodeN n b0 b1 b2 b3).2 = 2 ∧ 128 ≤ b0 ∧ 128 ≤ b1) ∨ ((decodeN n b0 b1 b2 b3).2 = 3 ∧ 128 ≤ b0 ∧ 128 ≤ b1 ∧ 128 ≤ b2) ∨ ((decodeN n b0 b1 b2 b3).2 = 4 ∧ 128 ≤ b0 ∧ 128 ≤ b1 ∧ 128 ≤ b2 ∧ 128 ≤ b3) := by
  unfold decodeN
  repeat' split
  all_goals (first | (simp; done) | (simp; omega) | (dsimp only; omega))

/-- A low byte is a rune of its text. -/
theorem low_rune (s : ByteArray) : ∀ f pos, s.size - pos ≤ f → ∀ k, pos ≤ k → k < s.size → bt s k < 128 → bt s k ∈ rns s f pos
  | 0, pos, h, k, h1, h2, _ => by omega
  | f + 1, pos, h, k, h1, h2, h3 => by
    have hp : pos < s.size := by omega
    have hd := decode_at s pos
    have hl := (s.get! pos).toNat_lt
    have hc := dec_cont (s.size - pos) (s.get! pos).toNat (s.get! (pos + 1)).toNat (s.get! (pos + 2)).toNat (s.get! (pos + 3)).toNat (by omega) (by omega)
    rw [← hd] at hc
    unfold rns
    rw [if_pos hp]
    have hbt : ∀ j, pos + j < s.size → bt s (pos + j) = (s.get! (pos + j)).toNat := fun j hj => bt_get2 s hj
    rcases Nat.lt_or_ge k (pos + (Utf8.decode s pos).2) with hk | hk
    · rcases hc with ⟨e, h4⟩ | ⟨e, h4⟩ | ⟨e, h4⟩ | ⟨e, h4⟩
      · have : k = pos := by omega
        subst this
        have h5 := hbt 0 (by omega)
        rw [Nat.add_zero] at h5
        rw [← h5] at h4
        rw [h4 h3]
        exact List.mem_cons_self
      all_goals
        exfalso
        obtain ⟨j, rfl⟩ : ∃ j, k = pos + j := ⟨k - pos, by omega⟩
        rw [hbt j h2] at h3
        have hj : j = 0 ∨ j = 1 ∨ j = 2 ∨ j = 3 := by omega
        rcases hj with rfl | rfl | rfl | rfl <;> (try rw [Nat.add_zero] at h3) <;> omega
    · have hw := (decode_width s pos hp).1
      exact List.mem_cons_of_mem _ (low_rune s f _ (by omega) k hk h2 h3)

theorem nm_nocut {s : ByteArray} (h : nm s = true) : ∀ b ∈ s.data.toList, b ≠ 124 := by
  intro b hb e
  subst e
  obtain ⟨k, hk⟩ := List.getElem?_of_mem hb
  have hlt : k < s.size := by have := (List.getElem?_eq_some_iff.1 hk).1; rwa [Array.length_toList] at this
  have hbt : bt s k = 124 := by unfold bt; rw [hk]; rfl
  have hm := low_rune s s.size 0 (by omega) k (by omega) hlt (by rw [hbt]; decide)
  rw [hbt] at hm
  unfold nm at h
  rw [Bool.and_eq_true] at h
  exact absurd (List.all_eq_true.1 h.1 124 hm) (by decide)

theorem sg_nocut (m : Nat) : sg m ≠ 124 := by
  unfold sg
  intro h
  have : ∀ k : Fin 13, [49, 50, 51, 52, 53, 54, 55, 56, 57, 48, 69, 84].getD k.1 0 ≠ 124 := by decide
  rcases Nat.lt_or_ge m 13 with h1 | h1
  · exact this ⟨m, h1⟩ h
  · rw [List.getD_eq_getElem?_getD, List.getElem?_eq_none (by simp; omega)] at h
    simp at h

theorem ptx_nocut (l : List (List Int)) : ∀ k z, z ∈ ptx l k → z ≠ 124
  | 0, z, hz => by cases hz
  | k + 1, z, hz => by
    rcases List.mem_append.1 hz with hz | hz
    · exact ptx_nocut l k z hz
    · unfold pcs at hz
      split at hz
      · simp at hz; omega
      · rcases List.mem_append.1 hz with hz | hz
        · split at hz
          · simp at hz; omega
          · cases hz
        · simp only [sgs, List.mem_map] at hz
          obtain ⟨p, _, rfl⟩ := hz
          have := sg_nocut (p - 1).toNat
          omega

theorem pls_nocut (X : List (List Int)) : ∀ b ∈ (pls X).data.toList, b ≠ 124 := by
  intro b hb e
  unfold pls at hb
  rw [strOfNums_data] at hb
  obtain ⟨z, hz, rfl⟩ := List.mem_map.1 hb
  have h1 := ptx_low X _ z hz
  have h2 := ptx_nocut X _ z hz
  have h3 := congrArg UInt8.toNat e
  rw [UInt8.toNat_ofNat'] at h3
  have : (124 : UInt8).toNat = 124 := rfl
  omega

theorem decB_nocut (n : Nat) (h : n ≤ 12) : (∀ b ∈ decB n, b ≠ 124) ∧ dcm (decB n) = true ∧ valF 0 (decB n) = n := by
  have : ∀ m : Fin 13, (∀ b ∈ decB m.1, b ≠ 124) ∧ dcm (decB m.1) = true ∧ valF 0 (decB m.1) = m.1 := by decide +kernel
  exact this ⟨n, by omega⟩

theorem cut_wln {s : ByteArray} {n : Nat} {X : List (List Int)} (hn : nm s = true) (h : n ≤ 12) : cutB (wln s n X) = [s, ⟨(decB n).toArray⟩, pls X] := by
  unfold cutB wln joi
  have e : ((s.data.toList ++ [124]) ++ decB n) ++ [124] ++ (pls X).data.toList = s.data.toList ++ 124 :: (decB n ++ 124 :: (pls X).data.toList) := by simp
  show ((cutL (((s.data.toList ++ [124]) ++ decB n) ++ [124] ++ (pls X).data.toList)).map _) = _
  rw [e, cutL_hit _ _ (nm_nocut hn), cutL_hit _ _ (decB_nocut n h).1, cutL_miss _ (pls_nocut X)]
  rfl

/-- A method that may be comes back. -/
theorem read_back (s : ByteArray) (n : Nat) (X : List (List Int)) (w : World) (hg : Glb w) (hn : nm s = true) (h1 : 2 ≤ n) (h2 : n ≤ 12) (hl1 : 1 ≤ X.length) (hl2 : X.length ≤ 200) (hX : ∀ ps, ps ∈ X → okc n 0 ps = true) (hs : (wln s n X).size ≤ 4000) :
    Calls Tryz.prog 47 #[.string (wln s n X)] w (RdPost 0 s n X w) := by
  obtain ⟨_, hd, hvl⟩ := decB_nocut n h2
  have h := read_parse (wln s n X) w hg hs s ⟨(decB n).toArray⟩ (pls X) (cut_wln hn h2) hn hd n hvl h1 h2
  have hp : RS.parse (n : Int) si (runesOf (pls X)) = (0, X) := parse_ptx (by omega) (by omega) hl1 hl2 hX
  unfold rdP at h
  rw [hp, if_pos rfl] at h
  exact h

set_option maxHeartbeats 4000000 in
theorem mback_ok (s : ByteArray) (n : Nat) (v : Value) (X : List (List Int)) (t : ByteArray) (w : World) (ht : t.size ≤ 9223372036854775807) (hv : IntsAll w v X) (hg : Glb w)
    (hR : t.size ≤ 4000 → ∀ W, Glb W → Calls Tryz.prog 47 #[.string t] W (RdPost 0 s n X W)) :
    Calls Tryz.prog 24 #[meth s n v, .string t] w fun e w' => e = .returned (.bool true) ∧ Below w.heap.size w w' := by
  obtain ⟨vp, vc, rfl⟩ := hv.len
  have hb0 : Below w.heap.size w (w.alloc (.cells #[.string s, .int .i64 n, .slice vp X.length vc] 24)) := (Below.refl _ _).alloc (Nat.le_refl _) _
  have HB0 := hide hb0
  have HG := hide (hg.below hb0)
  have HV := hide (hv.below hb0)
  obtain ⟨c0, c1, c2⟩ := mbx w s n (.slice vp X.length vc)
  have hsz : w.heap.size < (w.alloc (.cells #[.string s, .int .i64 n, .slice vp X.length vc] 24)).heap.size := by simp
  unfold meth
  by_cases h4 : 4000 < t.size
  · have HRD := hide (read_long t (w.alloc (.cells #[.string s, .int .i64 n, .slice vp X.length vc] 24)) ht h4)
    have h4' : 4000 < (t.size : Int) := by omega
    clear hv hg hR hb0 h4
    generalize X.length = L at *
    go_enter Tryz.func24, Tryz.ntmps24
    go_wp2_with fail
    refine HRD.out.mono ?_
    rintro e w1 ⟨u, rfl, hu, hb1⟩
    obtain ⟨up, uc, rfl⟩ := hu.len
    have hbw := HB0.out.trans (hb1.mono HB0.out.size)
    have HF := hide (hbw.alloc hbw.size (.cells #[.string ⟨#[]⟩, .int .i64 0, .slice up ([] : List (List Int)).length uc] 24))
    clear hb1 hu hbw HRD HG HV
    go_wp2
    go_ret
    exact ⟨rfl, HF.out⟩
  · have HRD := hide (hR (by omega) _ HG.out)
    have h4' : ¬ 4000 < (t.size : Int) := by omega
    clear hv hg hR hb0 h4
    go_enter Tryz.func24, Tryz.ntmps24
    go_wp2_with fail
    generalize w.alloc (.cells #[.string s, .int .i64 n, .slice vp X.length vc] 24) = W0 at *
    refine HRD.out.mono ?_
    rintro e w1 ⟨u, rfl, hu, hb1⟩
    obtain ⟨up, uc, rfl⟩ := hu.len
    have hbn := (Below.refl w1.heap.size w1).alloc (Nat.le_refl _) (.cells #[.string s, .int .i64 n, .slice up X.length uc] 24)
    have hlt1 : w.heap.size < w1.heap.size := Nat.lt_of_lt_of_le hsz hb1.size
    have d0 := ((hbn.cell (p := ⟨w.heap.size, 0, none⟩) hlt1).trans ((hb1.cell (p := ⟨w.heap.size, 0, none⟩) hsz).trans c0))
    have d1 := ((hbn.cell (p := ⟨w.heap.size, 1, none⟩) hlt1).trans ((hb1.cell (p := ⟨w.heap.size, 1, none⟩) hsz).trans c1))
    have d2 := ((hbn.cell (p := ⟨w.heap.size, 2, none⟩) hlt1).trans ((hb1.cell (p := ⟨w.heap.size, 2, none⟩) hsz).trans c2))
    have hbw := HB0.out.trans (hb1.mono HB0.out.size)
    have HBF := hide (hbw.alloc hbw.size (.cells #[.string s, .int .i64 n, .slice up X.length uc] 24))
    have HSM := hide (sameMethod_ok s n _ _ X _ (hu.below hbn) ((HV.out.below hb1).below hbn))
    clear hb1 hu hbw hbn HRD HG HV c0 c1 c2
    generalize X.length = L at *
    go_wp2_with fail
    refine HSM.out.mono ?_
    rintro e w3 ⟨rfl, hb3⟩
    have HF := hide (HBF.out.trans (hb3.mono HBF.out.size))
    clear hb3 HSM
    go_wp2
    go_ret
    exact ⟨rfl, HF.out⟩

end Go.Proofs.YtfngadfkopfhcaaGreatDoor

/- The law MethodSays. -/
namespace Go.Proofs.YtfngadfkopfhcaaGreatDoor
open Go.RowKit
set_option maxRecDepth 20000
set_option linter.unusedVariables false

/-- The method's box, as it lies all along. -/
structure Mbx (w W : World) (s : ByteArray) (n : Int) (v : Value) : Prop where
  c0 : W.cell? ⟨w.heap.size, 0, none⟩ = some (.string s)
  c1 : W.cell? ⟨w.heap.size, 1, none⟩ = some (.int .i64 n)
  c2 : W.cell? ⟨w.heap.size, 2, none⟩ = some v
  lt : w.heap.size < W.heap.size
  below : Below w.heap.size w W

theorem Mbx.start (w : World) (s : ByteArray) (n : Int) (v : Value) : Mbx w (w.alloc (.cells #[.string s, .int .i64 n, v] 24)) s n v := by
  obtain ⟨a, b, c⟩ := mbx w s n v
  exact ⟨a, b, c, by simp, mbe w s n v⟩

theorem Mbx.later {w W W' : World} {s : ByteArray} {n : Int} {v : Value} (h : Mbx w W s n v) (hb : Below W.heap.size W W') : Mbx w W' s n v :=
  ⟨(hb.cell (p := ⟨w.heap.size, 0, none⟩) h.lt).trans h.c0, (hb.cell (p := ⟨w.heap.size, 1, none⟩) h.lt).trans h.c1, (hb.cell (p := ⟨w.heap.size, 2, none⟩) h.lt).trans h.c2, Nat.lt_of_lt_of_le h.lt hb.size, h.below.trans (hb.mono h.below.size)⟩

set_option maxHeartbeats 8000000 in
theorem methodSays_bad (s : ByteArray) (n : Int) (v : Value) (X : List (List Int)) (bell : Int) (tx : ByteArray) (w : World) (hs : s.size ≤ 1048576) (htx : tx.size ≤ 1048576) (hv : IntsAll w v X) (hz : mErr s n X ≠ 0) :
    Calls Tryz.prog 3 #[.agg #[.string s, .int .i64 n, v], .int .i64 bell, .string tx] w fun e w' => e = .returned (.bool true) ∧ Below w.heap.size w w' := by
  obtain ⟨vp, vc, rfl⟩ := hv.len
  have HN2 := hide (fun W => name_any tx W (by omega))
  have HI2 := hide (fun W => isName_any tx W htx)
  rw [nm_isN] at HI2
  have HN1 := hide (fun W => name_any s W (by omega))
  have HI1 := hide (fun W => isName_any s W hs)
  rw [nm_isN] at HI1
  have hM0 := Mbx.start w s n (.slice vp X.length vc)
  have HM0 := hide hM0
  have c0 := hM0.c0
  have hlt := hM0.lt
  have HMM := hide (fun W (hb : Below w.heap.size w W) => rmay_all s n _ X W hs (hv.below hb))
  have HLD := hide (fun W (hb : Below w.heap.size w W) => lead_bad s n _ X W (by omega) (hv.below hb) hz)
  have HHD := hide (fun W (hb : Below w.heap.size w W) => head_bad s n _ X W (by omega) (hv.below hb) hz)
  have HHU := hide (fun W (hb : Below w.heap.size w W) => hunts_bad s n _ X W (by omega) (hv.below hb) hz)
  have HWR := hide (fun W (hb : Below w.heap.size w W) => write_bad s n _ X W (by omega) (hv.below hb) hz)
  have HMI := hide (fun W (hb : Below w.heap.size w W) => mirrored_bad s n _ X W (by omega) (hv.below hb) hz)
  have HCK := hide (fun W (hb : Below w.heap.size w W) => mcheck_all s n _ X W (by omega) (hv.below hb))
  have hne : (mErr s n X != 0) = true := by simpa using hz
  generalize mErr s n X = er at *
  generalize X.length = L at *
  clear hM0 hv
  unfold meth at *
  go_enter Tryz.func3, Tryz.ntmps3
  go_upto_region 1 with fail
  generalize w.alloc (.cells #[.string s, .int .i64 n, .slice vp L vc] 24) = WA at *
  refine wp_region_held_drew (S := fun W' => Below WA.heap.size WA W') (by kernel_rfl) (Below.refl WA.heap.size WA).drew (fun hS => ?_)
  refine wpAnyH_take (i := 0) (v := .string tx) rfl (by kernel_rfl) (by kernel_rfl) (by kernel_rfl) (fun _ _ _ h => h) (Or.inl ⟨by kernel_rfl, fun w' hS' => by clear hS'; go_simp⟩) hS ?_
  refine wpAnyH_take (i := 2) (v := .string tx) rfl (by kernel_rfl) (by kernel_rfl) (by kernel_rfl) (fun _ _ _ h => h) (Or.inl ⟨by kernel_rfl, fun w' hS' => by clear hS'; go_simp⟩) hS ?_
  refine wpAnyH_ready (rs := [1]) (by kernel_rfl) (by simp) ?_
  refine (AllReadyH.cons rfl (fun K9 hK9 => ?_) AllReadyH.nil)
  go_simp
  refine (HN2.out _).mono ?_
  rintro e wq1 ⟨rfl, hbq⟩
  have hS1 : Below WA.heap.size WA wq1 := Below.trans hS (hbq.mono (Below.size hS))
  refine hK9.out _ _ hS1 (fun hS => ?_)
  clear hK9 hbq
  refine wpAnyH_ready (rs := [3]) (by kernel_rfl) (by simp) ?_
  refine (AllReadyH.cons rfl (fun K9 hK9 => ?_) AllReadyH.nil)
  go_simp
  refine (HI2.out _).mono ?_
  rintro e wq3 ⟨rfl, hbq⟩
  have hS3 : Below WA.heap.size WA wq3 := Below.trans hS (hbq.mono (Below.size hS))
  refine hK9.out _ _ hS3 (fun hS => ?_)
  clear hK9 hbq
  refine wpAnyH_take (i := 4) (v := .bool false) rfl (by kernel_rfl) (by kernel_rfl) (by kernel_rfl) (fun _ _ _ h => h) (Or.inl ⟨by kernel_rfl, fun w' hS' => by clear hS'; go_simp⟩) hS ?_
  refine wpAnyH_take (i := 5) (v := .bool false) rfl (by kernel_rfl) (by kernel_rfl) (by kernel_rfl) (fun _ _ _ h => h) (Or.inl ⟨by kernel_rfl, fun w' hS' => by clear hS'; go_simp⟩) hS ?_
  refine wpAnyH_take (i := 6) (v := .pointer (some ⟨w.heap.size, 0, none⟩)) rfl (by kernel_rfl) (by kernel_rfl) (by kernel_rfl) (fun _ _ _ h => h) (Or.inl ⟨by kernel_rfl, fun w' hS' => by clear hS'; go_simp⟩) hS ?_
  refine wpAnyH_take (i := 7) (v := .string s) rfl (by kernel_rfl) (by kernel_rfl) (by kernel_rfl) (fun _ _ _ h => h) (Or.inl ⟨by kernel_rfl, fun w' hS' => by have q0 := (Below.cell hS' (p := ⟨w.heap.size, 0, none⟩) hlt).trans c0; clear hS'; go_simp⟩) hS ?_
  refine wpAnyH_take (i := 9) (v := .pointer (some ⟨w.heap.size, 0, none⟩)) rfl (by kernel_rfl) (by kernel_rfl) (by kernel_rfl) (fun _ _ _ h => h) (Or.inl ⟨by kernel_rfl, fun w' hS' => by clear hS'; go_simp⟩) hS ?_
  refine wpAnyH_take (i := 10) (v := .string s) rfl (by kernel_rfl) (by kernel_rfl) (by kernel_rfl) (fun _ _ _ h => h) (Or.inl ⟨by kernel_rfl, fun w' hS' => by have q0 := (Below.cell hS' (p := ⟨w.heap.size, 0, none⟩) hlt).trans c0; clear hS'; go_simp⟩) hS ?_
  refine wpAnyH_ready (rs := [8]) (by kernel_rfl) (by simp) ?_
  refine (AllReadyH.cons rfl (fun K9 hK9 => ?_) AllReadyH.nil)
  go_simp
  refine (HN1.out _).mono ?_
  rintro e wq8 ⟨rfl, hbq⟩
  have hS8 : Below WA.heap.size WA wq8 := Below.trans hS (hbq.mono (Below.size hS))
  refine hK9.out _ _ hS8 (fun hS => ?_)
  clear hK9 hbq
  refine wpAnyH_ready (rs := [11]) (by kernel_rfl) (by simp) ?_
  refine (AllReadyH.cons rfl (fun K9 hK9 => ?_) AllReadyH.nil)
  go_simp
  refine (HI1.out _).mono ?_
  rintro e wq11 ⟨rfl, hbq⟩
  have hS11 : Below WA.heap.size WA wq11 := Below.trans hS (hbq.mono (Below.size hS))
  refine hK9.out _ _ hS11 (fun hS => ?_)
  clear hK9 hbq
  refine wpAnyH_take (i := 12) (v := .bool false) rfl (by kernel_rfl) (by kernel_rfl) (by kernel_rfl) (fun _ _ _ h => h) (Or.inl ⟨by kernel_rfl, fun w' hS' => by clear hS'; go_simp⟩) hS ?_
  refine wpAnyH_take (i := 13) (v := .bool false) rfl (by kernel_rfl) (by kernel_rfl) (by kernel_rfl) (fun _ _ _ h => h) (Or.inl ⟨by kernel_rfl, fun w' hS' => by clear hS'; go_simp⟩) hS ?_
  refine wpAnyH_done (by kernel_rfl) ?_ _
  replace HM0 := hide (HM0.out.later hS11)
  clear hS hS1 hS3 hS8 hS11 c0 hlt HN1 HN2 HI1 HI2
  obtain ⟨a0, a1, a2, hl9, hb9⟩ := HM0.out
  go_wp2_with fail
  refine (HMM.out _ hb9).mono ?_
  rintro e wb0 ⟨rfl, hbq⟩
  replace HM0 := hide (HM0.out.later hbq)
  clear a0 a1 a2 hl9 hb9 hbq HMM
  obtain ⟨a0, a1, a2, hl9, hb9⟩ := HM0.out
  go_wp2_with fail
  refine (HLD.out _ hb9).mono ?_
  rintro e wb1 ⟨rfl, hbq⟩
  replace HM0 := hide (HM0.out.later hbq)
  clear a0 a1 a2 hl9 hb9 hbq HLD
  obtain ⟨a0, a1, a2, hl9, hb9⟩ := HM0.out
  go_wp2_with fail
  refine (HHD.out _ hb9).mono ?_
  rintro e wb2 ⟨rfl, hbq⟩
  replace HM0 := hide (HM0.out.later hbq)
  clear a0 a1 a2 hl9 hb9 hbq HHD
  obtain ⟨a0, a1, a2, hl9, hb9⟩ := HM0.out
  go_wp2_with fail
  refine (HHU.out _ hb9).mono ?_
  rintro e wb3 ⟨rfl, hbq⟩
  replace HM0 := hide (HM0.out.later hbq)
  clear a0 a1 a2 hl9 hb9 hbq HHU
  obtain ⟨a0, a1, a2, hl9, hb9⟩ := HM0.out
  go_wp2_with fail
  refine (HWR.out _ hb9).mono ?_
  rintro e wb4 ⟨rfl, hbq⟩
  replace HM0 := hide (HM0.out.later hbq)
  clear a0 a1 a2 hl9 hb9 hbq HWR
  obtain ⟨a0, a1, a2, hl9, hb9⟩ := HM0.out
  go_wp2_with fail
  refine (HMI.out _ hb9).mono ?_
  rintro e wb5 ⟨rfl, hbq⟩
  replace HM0 := hide (HM0.out.later hbq)
  clear a0 a1 a2 hl9 hb9 hbq HMI
  obtain ⟨a0, a1, a2, hl9, hb9⟩ := HM0.out
  go_wp2_with fail
  refine (HCK.out _ hb9).mono ?_
  rintro e wb6 ⟨rfl, hbq⟩
  replace HM0 := hide (HM0.out.later hbq)
  clear a0 a1 a2 hl9 hb9 hbq HCK
  have HF := hide HM0.out.below
  go_wp2
  go_ret
  exact ⟨by first | rfl | simp, HF.out⟩

end Go.Proofs.YtfngadfkopfhcaaGreatDoor

/- The law MethodSays, where the method may be. -/
namespace Go.Proofs.YtfngadfkopfhcaaGreatDoor
open Go.RowKit
set_option maxRecDepth 20000
set_option linter.unusedVariables false

set_option maxHeartbeats 16000000 in
theorem methodSays_good (s : ByteArray) (n : Nat) (v : Value) (ts : List (List Bool)) (bell : Int) (tx : ByteArray) (w : World) (hs : s.size ≤ 100000) (htx : tx.size ≤ 1048576) (hn : nm s = true) (h1 : 2 ≤ n) (h2 : n ≤ 12) (hl1 : 1 ≤ ts.length) (hl2 : ts.length ≤ 200) (hts : ∀ t, t ∈ ts → tsz t = n) (hv : IntsAll w v (ts.map tpl)) (hz : mErr s n (ts.map tpl) = 0) (hg : Glb w)
    (hps : (pls (ts.map tpl)).size ≤ 100000) (hws : (wln s n (ts.map tpl)).size ≤ 9223372036854775807) (hpc : ∀ j, j < (ts.map tpl).length → pc n ((ts.map tpl).getD j []) = 0) (hok : ∀ k, k < (ts.map tpl).length → okc n 0 ((ts.map tpl).getD k []) = true) (hbo : ∀ k, k < (ts.map tpl).length → ((ts.map tpl).getD k []).length ≤ 12 ∧ ∀ p, p ∈ (ts.map tpl).getD k [] → 1 ≤ p ∧ p ≤ 12) (hln : ∀ k, (ptx (ts.map tpl) k).length ≤ 13 * k) (hokm : ∀ ps, ps ∈ ts.map tpl → okc n 0 ps = true) :
    Calls Tryz.prog 3 #[.agg #[.string s, .int .i64 n, v], .int .i64 bell, .string tx] w fun e w' => e = .returned (.bool true) ∧ Below w.heap.size w w' := by
  obtain ⟨i0, hi, hz0, hz1, hz2⟩ := info_parts Tryz.info3
  have hxl : (ts.map tpl).length = ts.length := List.length_map _
  obtain ⟨vp, vc, hve⟩ := hv.len
  rw [hxl] at hve
  subst hve
  have HN2 := hide (fun W => name_any tx W (by omega))
  have HI2 := hide (fun W => isName_any tx W htx)
  rw [nm_isN] at HI2
  have HN1 := hide (fun W => name_any s W (by omega))
  have HI1 := hide (fun W => isName_any s W (by omega))
  rw [nm_isN] at HI1
  have hM0 := Mbx.start w s n (.slice vp ts.length vc)
  have HM0 := hide hM0
  have c0 := hM0.c0
  have hlt := hM0.lt
  have HMM := hide (fun W (hb : Below w.heap.size w W) => rmay_all s n _ (ts.map tpl) W (by omega) (hv.below hb))
  rw [hz] at HMM
  have HLD := hide (fun W (hb : Below w.heap.size w W) => lead_ok s n _ ts W (by omega) hn h1 h2 hl1 hl2 hts (hv.below hb))
  have HHD := hide (fun W (hb : Below w.heap.size w W) => head_ok s n _ ts W (by omega) hn h1 h2 hl1 hl2 hts (hv.below hb))
  have HHU := hide (fun W (hb : Below w.heap.size w W) => hunts_ok s n _ ts W (by omega) hn h1 h2 hl1 hl2 hts (hv.below hb))
  have HWR := hide (fun W (hb : Below w.heap.size w W) => write_ok s n _ (ts.map tpl) W hs hz h1 h2 (by omega) (by omega) hpc hps (hv.below hb))
  have HMI := hide (fun W (hb : Below w.heap.size w W) => mirrored_ok s n _ (ts.map tpl) W (by omega) hn h1 h2 (by omega) (by omega) (hv.below hb) hok)
  have HCK := hide (fun W (hb : Below w.heap.size w W) => mcheck_all s n _ (ts.map tpl) W (by omega) (hv.below hb))
  rw [hz] at HCK
  have HFR := hide (fun base rv W (hb : Below w.heap.size w W) (hbase : base ≤ W.heap.size) hown => rfrom_ok base rv (rnd n) n _ ts W (isRow_rnd n) (rnd_length n) (by omega) h2 hown hts hl1 (by omega) (hv.below hb) hbase)
  rw [frL_lead] at HFR
  have HML := hide (fun W (hb : Below w.heap.size w W) => methodLine_ok s n _ (ts.map tpl) W hs h2 (by omega) (by omega) hbo hln hps (hv.below hb))
  have HRM := hide (fun W (hb : Below w.heap.size w W) => rmirrored_ok s n _ (ts.map tpl) W (by omega) (by omega) (hv.below hb))
  have HLO := hide (fun W (hb : Below w.heap.size w W) => line_ok s n _ ts bell W (by omega) hn h1 h2 hl1 hl2 hts (hv.below hb))
  have HLN := hide (fun W (hb : Below w.heap.size w W) => line_no s n _ ts bell W (by omega) hn h1 h2 hl1 hl2 hts (hv.below hb))
  have HRL := hide (fun W (hb : Below w.heap.size w W) x hx => rline_ok s n _ ts x W h1 h2 hl1 hl2 hts (hv.below hb) hx)
  have HMC := hide (fun W ld (hb : Below w.heap.size w W) => mcourse_ok s n _ ld ts W (by omega) hn h1 h2 hl1 hl2 hts (hv.below hb))
  have HMB := hide (fun W (hb : Below w.heap.size w W) => mback_ok s n _ (ts.map tpl) (wln s n (ts.map tpl)) W hws (hv.below hb) (hg.below hb) (fun h4 W' hg' => read_back s n (ts.map tpl) W' hg' hn h1 h2 (by omega) (by omega) hokm h4))
  have hpr := prd_row n ts hts
  have HPR := hide hpr
  have HRO := hide (fun W vv hI => rorder_ok vv (prd n ts) W hI hpr.1 (by omega) (by omega))
  have HLL := hide (leadTo_length n ts ts.length)
  have HLG : Hid ((leadTo n ts ts.length).getD ts.length [] = prd n ts) := by show _ = _; rw [leadTo_get (Nat.le_refl _), List.take_of_length_le (Nat.le_refl _)]
  have HSL := hide (stl_le (prd n ts))
  have HST := hide (fun k => @stl_hit (prd n ts) k)
  have HSM := hide (fun k => @stl_miss (prd n ts) k)
  generalize wln s n (ts.map tpl) = res at *
  generalize leadTo n ts ts.length = R at *
  generalize ord (prd n ts) = oo at *
  generalize odd (prd n ts) = od at *
  generalize prd n ts = pp at *
  generalize hKK : ts.length = K at *
  have hK2 : K ≤ 200 := hl2
  have hK1 : 1 ≤ K := hl1
  have hrs : (res.toList == res.toList) = true := beq_self_eq_true _
  clear hM0 hv hz hn hts hps hws hpc hok hbo hln hokm hxl hg hpr hKK hl1 hl2
  unfold meth at *
  go_enter Tryz.func3, Tryz.ntmps3
  go_upto_region 1 with fail
  generalize w.alloc (.cells #[.string s, .int .i64 n, .slice vp K vc] 24) = WA at *
  refine wp_region_held_drew (S := fun W' => Below WA.heap.size WA W') (by kernel_rfl) (Below.refl WA.heap.size WA).drew (fun hS => ?_)
  refine wpAnyH_take (i := 0) (v := .string tx) rfl (by kernel_rfl) (by kernel_rfl) (by kernel_rfl) (fun _ _ _ h => h) (Or.inl ⟨by kernel_rfl, fun w' hS' => by clear hS'; go_simp⟩) hS ?_
  refine wpAnyH_take (i := 2) (v := .string tx) rfl (by kernel_rfl) (by kernel_rfl) (by kernel_rfl) (fun _ _ _ h => h) (Or.inl ⟨by kernel_rfl, fun w' hS' => by clear hS'; go_simp⟩) hS ?_
  refine wpAnyH_ready (rs := [1]) (by kernel_rfl) (by simp) ?_
  refine (AllReadyH.cons rfl (fun K9 hK9 => ?_) AllReadyH.nil)
  go_simp
  refine (HN2.out _).mono ?_
  rintro e wq1 ⟨rfl, hbq⟩
  have hS1 : Below WA.heap.size WA wq1 := Below.trans hS (hbq.mono (Below.size hS))
  refine hK9.out _ _ hS1 (fun hS => ?_)
  clear hK9 hbq
  refine wpAnyH_ready (rs := [3]) (by kernel_rfl) (by simp) ?_
  refine (AllReadyH.cons rfl (fun K9 hK9 => ?_) AllReadyH.nil)
  go_simp
  refine (HI2.out _).mono ?_
  rintro e wq3 ⟨rfl, hbq⟩
  have hS3 : Below WA.heap.size WA wq3 := Below.trans hS (hbq.mono (Below.size hS))
  refine hK9.out _ _ hS3 (fun hS => ?_)
  clear hK9 hbq
  refine wpAnyH_take (i := 4) (v := .bool false) rfl (by kernel_rfl) (by kernel_rfl) (by kernel_rfl) (fun _ _ _ h => h) (Or.inl ⟨by kernel_rfl, fun w' hS' => by clear hS'; go_simp⟩) hS ?_
  refine wpAnyH_take (i := 5) (v := .bool false) rfl (by kernel_rfl) (by kernel_rfl) (by kernel_rfl) (fun _ _ _ h => h) (Or.inl ⟨by kernel_rfl, fun w' hS' => by clear hS'; go_simp⟩) hS ?_
  refine wpAnyH_take (i := 6) (v := .pointer (some ⟨w.heap.size, 0, none⟩)) rfl (by kernel_rfl) (by kernel_rfl) (by kernel_rfl) (fun _ _ _ h => h) (Or.inl ⟨by kernel_rfl, fun w' hS' => by clear hS'; go_simp⟩) hS ?_
  refine wpAnyH_take (i := 7) (v := .string s) rfl (by kernel_rfl) (by kernel_rfl) (by kernel_rfl) (fun _ _ _ h => h) (Or.inl ⟨by kernel_rfl, fun w' hS' => by have q0 := (Below.cell hS' (p := ⟨w.heap.size, 0, none⟩) hlt).trans c0; clear hS'; go_simp⟩) hS ?_
  refine wpAnyH_take (i := 9) (v := .pointer (some ⟨w.heap.size, 0, none⟩)) rfl (by kernel_rfl) (by kernel_rfl) (by kernel_rfl) (fun _ _ _ h => h) (Or.inl ⟨by kernel_rfl, fun w' hS' => by clear hS'; go_simp⟩) hS ?_
  refine wpAnyH_take (i := 10) (v := .string s) rfl (by kernel_rfl) (by kernel_rfl) (by kernel_rfl) (fun _ _ _ h => h) (Or.inl ⟨by kernel_rfl, fun w' hS' => by have q0 := (Below.cell hS' (p := ⟨w.heap.size, 0, none⟩) hlt).trans c0; clear hS'; go_simp⟩) hS ?_
  refine wpAnyH_ready (rs := [8]) (by kernel_rfl) (by simp) ?_
  refine (AllReadyH.cons rfl (fun K9 hK9 => ?_) AllReadyH.nil)
  go_simp
  refine (HN1.out _).mono ?_
  rintro e wq8 ⟨rfl, hbq⟩
  have hS8 : Below WA.heap.size WA wq8 := Below.trans hS (hbq.mono (Below.size hS))
  refine hK9.out _ _ hS8 (fun hS => ?_)
  clear hK9 hbq
  refine wpAnyH_ready (rs := [11]) (by kernel_rfl) (by simp) ?_
  refine (AllReadyH.cons rfl (fun K9 hK9 => ?_) AllReadyH.nil)
  go_simp
  refine (HI1.out _).mono ?_
  rintro e wq11 ⟨rfl, hbq⟩
  have hS11 : Below WA.heap.size WA wq11 := Below.trans hS (hbq.mono (Below.size hS))
  refine hK9.out _ _ hS11 (fun hS => ?_)
  clear hK9 hbq
  refine wpAnyH_take (i := 12) (v := .bool false) rfl (by kernel_rfl) (by kernel_rfl) (by kernel_rfl) (fun _ _ _ h => h) (Or.inl ⟨by kernel_rfl, fun w' hS' => by clear hS'; go_simp⟩) hS ?_
  refine wpAnyH_take (i := 13) (v := .bool false) rfl (by kernel_rfl) (by kernel_rfl) (by kernel_rfl) (fun _ _ _ h => h) (Or.inl ⟨by kernel_rfl, fun w' hS' => by clear hS'; go_simp⟩) hS ?_
  refine wpAnyH_done (by kernel_rfl) ?_ _
  replace HM0 := hide (HM0.out.later hS11)
  clear hS hS1 hS3 hS8 hS11 c0 hlt HN1 HN2 HI1 HI2
  obtain ⟨a0, a1, a2, hl9, hb9⟩ := HM0.out
  go_wp2_with fail
  refine (HMM.out _ hb9).mono ?_
  rintro e wb0 ⟨rfl, hbq⟩
  replace HM0 := hide (HM0.out.later hbq)
  clear a0 a1 a2 hl9 hb9 hbq HMM
  obtain ⟨a0, a1, a2, hl9, hb9⟩ := HM0.out
  go_wp2_with fail
  refine (HLD.out _ hb9).mono ?_
  rintro e wb1 ⟨lv, lvs, rfl, hL, hbq⟩
  have HIL := hide hL.ints
  obtain ⟨lp, lc, rfl⟩ := owns_slice hL.row
  clear hL
  replace HM0 := hide (HM0.out.later hbq)
  clear a0 a1 a2 hl9 hb9 hbq HLD
  obtain ⟨a0, a1, a2, hl9, hb9⟩ := HM0.out
  go_wp2_with fail
  refine (HHD.out _ hb9).mono ?_
  rintro e wb2 ⟨hd, rfl, hH, hbq⟩
  have HIH := hide (Ints.own hH)
  obtain ⟨hp9, hc9, rfl⟩ := owns_slice hH
  clear hH
  replace HM0 := hide (HM0.out.later hbq)
  replace HIL := hide (HIL.out.below hbq)
  clear a0 a1 a2 hl9 hb9 hbq HHD
  obtain ⟨a0, a1, a2, hl9, hb9⟩ := HM0.out
  go_wp2_with fail
  refine (HHU.out _ hb9).mono ?_
  rintro e wb3 ⟨hu, rfl, hU, hbq⟩
  have HIU := hide (Ints.own hU)
  obtain ⟨up9, uc9, rfl⟩ := owns_slice hU
  clear hU
  replace HM0 := hide (HM0.out.later hbq)
  replace HIL := hide (HIL.out.below hbq)
  replace HIH := hide (HIH.out.below hbq)
  clear a0 a1 a2 hl9 hb9 hbq HHU
  obtain ⟨a0, a1, a2, hl9, hb9⟩ := HM0.out
  go_wp2_with fail
  refine (HWR.out _ hb9).mono ?_
  rintro e wb4 ⟨rfl, hbq⟩
  replace HM0 := hide (HM0.out.later hbq)
  replace HIL := hide (HIL.out.below hbq)
  replace HIH := hide (HIH.out.below hbq)
  replace HIU := hide (HIU.out.below hbq)
  clear a0 a1 a2 hl9 hb9 hbq HWR
  obtain ⟨a0, a1, a2, hl9, hb9⟩ := HM0.out
  go_wp2_with fail
  refine (HMI.out _ hb9).mono ?_
  rintro e wb5 ⟨bm, hbm, rfl, hbq⟩
  have HBM := hide hbm
  clear hbm
  replace HM0 := hide (HM0.out.later hbq)
  replace HIL := hide (HIL.out.below hbq)
  replace HIH := hide (HIH.out.below hbq)
  replace HIU := hide (HIU.out.below hbq)
  clear a0 a1 a2 hl9 hb9 hbq HMI
  obtain ⟨a0, a1, a2, hl9, hb9⟩ := HM0.out
  go_wp2_with fail
  refine (HCK.out _ hb9).mono ?_
  rintro e wb6 ⟨rfl, hbq⟩
  replace HM0 := hide (HM0.out.later hbq)
  replace HIL := hide (HIL.out.below hbq)
  replace HIH := hide (HIH.out.below hbq)
  replace HIU := hide (HIU.out.below hbq)
  clear a0 a1 a2 hl9 hb9 hbq HCK
  obtain ⟨a0, a1, a2, hl9, hb9⟩ := HM0.out
  go_upto_region 13 with fail
  refine wp_region_held_drew (S := fun W' => Below wb6.heap.size wb6 W') (by kernel_rfl) (Below.refl wb6.heap.size wb6).drew (fun hS => ?_)
  refine wpAnyH_take (i := 0) (v := .pointer (some ⟨w.heap.size, 1, none⟩)) rfl (by kernel_rfl) (by kernel_rfl) (by kernel_rfl) (fun _ _ _ h => h) (Or.inl ⟨by kernel_rfl, fun w' hS' => by clear hS'; go_simp⟩) hS ?_
  refine wpAnyH_take (i := 1) (v := .int .i64 (n : Int)) rfl (by kernel_rfl) (by kernel_rfl) (by kernel_rfl) (fun _ _ _ h => h) (Or.inl ⟨by kernel_rfl, fun w' hS' => by have q1 := (Below.cell hS' (p := ⟨w.heap.size, 1, none⟩) hl9).trans a1; clear hS'; go_simp⟩) hS ?_
  refine wpAnyH_take (i := 3) (v := .pointer (some ⟨w.heap.size, 2, none⟩)) rfl (by kernel_rfl) (by kernel_rfl) (by kernel_rfl) (fun _ _ _ h => h) (Or.inl ⟨by kernel_rfl, fun w' hS' => by clear hS'; go_simp⟩) hS ?_
  refine wpAnyH_take (i := 4) (v := .slice vp K vc) rfl (by kernel_rfl) (by kernel_rfl) (by kernel_rfl) (fun _ _ _ h => h) (Or.inl ⟨by kernel_rfl, fun w' hS' => by have q2 := (Below.cell hS' (p := ⟨w.heap.size, 2, none⟩) hl9).trans a2; clear hS'; go_simp⟩) hS ?_
  have HS0 := hide hS
  refine wpAnyH_ready (rs := [2]) (by kernel_rfl) (by simp) ?_
  refine AllReadyH.cons rfl (fun K9 hK => ?_) AllReadyH.nil
  go_simp
  refine (rrounds_ok n _ (by omega)).mono ?_
  rintro e wr1 ⟨rv, rfl, hrv, hbr⟩
  have hbr' : Below wb6.heap.size wb6 wr1 := Below.trans HS0.out hbr
  refine hK.out _ _ hbr' (fun hS => ?_)
  clear hK
  have HFF := hide (HFR.out _ rv wr1 (hb9.trans (hbr'.mono hb9.size)) hbr.size hrv)
  refine wpAnyH_ready (rs := [5]) (by kernel_rfl) (by simp) ?_
  refine AllReadyH.cons rfl (fun K9 hK => ?_) AllReadyH.nil
  go_simp
  refine HFF.out.mono ?_
  rintro e wf ⟨fv, fvs, rfl, hF, _, hbf⟩
  have hbq : Below wb6.heap.size wb6 wf := hbr'.trans (hbf.mono hbr'.size)
  have hvl : fvs.length = K + 1 := by rw [hF.len]; exact HLL.out
  obtain ⟨fg, fc, rfl, hfg1, hfg2, hfc1, hfc2⟩ := owns_form hF.row (by omega)
  rw [hvl] at hfc1
  refine hK.out _ _ hbq (fun hS => ?_)
  clear hK
  rw [hvl]
  refine wpAnyH_take (i := 6) (v := .slice (some ⟨fg, 0, none⟩) (K + 1) fc) rfl (by kernel_rfl) (by kernel_rfl) (by kernel_rfl) (fun _ _ _ h => h) (Or.inl ⟨by kernel_rfl, fun w' hS' => by clear hS'; go_simp⟩) hS ?_
  refine wpAnyH_done (by kernel_rfl) ?_ _
  have hlast := hF.at (k := K) (by rw [HLL.out]; omega)
  rw [HLG.out, HPR.out.2] at hlast
  have hlc := hF.row.cells (g := fg) rfl K (fvs.getD K undef) (by simp [List.getD, show K < fvs.length from by omega])
  rw [Addr.add_lit, Nat.zero_add] at hlc
  obtain ⟨hg9, hgc, hlv, hhg1, hhg2, hhc1, hhc2⟩ := owns_form hlast (by omega)
  rw [hlv] at hlc hlast
  have hIF := hF.ints
  rw [hvl] at hIF
  have HIF := hide hIF
  have HI9 := hide (Ints.own hlast)
  have HCE : Hid (∀ k, k < n → wf.cell? ⟨hg9, k, none⟩ = some (.int .i64 (pp.getD k 0))) := fun k hk => (owns_cell hlast hk).1
  replace HM0 := hide (HM0.out.later hbq)
  replace HIL := hide (HIL.out.below hbq)
  replace HIH := hide (HIH.out.below hbq)
  replace HIU := hide (HIU.out.below hbq)
  clear hS hbr hbr' hbf hbq hF hIF hvl hrv HFF HFR HS0 hlast hlv a0 a1 a2 hl9 hb9
  go_wp2_with fail
  refine (HRO.out _ _ HI9.out).mono ?_
  rintro e wo ⟨rfl, hbq⟩
  replace HM0 := hide (HM0.out.later hbq)
  replace HIL := hide (HIL.out.below hbq)
  replace HIH := hide (HIH.out.below hbq)
  replace HIU := hide (HIU.out.below hbq)
  replace HIF := hide (HIF.out.below hbq)
  replace HI9 := hide (HI9.out.below hbq)
  have hhgo : hg9 < wo.heap.size := Nat.lt_of_lt_of_le hhg2 hbq.size
  replace HCE : Hid (∀ k, k < n → wo.cell? ⟨hg9, k, none⟩ = some (.int .i64 (pp.getD k 0))) := fun k hk => (hbq.cell (p := ⟨hg9, k, none⟩) hhg2).trans (HCE.out k hk)
  clear hbq HRO hlc
  have HSA := hide (sameAll_any _ _ R R wo HIL.out HIF.out)
  rw [decide_eq_true rfl] at HSA
  go_wp2_with fail
  refine HSA.out.mono ?_
  rintro e wp1 ⟨rfl, hbq⟩
  have hbo1 := hbq
  replace HM0 := hide (HM0.out.later hbq)
  replace HIL := hide (HIL.out.below hbq)
  replace HIH := hide (HIH.out.below hbq)
  replace HIU := hide (HIU.out.below hbq)
  replace HIF := hide (HIF.out.below hbq)
  replace HI9 := hide (HI9.out.below hbq)
  clear hbq HSA
  have HSB := hide (same_any _ _ pp pp wp1 HIH.out HI9.out)
  rw [decide_eq_true rfl] at HSB
  go_wp2_with fail
  refine HSB.out.mono ?_
  rintro e wp2 ⟨rfl, hbq⟩
  have hbo2 := hbo1.trans (hbq.mono hbo1.size)
  replace HM0 := hide (HM0.out.later hbq)
  replace HIL := hide (HIL.out.below hbq)
  replace HIH := hide (HIH.out.below hbq)
  replace HIU := hide (HIU.out.below hbq)
  replace HIF := hide (HIF.out.below hbq)
  replace HI9 := hide (HI9.out.below hbq)
  clear hbq HSB hbo1
  obtain ⟨a0, a1, a2, hl9, hb9⟩ := HM0.out
  go_wp2_with fail
  refine (HML.out _ hb9).mono ?_
  rintro e wp3 ⟨rfl, hbq⟩
  have hbo3 := hbo2.trans (hbq.mono hbo2.size)
  replace HM0 := hide (HM0.out.later hbq)
  replace HIL := hide (HIL.out.below hbq)
  replace HIH := hide (HIH.out.below hbq)
  replace HIU := hide (HIU.out.below hbq)
  replace HIF := hide (HIF.out.below hbq)
  replace HI9 := hide (HI9.out.below hbq)
  clear hbq HML hbo2 a0 a1 a2 hl9 hb9
  obtain ⟨a0, a1, a2, hl9, hb9⟩ := HM0.out
  go_wp2_with fail
  refine (HRM.out _ hb9).mono ?_
  rintro e wp4 ⟨bm2, hbm2, rfl, hbq⟩
  have hbb : bm2 = bm := by
    have := HBM.out
    cases bm <;> cases bm2 <;> simp_all
  subst hbb
  have hbo4 := hbo3.trans (hbq.mono hbo3.size)
  replace HM0 := hide (HM0.out.later hbq)
  replace HIL := hide (HIL.out.below hbq)
  replace HIH := hide (HIH.out.below hbq)
  replace HIU := hide (HIU.out.below hbq)
  replace HIF := hide (HIF.out.below hbq)
  replace HI9 := hide (HI9.out.below hbq)
  replace HCE : Hid (∀ k, k < n → wp4.cell? ⟨hg9, k, none⟩ = some (.int .i64 (pp.getD k 0))) := fun k hk => (hbo4.cell (p := ⟨hg9, k, none⟩) hhgo).trans (HCE.out k hk)
  have hhg4 : hg9 < wp4.heap.size := Nat.lt_of_lt_of_le hhgo hbo4.size
  clear hbq HRM hbo3 hbo4 hbm2 HBM a0 a1 a2 hl9 hb9
  go_wp2
  go_loopw [23, 24] (fun vv i wr => ∃ (v9 : Value) (k : Nat) (xs : List Int), v9 = vv ∧ k ≤ n ∧ i = .int .i64 k ∧ Hid (xs = stl pp k) ∧ Hid (StlW wp4 wr v9 xs)) (fun _ i _ => n - (intOf i).toNat)
  case atStart => exact ⟨_, 0, [], rfl, by omega, rfl, rfl, ⟨World.ownsRow_nil _ _ _ _, Below.refl _ _⟩⟩
  case round =>
    obtain ⟨v9, k, xs, hvv, hk, rfl, hx, hW⟩ := hrel
    subst hvv
    have hxl : xs.length ≤ 12 := by rw [hx.out]; exact Nat.le_trans (HSL.out k) (by omega)
    have b1 := (HM0.out.later hW.out.below).c1
    by_cases hlt : k < n
    · have hcell := (hW.out.below.cell (p := ⟨hg9, k, none⟩) hhg4).trans (HCE.out k hlt)
      by_cases hb : pp.getD k 0 = (k : Int)
      · have HX := hide (HST.out k hb)
        rw [hb] at hcell
        have hrow := hW.out.own
        have hbw := hW.out.below
        have hbs := hbw.size
        obtain ⟨up, uc, rfl⟩ := owns_slice hrow
        generalize hL : xs.length = M at *
        replace hL := hide hL
        clear hb hW
        go_wp2_with (at_builtin; refine wpList_append_own _ rfl _ _ 30 rfl wp4.heap.size 3 i0 (.int .i64 0) 1 8 Tryz.underlying30 hi hz0 hz1 hz2 rfl (by decide) _ _ _ rfl (hrow.alloc _) ⟨wr.heap.size, 0, none⟩ 1 1 [.int .i64 (k : Int)] rfl rfl ?c1 ?c2 ?c3 ?c4 ?c5 ?_)
        case c1 => exact cell_one_new _ _ _
        case c2 => intro u hu; simp at hu; subst hu; rfl
        case c3 => unfold maxLen; omega
        case c4 => omega
        case c5 => simp; omega
        intro v' w5 hown5 hgrow _
        have HW5 : Hid (StlW wp4 w5 v' (xs ++ [(k : Int)])) := by
          refine ⟨?_, ?_⟩
          · rw [List.length_append, hL.out, List.map_append]; exact hown5
          · exact (hbw.alloc hbs _).grown hgrow (by simp; omega) (fun g hg => (hrow.lt g hg).1)
        have HX2 : Hid (xs ++ [(k : Int)] = stl pp (k + 1)) := by show _ = _; rw [HX.out, hx.out]
        clear hown5 hgrow hrow hcell hL HX hx b1
        go_wp2
        go_roundw
        case rel =>
          have hfin : ∃ (v9 : Value) (k' : Nat) (xs : List Int), v9 = v' ∧ k' ≤ n ∧ Value.int .i64 ((k : Int) + 1) = .int .i64 (k' : Int) ∧ Hid (xs = stl pp k') ∧ Hid (StlW wp4 w5 v9 xs) := ⟨_, k + 1, _, rfl, by omega, by go_num, HX2, HW5⟩
          first
            | exact hfin
            | ((repeat apply Exists.intro); exact ⟨hfin, rfl⟩)
        case measure => simp [intOf]; omega
      · have HX := hide (HSM.out k hb)
        have hne : (pp.getD k 0 == (k : Int)) = false := beq_eq_false_iff_ne.2 hb
        generalize pp.getD k 0 = y at *
        go_wp2
        go_roundw
        case rel => exact ⟨_, k + 1, xs, rfl, by omega, by go_num, by show xs = _; rw [HX.out]; exact hx.out, hW⟩
        case measure => simp [intOf]; omega
    · obtain rfl : k = n := by omega
      have hbq := hW.out.below
      have hI := Ints.own hW.out.own
      rw [hx.out] at hI
      obtain ⟨sp, sc, rfl⟩ := owns_slice hW.out.own
      replace HM0 := hide (HM0.out.later hbq)
      replace HIU := hide (HIU.out.below hbq)
      have HSC := hide (same_any _ _ _ _ wr HIU.out hI)
      rw [decide_eq_true rfl] at HSC
      clear hW hbq hI HCE HST HSM HSL HIL HIH HIF HI9
      generalize xs.length = M at *
      clear hx
      go_wp2_with fail
      refine HSC.out.mono ?_
      rintro e wl ⟨rfl, hbq⟩
      replace HM0 := hide (HM0.out.later hbq)
      clear hbq HSC b1 HIU
      by_cases hin : 0 ≤ bell ∧ bell < (k : Int)
      · obtain ⟨x, rfl⟩ := Int.eq_ofNat_of_zero_le hin.1
        have HLX := hide (fun W hb => HLO.out W hb hin.1 hin.2)
        have HRX := hide (fun W hb => HRL.out W hb x (by have := hin.2; omega))
        have x1 : ¬ (x : Int) < 0 := by omega
        have x2 : ¬ (k : Int) ≤ (x : Int) := by have := hin.2; omega
        clear HLO HLN HRL hin
        obtain ⟨a0, a1, a2, hl9, hb9⟩ := HM0.out
        go_wp2_with fail
        refine (HLX.out _ hb9).mono ?_
        rintro e wm ⟨lu, rfl, hlu, hbq⟩
        obtain ⟨lp2, lc2, rfl⟩ := hlu.form
        replace HM0 := hide (HM0.out.later hbq)
        have HLU := hide hlu
        clear hbq hlu HLX a0 a1 a2 hl9 hb9
        obtain ⟨a0, a1, a2, hl9, hb9⟩ := HM0.out
        generalize (lin R (x : Int)).length = LR at *
        go_wp2_with fail
        refine (HRX.out _ hb9).mono ?_
        rintro e wn ⟨ru, rfl, hru, hbq⟩
        obtain ⟨lp3, lc3, rfl⟩ := hru.form
        replace HM0 := hide (HM0.out.later hbq)
        have HSD := hide (same_any _ _ _ _ wn (HLU.out.below hbq) hru)
        rw [decide_eq_true rfl] at HSD
        clear hbq hru HRX HLU a0 a1 a2 hl9 hb9
        generalize (lin R (x : Int)).length = LS at *
        go_wp2_with fail
        refine HSD.out.mono ?_
        rintro e wq ⟨rfl, hbq⟩
        replace HM0 := hide (HM0.out.later hbq)
        clear hbq HSD
        obtain ⟨a0, a1, a2, hl9, hb9⟩ := HM0.out
        go_wp2_with fail
        refine (HMC.out _ _ hb9).mono ?_
        rintro e wt ⟨rfl, hbq⟩
        replace HM0 := hide (HM0.out.later hbq)
        clear hbq HMC a0 a1 a2 hl9 hb9
        obtain ⟨a0, a1, a2, hl9, hb9⟩ := HM0.out
        go_wp2_with fail
        refine (HMB.out _ hb9).mono ?_
        rintro e wu ⟨rfl, hbq⟩
        replace HM0 := hide (HM0.out.later hbq)
        have HF := hide HM0.out.below
        clear hbq HMB a0 a1 a2 hl9 hb9
        go_wp2
        go_ret
        exact ⟨rfl, HF.out⟩
      · have hout : bell < 0 ∨ (k : Int) ≤ bell := by omega
        have HLX := hide (fun W hb => HLN.out W hb hout)
        have hout2 : bell < 0 ∨ (¬ bell < 0 ∧ (k : Int) ≤ bell) := by omega
        clear HLO HLN HRL hin hout
        rcases hout2 with x1 | ⟨x1, x2⟩
        all_goals
          obtain ⟨a0, a1, a2, hl9, hb9⟩ := HM0.out
          go_wp2_with fail
          refine (HLX.out _ hb9).mono ?_
          rintro e wm ⟨rfl, hbq⟩
          replace HM0 := hide (HM0.out.later hbq)
          clear hbq HLX a0 a1 a2 hl9 hb9
          obtain ⟨a0, a1, a2, hl9, hb9⟩ := HM0.out
          go_wp2_with fail
          refine (HMC.out _ _ hb9).mono ?_
          rintro e wt ⟨rfl, hbq⟩
          replace HM0 := hide (HM0.out.later hbq)
          clear hbq HMC a0 a1 a2 hl9 hb9
          obtain ⟨a0, a1, a2, hl9, hb9⟩ := HM0.out
          go_wp2_with fail
          refine (HMB.out _ hb9).mono ?_
          rintro e wu ⟨rfl, hbq⟩
          replace HM0 := hide (HM0.out.later hbq)
          have HF := hide HM0.out.below
          clear hbq HMB a0 a1 a2 hl9 hb9
          go_wp2
          go_ret
          exact ⟨rfl, HF.out⟩

end Go.Proofs.YtfngadfkopfhcaaGreatDoor

/- Contract: MethodOf. -/
namespace Go.Proofs.YtfngadfkopfhcaaGreatDoor
open Go.RowKit

theorem tried_name : nm ⟨#[84, 114, 105, 101, 100]⟩ = true := by decide +kernel

theorem cells3 {w1 : World} {B : Nat} {a b c : Value} {t : TypeId} (h : w1.heap[B]? = some (.cells #[a, b, c] t)) :
    w1.cell? ⟨B, 0, none⟩ = some a ∧ w1.cell? ⟨B, 1, none⟩ = some b ∧ w1.cell? ⟨B, 2, none⟩ = some c ∧ w1.frozen? ⟨B, 0, none⟩ = false ∧ w1.frozen? ⟨B, 1, none⟩ = false ∧ w1.frozen? ⟨B, 2, none⟩ = false := by
  simp [World.cell?, World.frozen?, h]

set_option maxRecDepth 20000 in
set_option maxHeartbeats 2000000 in
theorem methodOf_ok (v : Value) (xs : List Int) (n m : Nat) (w : World) (h : Ints w v xs) (hx : ∀ x, x ∈ xs → I64 x) (h1 : 1 ≤ n) (h12 : n ≤ 12) (hm : m ≤ 1000) :
    Calls Tryz.prog 25 #[v, .int .i64 n, .int .i64 m] w fun e w' => ∃ (u : Value) (vs : List Value) (ts : List (List Bool)), e = .returned (.agg #[.string ⟨#[84, 114, 105, 101, 100]⟩, .int .i64 n, u]) ∧ ts.length = m ∧ (∀ t, t ∈ ts → tsz t = n) ∧ LL w' (w.heap.size + 1) u vs (ts.map tpl) ∧ Below w.heap.size w w' := by
  have HC := hide (fun W (hb : Below w.heap.size w W) => changesOf_ok v xs 3 n m W (h.below hb) hx (by omega) h1 h12 hm)
  clear h hx
  go_enter Tryz.func25, Tryz.ntmps25
  go_wp2_with fail
  refine (HC.out _ ((Below.refl _ _).alloc (Nat.le_refl _) _)).mono ?_
  rintro e w1 ⟨u, vs, ts, rfl, hl, hts, hL, hb1⟩
  have hblk0 := (hb1.block w.heap.size (by simp)).trans (heap_alloc_new w _)
  obtain ⟨z0, z1, z2, f0, f1, f2⟩ := cells3 (w1 := w1) (B := w.heap.size) hblk0
  obtain ⟨up, uc, rfl⟩ := owns_slice hL.row
  have HBK : Hid ((((w1.setCell ⟨w.heap.size, 0, none⟩ (.string ⟨#[84, 114, 105, 101, 100]⟩)).setCell ⟨w.heap.size, 1, none⟩ (.int .i64 n)).setCell ⟨w.heap.size, 2, none⟩ (.slice up vs.length uc)).heap[w.heap.size]? = some (.cells #[.string ⟨#[84, 114, 105, 101, 100]⟩, .int .i64 n, .slice up vs.length uc] 24)) := by
    show _ = _
    simp [World.setCell, Array.getElem?_modify, hblk0]
  clear hblk0
  have HT := hide hts
  have HL := hide hL
  have HLE := hide hl
  clear hts hL hl HC
  have hB : Below w.heap.size w w1 := ((Below.refl _ _).alloc (Nat.le_refl _) _).trans (hb1.mono (by simp))
  have HLL := hide (HL.out.low (show w.heap.size + 1 ≤ _ by simp))
  clear HL
  go_wp2
  refine bodyPost_ret (results_cell_row (p := 6) (ty := 24) rfl _ _ w.heap.size 24 _ _ _ rfl HBK.out Tryz.underlying24 rfl (by kernel_rfl)) rfl ?_
  exact ⟨_, vs, ts, rfl, HLE.out, HT.out, ((HLL.out.set (Nat.lt_succ_self _)).set (Nat.lt_succ_self _)).set (Nat.lt_succ_self _), ((hB.setCell (Nat.le_refl _) _).setCell (Nat.le_refl _) _).setCell (Nat.le_refl _) _⟩

end Go.Proofs.YtfngadfkopfhcaaGreatDoor
