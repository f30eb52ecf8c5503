/- Joined: BoL, BoM, BoN, BoB, BoC, BoO, BoP. -/
import Derived.Test.YtffnfchekbafmaaDoorJ3
import Derived.Test.YtffnfchekbafmaaDoorJ0
/- Contracts: Cut, SplitN, Atoi, Clone of texts as the book calls them. -/
namespace Go.Proofs.YtffnfchekbafmaaDoor
open Go.RowKit Go.Lib
set_option maxRecDepth 100000
set_option linter.unusedVariables false

/-- What is asked of package variables of the library. -/
structure Glk (w : World) : Prop where
  mx : ∃ m, w.cell? ⟨0, 0, none⟩ = some (.int .i64 m)
  sy : ∃ ev, w.cell? ⟨1, 0, none⟩ = some ev ∧ (ev = .nilIface ∨ ∃ te pe, ev = .iface te pe)
  rg : ∃ ev, w.cell? ⟨2, 0, none⟩ = some ev ∧ (ev = .nilIface ∨ ∃ te pe, ev = .iface te pe)
  tab : Tab10 w

theorem Glk.below {w w' : World} (h : Glk w) (hb : Below w.heap.size w w') : Glk w' := by
  obtain ⟨m, hm⟩ := h.mx
  obtain ⟨e1, hv1, k1⟩ := h.sy
  obtain ⟨e2, hv2, k2⟩ := h.rg
  exact ⟨⟨m, by rw [hb.cell (World.block_lt_of_cell? _ _ hm)]; exact hm⟩, ⟨e1, by rw [hb.cell (World.block_lt_of_cell? _ _ hv1)]; exact hv1, k1⟩, ⟨e2, by rw [hb.cell (World.block_lt_of_cell? _ _ hv2)]; exact hv2, k2⟩, h.tab.below hb⟩

/-- Texts in a block of texts. -/
structure RgS (w : World) (v : Value) (ring : List ByteArray) : Prop where
  mem : ∃ g o cap cur fr, v = .slice (some ⟨g, o, none⟩) ring.length cap ∧ w.heap[g]? = some (.cells cur 9 fr) ∧ ring.length ≤ cap ∧ cap ≤ 9223372036854775807 ∧ ∀ j x, ring[j]? = some x → cur[o + j]? = some (.string x)

/-- Blocks of texts stay as they are. -/
def StrK (w w' : World) : Prop := ∀ (b : Nat) (cur : Array Value) (fr : Nat × Nat), w.heap[b]? = some (.cells cur 9 fr) → w'.heap[b]? = some (.cells cur 9 fr)

theorem StrK.refl (w : World) : StrK w w := fun _ _ _ h => h
theorem StrK.trans {a b c : World} (h : StrK a b) (k : StrK b c) : StrK a c := fun x cur fr e => k x cur fr (h x cur fr e)
theorem StrK.of {w w' : World} (h : Below w.heap.size w w') : StrK w w' := fun b cur fr e => (h.block b (Array.getElem?_eq_some_iff.1 e).1).trans e

theorem setCell_at (w : World) (a : Addr) (y : Value) (b : Nat) (h : b ≠ a.block) : (w.setCell a y).heap[b]? = w.heap[b]? := by
  simp only [World.setCell]
  rw [Array.getElem?_modify, if_neg (fun e => h e.symm)]

theorem StrK.set {w : World} {a : Addr} {cur : Array Value} {t : TypeId} {fr : Nat × Nat} (h : w.heap[a.block]? = some (.cells cur t fr)) (ht : t ≠ 9) (y : Value) : StrK w (w.setCell a y) := fun b cur' fr' e => by
  rw [setCell_at w a y b (fun hb => by
    rw [hb, h] at e
    injection e with e
    injection e with _ e2
    exact ht e2)]
  exact e

theorem RgS.rg {w : World} {v : Value} {ring : List ByteArray} (h : RgS w v ring) : RgAt w v ring := by
  obtain ⟨g, o, cap, cur, fr, e, h1, h2, h3, h4⟩ := h.mem
  exact ⟨g, o, cap, e, (Array.getElem?_eq_some_iff.1 h1).1, h2, h3, fun j x hj => by rw [World.cell?, h1]; exact h4 j x hj⟩

theorem RgS.keep {w w' : World} {v : Value} {ring : List ByteArray} (h : RgS w v ring) (k : StrK w w') : RgS w' v ring := by
  obtain ⟨g, o, cap, cur, fr, e, h1, h2, h3, h4⟩ := h.mem
  exact ⟨g, o, cap, cur, fr, e, k _ _ _ h1, h2, h3, h4⟩

theorem infoStrB : (Tryd.prog.info? 9).map (fun i => (i.zero, i.size, i.bytes)) = some (some (.string ByteArray.empty), 1, 16) := by kernel_rfl

theorem cutK_ok (s : ByteArray) (w : World) (hg : Glk w) (hs : s.size ≤ 1000000) :
    Calls Tryd.prog 17 #[.string s, .string ⟨#[35]⟩] w fun e w' => ∃ b c, e = .returned (.tuple #[.string ⟨(Lib.cut s.data.toList [35]).1.toArray⟩, .string b, .bool c]) ∧ Below w.heap.size w w' := by
  obtain ⟨m, hm⟩ := hg.mx
  have h := Any.strings_Cut (P := Tryd.prog) (ρ := rnBk) blCut s ⟨#[35]⟩ m w (by omega) hm
  refine Calls.mono (show Calls Tryd.prog 17 _ _ _ from h) ?_
  rintro e w' ⟨rfl, n, rfl⟩
  exact ⟨_, _, rfl, ⟨rfl, rfl, rfl, Nat.le_refl _, fun _ _ => rfl⟩⟩

/-- Parted at a sign, at most so many parts. -/
def spN (c : UInt8) (n : Nat) (s : ByteArray) : List ByteArray := Lib.splitB ⟨#[c]⟩ 0 (min n (s.size + 1) - 1) s

theorem spN_data (c : UInt8) (n : Nat) (s : ByteArray) : (spN c n s).map (fun x => x.data.toList) = splitK [c] 0 (min n (s.size + 1) - 1) s.data.toList := Lib.splitB_data ⟨#[c]⟩ 0 _ s

theorem spN_len (c : UInt8) {n : Nat} (hn : 1 ≤ n) (s : ByteArray) : (spN c n s).length ≤ min n (s.size + 1) := by
  have := Lib.splitB_length_le ⟨#[c]⟩ 0 (min n (s.size + 1) - 1) s
  unfold spN
  omega

theorem splitB_pos (sep : ByteArray) (k : Nat) (s : ByteArray) : 1 ≤ (Lib.splitB sep 0 k s).length := by
  cases k with
  | zero => simp [Lib.splitB]
  | succ k => unfold Lib.splitB; split <;> simp

theorem splitB_sizes (sep : ByteArray) : ∀ (k : Nat) (s x : ByteArray), x ∈ Lib.splitB sep 0 k s → x.size ≤ s.size
  | 0, s, x, h => by simp [Lib.splitB] at h; rw [h]; exact Nat.le_refl _
  | k + 1, s, x, h => by
    unfold Lib.splitB at h
    split at h
    · simp at h; rw [h]; exact Nat.le_refl _
    · rcases List.mem_cons.1 h with rfl | h
      · rw [ByteArray.size_extract]; omega
      · have := splitB_sizes sep k _ x h
        rw [ByteArray.size_extract] at this
        omega

theorem splN_ok (c : UInt8) (n : Nat) (s : ByteArray) (w : World) (hg : Glk w) (hs : s.size ≤ 1000000) (hn : 1 ≤ n) (hn2 : n ≤ 1000) :
    Calls Tryd.prog 18 #[.string s, .string ⟨#[c]⟩, .int .i64 (n : Int)] w fun e w' => ∃ v, e = .returned v ∧ RgS w' v (spN c n s) ∧ Below w.heap.size w w' := by
  obtain ⟨m, hm⟩ := hg.mx
  have h := Any.strings_SplitN (P := Tryd.prog) (ρ := rnBk) blSpl infoStrB s ⟨#[c]⟩ n m w (by omega) hm (by show 1 ≤ 1; omega) hn (by omega)
  refine Calls.mono (show Calls Tryd.prog 18 _ _ _ from h) ?_
  rintro e w' ⟨rfl, rfl⟩
  have hl := spN_len c hn s
  have hh := heap_alloc_new w (.cells (Lib.cellsOf (Lib.splitB ⟨#[c]⟩ 0 (min n (s.size + 1) - 1) s) (min n (s.size + 1))) 9)
  refine ⟨_, rfl, ⟨_, _, _, _, _, rfl, hh, hl, by omega, fun j x hj => ?_⟩, (Below.refl _ _).alloc (Nat.le_refl _) _⟩
  have e1 : (Lib.cellsOf (spN c n s) (min n (s.size + 1)))[j]? = some (.string x) := by
    unfold Lib.cellsOf
    have hjl : j < (spN c n s).length := (List.getElem?_eq_some_iff.1 hj).1
    rw [List.getElem?_toArray, List.getElem?_append_left (by rw [List.length_map]; exact hjl), List.getElem?_map, hj]
    rfl
  rw [Nat.zero_add]
  exact e1

theorem atoK_ok (s : ByteArray) (w : World) (hg : Glk w) (hs : s.size ≤ 1000000) :
    Calls Tryd.prog 19 #[.string s] w fun e w' => ∃ (z : Int) (ev : Value), e = .returned (.tuple #[.int .i64 z, ev]) ∧ (∀ u, atoiAll s.data.toList = .ok u → z = u) ∧ Below w.heap.size w w' := by
  match ha : atoiAll s.data.toList with
  | .ok u =>
    have h := Any.strconv_Atoi_ok (P := Tryd.prog) (ρ := rnBk) blAto s (by omega) _ ha w
    refine Calls.mono (show Calls Tryd.prog 19 _ _ _ from h) ?_
    rintro e w' ⟨rfl, hw⟩
    refine ⟨_, _, rfl, fun u' h' => by injection h', ?_⟩
    rcases hw with rfl | ⟨t, rfl⟩
    · exact Below.refl _ _
    · exact Lib.bytesWorld_below _ _ _
  | .syntax =>
    obtain ⟨ev, hev, h2⟩ := hg.sy
    have h := Any.strconv_Atoi_syntax (P := Tryd.prog) (ρ := rnBk) blAto s (by omega) ha ev w hev h2
    refine Calls.mono (show Calls Tryd.prog 19 _ _ _ from h) ?_
    rintro e w' ⟨N, rfl, _, _, hb⟩
    exact ⟨_, _, rfl, fun u' h' => (by cases h'), hb⟩
  | .range =>
    obtain ⟨ev, hev, h2⟩ := hg.rg
    have h := Any.strconv_Atoi_range (P := Tryd.prog) (ρ := rnBk) blAto s (by omega) ha ev w hev h2
    refine Calls.mono (show Calls Tryd.prog 19 _ _ _ from h) ?_
    rintro e w' ⟨N, rfl, _, _, hb⟩
    exact ⟨_, _, rfl, fun u' h' => (by cases h'), hb⟩

theorem cloneS_ok (v : Value) (ring : List ByteArray) (w : World) (hv : RgAt w v ring) (h1 : 1 ≤ ring.length) (h2 : ring.length ≤ 1000) :
    Calls Tryd.prog 22 #[v] w fun e w' => ∃ v', e = .returned v' ∧ RgS w' v' ring ∧ Below w.heap.size w w' := by
  obtain ⟨g, o, cap, ev, hg, hc1, hc2, hcell⟩ := hv.mem
  subst ev
  have h := Any.slices_Clone_string (P := Tryd.prog) (ρ := rnCls) blCls g o ring.length cap ring w (Nat.le_refl _) (by omega) (fun j hj => hcell j _ (by rw [List.getD_eq_getElem?_getD, List.getElem?_eq_getElem hj]; rfl))
  refine Calls.mono (show Calls Tryd.prog 22 _ _ _ from h) ?_
  rintro e w' ⟨v', rfl, ho, hne, hb⟩
  refine ⟨v', rfl, ?_, hb⟩
  rcases ho.2 with ⟨_, h0⟩ | ⟨g', cap', cur, rfl, hb', hh, hc, hcm, hcz, htk⟩
  · omega
  · refine ⟨g', 0, cap', cur, _, rfl, hh, hc, by unfold maxLen at hcm; omega, fun j x hj => ?_⟩
    have hjl : j < ring.length := (List.getElem?_eq_some_iff.1 hj).1
    rw [Nat.zero_add]
    have h5 : (cur.toList.take (ring.length * 1))[j]? = some (.string x) := by rw [htk, List.take_length, List.getElem?_map, hj]; rfl
    rw [List.getElem?_take, if_pos (by omega), Array.getElem?_toList] at h5
    exact h5

end Go.Proofs.YtffnfchekbafmaaDoor

/- Contracts: (peal).record, enter, fault. -/
namespace Go.Proofs.YtffnfchekbafmaaDoor
open Go.RowKit Go.Lib
set_option maxRecDepth 100000
set_option linter.unusedVariables false

theorem alloc_sz (w : World) (o : Obj) : (w.alloc o).heap.size = w.heap.size + 1 := by
  show (w.heap.push o).size = _
  rw [Array.size_push]

theorem alloc3 (w : World) (a b c : Obj) : Below w.heap.size w (((w.alloc a).alloc b).alloc c) ∧ (((w.alloc a).alloc b).alloc c).heap[w.heap.size + 1]? = some b ∧ (((w.alloc a).alloc b).alloc c).heap[w.heap.size + 1 + 1]? = some c ∧ (((w.alloc a).alloc b).alloc c).heap.size = w.heap.size + 3 := by
  have s1 := alloc_sz w a
  have s2 := alloc_sz (w.alloc a) b
  have s3 := alloc_sz ((w.alloc a).alloc b) c
  have n2 := heap_alloc_new (w.alloc a) b
  have n3 := heap_alloc_new ((w.alloc a).alloc b) c
  rw [s1] at n2 s2
  rw [s2] at n3 s3
  refine ⟨(((Below.refl _ _).alloc (Nat.le_refl _) _).alloc (by omega) _).alloc (by omega) _, ?_, n3, s3⟩
  exact (heap_alloc_old ((w.alloc a).alloc b) c (by omega)).trans n2

/-- Four cells of a block, none frozen. -/
theorem cells4 {w : World} {b : Nat} {t : TypeId} {x0 x1 x2 x3 : Value} (h : w.heap[b]? = some (.cells #[x0, x1, x2, x3] t)) :
    (w.cell? ⟨b, 0, none⟩ = some x0 ∧ w.cell? ⟨b, 1, none⟩ = some x1 ∧ w.cell? ⟨b, 2, none⟩ = some x2 ∧ w.cell? ⟨b, 3, none⟩ = some x3) ∧ (w.frozen? ⟨b, 0, none⟩ = false ∧ w.frozen? ⟨b, 1, none⟩ = false ∧ w.frozen? ⟨b, 2, none⟩ = false ∧ w.frozen? ⟨b, 3, none⟩ = false) := by
  simp [World.cell?, World.frozen?, h]

theorem set4_0 {w : World} {b : Nat} {t : TypeId} {x0 x1 x2 x3 : Value} (h : w.heap[b]? = some (.cells #[x0, x1, x2, x3] t)) (y : Value) : (w.setCell ⟨b, 0, none⟩ y).heap[b]? = some (.cells #[y, x1, x2, x3] t) := by
  simp [World.setCell, Array.getElem?_modify, h]
theorem set4_1 {w : World} {b : Nat} {t : TypeId} {x0 x1 x2 x3 : Value} (h : w.heap[b]? = some (.cells #[x0, x1, x2, x3] t)) (y : Value) : (w.setCell ⟨b, 1, none⟩ y).heap[b]? = some (.cells #[x0, y, x2, x3] t) := by
  simp [World.setCell, Array.getElem?_modify, h]
theorem set4_2 {w : World} {b : Nat} {t : TypeId} {x0 x1 x2 x3 : Value} (h : w.heap[b]? = some (.cells #[x0, x1, x2, x3] t)) (y : Value) : (w.setCell ⟨b, 2, none⟩ y).heap[b]? = some (.cells #[x0, x1, y, x3] t) := by
  simp [World.setCell, Array.getElem?_modify, h]
theorem set4_3 {w : World} {b : Nat} {t : TypeId} {x0 x1 x2 x3 : Value} (h : w.heap[b]? = some (.cells #[x0, x1, x2, x3] t)) (y : Value) : (w.setCell ⟨b, 3, none⟩ y).heap[b]? = some (.cells #[x0, x1, x2, y] t) := by
  simp [World.setCell, Array.getElem?_modify, h]

theorem set4_all {w : World} {b : Nat} {t : TypeId} {x0 x1 x2 x3 : Value} (h : w.heap[b]? = some (.cells #[x0, x1, x2, x3] t)) (y0 y1 y2 y3 : Value) : ((((w.setCell ⟨b, 0, none⟩ y0).setCell ⟨b, 1, none⟩ y1).setCell ⟨b, 2, none⟩ y2).setCell ⟨b, 3, none⟩ y3).heap[b]? = some (.cells #[y0, y1, y2, y3] t) := by
  simp [World.setCell, Array.getElem?_modify, h]

set_option maxHeartbeats 4000000 in
theorem record_ok (d c : Int) (m : ByteArray) (v : Value) (ring : List ByteArray) (w : World) (hv : RgAt w v ring) (h1 : 1 ≤ ring.length) (h2 : ring.length ≤ 1000) :
    Calls Tryd.prog 15 #[.agg #[.int .i64 d, .int .i64 c, .string m, v]] w fun e w' => ∃ v', e = .returned (.agg #[.int .i64 d, .int .i64 c, .string m, v']) ∧ RgS w' v' ring ∧ Below w.heap.size w w' := by
  obtain ⟨g, o, cap, ev, hg, hc1, hc2, hcell⟩ := hv.mem
  subst ev
  obtain ⟨W, hW⟩ : ∃ W, W = (((w.alloc (.cells #[.int .i64 d, .int .i64 c, .string m, .slice (some ⟨g, o, none⟩) ring.length cap] 49)).alloc (.cells #[.int .i64 0, .int .i64 0, .string { data := #[] }, .slice none 0 0] 30)).alloc (.cells #[.int .i64 d, .int .i64 c, .string m, .slice (some ⟨g, o, none⟩) ring.length cap] 30)) := ⟨_, rfl⟩
  obtain ⟨hbW, hW1, hW2, hWs⟩ := alloc3 w (.cells #[.int .i64 d, .int .i64 c, .string m, .slice (some ⟨g, o, none⟩) ring.length cap] 49) (.cells #[.int .i64 0, .int .i64 0, .string { data := #[] }, .slice none 0 0] 30) (.cells #[.int .i64 d, .int .i64 c, .string m, .slice (some ⟨g, o, none⟩) ring.length cap] 30)
  rw [← hW] at hbW hW1 hW2 hWs
  have HC := hide (cloneS_ok _ ring W (hv.below hbW) h1 h2)
  generalize hL : ring.length = L at *
  have HL := hide hL
  have HW := hide hW
  have HBW := hide hbW
  clear hW hbW hv hcell hL
  go_enter Tryd.func15, Tryd.ntmps15
  go_wp2_with fail
  refine (HW.out ▸ HC.out).mono ?_
  rintro e W1 ⟨v', rfl, hr', hb1⟩
  rw [← HW.out] at hb1
  have e1 : W1.heap[w.heap.size + 1]? = some (.cells #[.int .i64 0, .int .i64 0, .string { data := #[] }, .slice none 0 0] 30) := (hb1.block _ (by omega)).trans hW1
  have e2 : W1.heap[w.heap.size + 1 + 1]? = some (.cells #[.int .i64 d, .int .i64 c, .string m, .slice (some ⟨g, o, none⟩) L cap] 30) := (hb1.block _ (by omega)).trans hW2
  have HR2 : Hid (RgS W1 v' ring) := hr'
  obtain ⟨g', o', cap', cur', fr', ev', _, hc1', hc2', _⟩ := hr'.mem
  rw [HL.out] at ev'
  subst ev'
  obtain ⟨⟨k0, k1, k2, k3⟩, f0, f1, f2, f3⟩ := cells4 e2
  obtain ⟨⟨j0, j1, j2, j3⟩, i0, i1, i2, i3⟩ := cells4 e1
  have HB1 : Hid (Below w.heap.size w W1) := HBW.out.trans (hb1.mono HBW.out.size)
  have HE2 := hide e2
  have HE1 : Hid (∀ V, (W1.setCell ⟨w.heap.size + 1 + 1, 3, none⟩ V).heap[w.heap.size + 1]? = some (.cells #[.int .i64 0, .int .i64 0, .string { data := #[] }, .slice none 0 0] 30)) := fun V => (setCell_at W1 ⟨w.heap.size + 1 + 1, 3, none⟩ V (w.heap.size + 1) (by show w.heap.size + 1 ≠ w.heap.size + 1 + 1; omega)).trans e1
  clear e1 e2 hr' hb1 HC hW1 hW2 hc1'
  go_wp2
  refine bodyPost_ret (results_cell_row (p := 2) (ty := 30) rfl _ _ (w.heap.size + 1) 30 _ _ _ rfl (set4_all (HE1.out _) _ _ _ _) Tryd.underlying30 rfl (by kernel_rfl)) rfl ?_
  refine ⟨_, rfl, ?_, ?_⟩
  · have k1 := StrK.set (a := ⟨w.heap.size + 1 + 1, 3, none⟩) HE2.out (by decide) (.slice (some ⟨g', o', none⟩) L cap')
    have z1 := HE1.out (.slice (some ⟨g', o', none⟩) L cap')
    have k2 := StrK.set (a := ⟨w.heap.size + 1, 0, none⟩) z1 (by decide) (.int .i64 d)
    have z2 := set4_0 z1 (.int .i64 d)
    have k3 := StrK.set (a := ⟨w.heap.size + 1, 1, none⟩) z2 (by decide) (.int .i64 c)
    have z3 := set4_1 z2 (.int .i64 c)
    have k4 := StrK.set (a := ⟨w.heap.size + 1, 2, none⟩) z3 (by decide) (.string m)
    have z4 := set4_2 z3 (.string m)
    have k5 := StrK.set (a := ⟨w.heap.size + 1, 3, none⟩) z4 (by decide) (.slice (some ⟨g', o', none⟩) L cap')
    exact ((((HR2.out.keep k1).keep k2).keep k3).keep k4).keep k5
  · exact ((((HB1.out.setCell (p := ⟨w.heap.size + 1 + 1, 3, none⟩) (by show w.heap.size ≤ w.heap.size + 1 + 1; omega) _).setCell (p := ⟨w.heap.size + 1, 0, none⟩) (by show w.heap.size ≤ w.heap.size + 1; omega) _).setCell (p := ⟨w.heap.size + 1, 1, none⟩) (by show w.heap.size ≤ w.heap.size + 1; omega) _).setCell (p := ⟨w.heap.size + 1, 2, none⟩) (by show w.heap.size ≤ w.heap.size + 1; omega) _).setCell (p := ⟨w.heap.size + 1, 3, none⟩) (by show w.heap.size ≤ w.heap.size + 1; omega) _

end Go.Proofs.YtffnfchekbafmaaDoor

/- Contracts: book.enter, book.fault. -/
namespace Go.Proofs.YtffnfchekbafmaaDoor
open Go.RowKit Go.Lib
set_option maxRecDepth 100000
set_option linter.unusedVariables false

theorem alloc2 (w : World) (a b : Obj) : Below w.heap.size w ((w.alloc a).alloc b) ∧ ((w.alloc a).alloc b).heap[w.heap.size]? = some a ∧ ((w.alloc a).alloc b).heap[w.heap.size + 1]? = some b ∧ ((w.alloc a).alloc b).heap.size = w.heap.size + 2 := by
  have s1 := alloc_sz w a
  have s2 := alloc_sz (w.alloc a) b
  have n1 := heap_alloc_new w a
  have n2 := heap_alloc_new (w.alloc a) b
  rw [s1] at n2 s2
  exact ⟨((Below.refl _ _).alloc (Nat.le_refl _) _).alloc (by omega) _, (heap_alloc_old (w.alloc a) b (by omega)).trans n1, n2, s2⟩

set_option maxHeartbeats 4000000 in
theorem enter_ok (d c : Int) (m : ByteArray) (v : Value) (ring : List ByteArray) (w : World) (hv : RgAt w v ring) (hm : m.size ≤ 1000000) (hr : ∀ x, x ∈ ring → x.size ≤ 1000000) (h1 : 1 ≤ ring.length) :
    Calls Tryd.prog 9 #[.agg #[.int .i64 d, .int .i64 c, .string m, v]] w fun e w' => ((MayR d c m ring ∧ ∃ v', e = .returned (.iface 49 (.agg #[.int .i64 d, .int .i64 c, .string m, v'])) ∧ RgS w' v' ring) ∨ (¬ MayR d c m ring ∧ ∃ k : Int, k ≠ 0 ∧ e = .returned (.iface 51 (.agg #[.int .i64 d, .int .i64 c, .string m, v, .int .i64 k])))) ∧ Below w.heap.size w w' := by
  obtain ⟨W, hW⟩ : ∃ W, W = ((w.alloc (.cells #[.int .i64 d, .int .i64 c, .string m, v] 30)).alloc (.cells #[.int .i64 d, .int .i64 c, .string m, v] 49)) := ⟨_, rfl⟩
  obtain ⟨hbW, hW1, hW2, hWs⟩ := alloc2 w (.cells #[.int .i64 d, .int .i64 c, .string m, v] 30) (.cells #[.int .i64 d, .int .i64 c, .string m, v] 49)
  rw [← hW] at hbW hW1 hW2 hWs
  have HM := hide (may_ok d c m v ring W (hv.below hbW) hm hr h1)
  have HR : Hid (MayR d c m ring → ∀ V, Below W.heap.size W V → Calls Tryd.prog 15 #[.agg #[.int .i64 d, .int .i64 c, .string m, v]] V fun e w' => ∃ v', e = .returned (.agg #[.int .i64 d, .int .i64 c, .string m, v']) ∧ RgS w' v' ring ∧ Below V.heap.size V w') := fun h V hV => record_ok d c m v ring V ((hv.below hbW).below hV) h1 (by have := h.few; omega)
  obtain ⟨g, o, cap, ev, _⟩ := hv.mem
  subst ev
  generalize hPM : MayR d c m ring = PM at *
  generalize ring.length = L at *
  have HW := hide hW
  have HBW := hide hbW
  have HH := hide hW2
  clear hW hbW hv hW1 hW2 hPM hr
  go_enter Tryd.func9, Tryd.ntmps9
  go_wp2_with fail
  refine (HW.out ▸ HM.out).mono ?_
  rintro e W1 ⟨⟨k, rfl, hk⟩, hb1⟩
  rw [← HW.out] at hb1
  have HB1 : Hid (Below w.heap.size w W1) := HBW.out.trans (hb1.mono HBW.out.size)
  have e2 : W1.heap[w.heap.size + 1]? = some (.cells #[.int .i64 d, .int .i64 c, .string m, .slice (some ⟨g, o, none⟩) L cap] 49) := (hb1.block _ (by omega)).trans HH.out
  obtain ⟨⟨k0, k1, k2, k3⟩, -, -, -, -⟩ := cells4 e2
  have HX := hide hb1
  have HKK := hide hk
  clear hb1 e2 HM hk
  by_cases h0 : k = 0
  · subst h0
    have HPM : Hid PM := HKK.out.1 rfl
    clear HKK
    go_wp2_with fail
    refine (HR.out HPM.out W1 HX.out).mono ?_
    rintro e W2 ⟨v', rfl, hr', hb2⟩
    have HF : Hid (Below w.heap.size w W2) := HB1.out.trans (hb2.mono HB1.out.size)
    have HR' := hide hr'
    obtain ⟨g', o', cap', cur', fr', ev', -⟩ := hr'.mem
    generalize ring.length = L' at *
    subst ev'
    clear hb2 hr'
    go_wp2
    go_ret
    exact ⟨Or.inl ⟨HPM.out, _, rfl, HR'.out⟩, HF.out⟩
  · have HN : Hid (¬ PM) := fun h => h0 (HKK.out.2 h)
    have HK0 := hide h0
    have hk : (k == 0) = false := by simpa using h0
    clear HKK h0 HR
    go_wp2
    go_ret
    exact ⟨Or.inr ⟨HN.out, _, HK0.out, rfl⟩, HB1.out⟩

/-- A peal's methods, as an interface finds them. -/
@[go_sem] theorem meth_line (k : Nat) (v : Value) (w : World) : (method (k + 1) 49 v "campanile/book.line").run Tryd.prog w = .ok (86, v) w := by kernel_rfl

@[go_sem] theorem as_peal (v : Value) (w : World) : (Instr.typeAssert (.iface 49 v) 40 51 true).run Tryd.prog w = .ok (.tuple #[.agg #[.int .i64 0, .int .i64 0, .string ⟨#[]⟩, .slice none 0 0, .int .i64 0], .bool false]) w := by kernel_rfl
@[go_sem] theorem as_refused (v : Value) (w : World) : (Instr.typeAssert (.iface 51 v) 40 51 true).run Tryd.prog w = .ok (.tuple #[v, .bool true]) w := by kernel_rfl

set_option maxHeartbeats 4000000 in
theorem fault_peal (x0 x1 x2 x3 : Value) (w : World) : Calls Tryd.prog 10 #[.iface 49 (.agg #[x0, x1, x2, x3])] w fun e w' => e = .returned (.int .i64 0) ∧ Below w.heap.size w w' := by
  go_enter Tryd.func10, Tryd.ntmps10
  go_wp2
  go_ret
  exact ⟨rfl, (Below.refl _ _).alloc (Nat.le_refl _) _⟩

set_option maxHeartbeats 4000000 in
theorem fault_refused (d c : Int) (m : ByteArray) (p : Option Addr) (n cap : Nat) (k : Int) (w : World) : Calls Tryd.prog 10 #[.iface 51 (.agg #[.int .i64 d, .int .i64 c, .string m, .slice p n cap, .int .i64 k])] w fun e w' => e = .returned (.int .i64 k) ∧ Below w.heap.size w w' := by
  go_enter Tryd.func10, Tryd.ntmps10
  go_wp2
  go_ret
  exact ⟨rfl, (Below.refl _ _).alloc (Nat.le_refl _) _⟩

end Go.Proofs.YtffnfchekbafmaaDoor

/- Plain: a line of which one byte is turned is none. -/
namespace Go.Proofs.YtffnfchekbafmaaDoor
open Go.Lib (decDigits)

theorem split_at {l : List UInt8} {p : Nat} (h : p < l.length) : l = l.take p ++ l[p] :: l.drop (p + 1) := by
  rw [List.getElem_cons_drop, List.take_append_drop]

theorem set_at9 {l : List UInt8} {p : Nat} (x : UInt8) (h : p < l.length) : l.set p x = l.take p ++ x :: l.drop (p + 1) := by
  rw [List.set_eq_take_append_cons_drop, if_pos h]

theorem fstL_pre {bs l : List UInt8} (h : fstL bs = l) : ∃ q, bs = l ++ q := ⟨bs.drop (nlA bs), by rw [← h]; unfold fstL; rw [List.take_append_drop]⟩

/-- A LINE OF WHICH ONE BYTE IS TURNED IS NONE, whatever stands behind it. -/
theorem turned_none {T rest : List UInt8} {p : Nat} {x : UInt8} (hT : Cln T) (hp : p < (lnOf T).length) (hx : (lnOf T)[p]? ≠ some x) {T' : List UInt8} (hT' : Cln T') : fstL ((lnOf T).set p x ++ rest) ≠ lnOf T' := by
  intro hf
  obtain ⟨q, hq⟩ := fstL_pre hf
  have hD := Cln.dec (chkN T)
  have hD' := Cln.dec (chkN T')
  have n35 : ∀ {l : List UInt8}, Cln l → ∀ z, z ∈ l → z ≠ 35 := fun h z hz => (h z hz).1
  have n10 : ∀ {l : List UInt8}, Cln l → ∀ z, z ∈ l → z ≠ 10 := fun h z hz => (h z hz).2
  have hl10 := line_no10 hT'
  have hR : lnOf T' ++ q = (T' ++ 35 :: decDigits (chkN T')) ++ 10 :: q := by rw [lnOf_form, List.append_assoc]; rfl
  have hR2 : lnOf T' ++ q = T' ++ 35 :: (decDigits (chkN T') ++ 10 :: q) := by rw [hR]; simp
  generalize hDD : decDigits (chkN T) = D at *
  generalize hDD' : decDigits (chkN T') = D' at *
  have hlen : (lnOf T).length = T.length + D.length + 2 := by rw [lnOf_length, hDD]
  rw [hlen] at hp
  have hform : lnOf T = T ++ 35 :: (D ++ [10]) := by unfold lnOf; rw [hDD]
  rw [hform] at hq hx
  by_cases h1 : p < T.length
  · rw [List.getElem?_append_left h1, List.getElem?_eq_getElem h1] at hx
    have hy : T[p] ≠ x := fun e => hx (by rw [e])
    have hTs := split_at h1
    rw [List.set_append_left _ _ h1, set_at9 x h1] at hq
    have ha : Cln (T.take p) := fun z hz => hT z (List.mem_of_mem_take hz)
    have hc : Cln (T.drop (p + 1)) := fun z hz => hT z (List.mem_of_mem_drop hz)
    generalize T.take p = a at *
    generalize T.drop (p + 1) = c at *
    generalize T[p] = y at *
    by_cases e35 : x = 35
    · subst e35
      rw [hR2] at hq
      have hq' : a ++ 35 :: (c ++ 35 :: (D ++ 10 :: rest)) = T' ++ 35 :: (D' ++ 10 :: q) := by rw [← hq]; simp
      obtain ⟨_, h3⟩ := cut_same (n35 ha) (n35 hT') hq'
      have h4 : (c ++ 35 :: D) ++ 10 :: rest = D' ++ 10 :: q := by rw [← h3]; simp
      obtain ⟨h5, _⟩ := cut_same (s := 10) (fun z hz => by
        rcases List.mem_append.1 hz with h | h
        · exact n10 hc z h
        · rcases List.mem_cons.1 h with h | h
          · rw [h]; decide
          · exact n10 hD z h) (n10 hD') h4
      exact n35 hD' 35 (by rw [← h5]; simp) rfl
    · by_cases e10 : x = 10
      · subst e10
        rw [hR] at hq
        have hq' : a ++ 10 :: (c ++ 35 :: (D ++ 10 :: rest)) = (T' ++ 35 :: D') ++ 10 :: q := by rw [← hq]; simp
        obtain ⟨h5, _⟩ := cut_same (n10 ha) hl10 hq'
        exact n35 ha 35 (by rw [h5]; simp) rfl
      · rw [hR2] at hq
        have hq' : (a ++ x :: c) ++ 35 :: (D ++ 10 :: rest) = T' ++ 35 :: (D' ++ 10 :: q) := by rw [← hq]; simp
        obtain ⟨h5, h6⟩ := cut_same (s := 35) (fun z hz => by
          rcases List.mem_append.1 hz with h | h
          · exact n35 ha z h
          · rcases List.mem_cons.1 h with h | h
            · rw [h]; exact e35
            · exact n35 hc z h) (n35 hT') hq'
        obtain ⟨h7, _⟩ := cut_same (n10 hD) (n10 hD') h6
        rw [← hDD, ← hDD'] at h7
        have h8 := dec_inj h7
        rw [hTs, ← h5] at h8
        exact hy (chk_one h8)
  · by_cases h2 : p = T.length
    · subst h2
      have hx35 : x ≠ 35 := fun e => hx (by rw [e]; simp)
      have hq' : T ++ x :: (D ++ 10 :: rest) = lnOf T' ++ q := by
        rw [← hq, List.set_append_right _ _ (Nat.le_refl _), Nat.sub_self, List.set_cons_zero]; simp
      rw [hR] at hq'
      by_cases e10 : x = 10
      · subst e10
        obtain ⟨h5, _⟩ := cut_same (n10 hT) hl10 hq'
        exact n35 hT 35 (by rw [h5]; simp) rfl
      · have hq2 : (T ++ x :: D) ++ 10 :: rest = (T' ++ 35 :: D') ++ 10 :: q := by rw [← hq']; simp
        obtain ⟨h5, _⟩ := cut_same (s := 10) (fun z hz => by
          rcases List.mem_append.1 hz with h | h
          · exact n10 hT z h
          · rcases List.mem_cons.1 h with h | h
            · rw [h]; exact e10
            · exact n10 hD z h) hl10 hq2
        have h6 : (35 : UInt8) ∈ T ++ x :: D := by rw [h5]; simp
        rcases List.mem_append.1 h6 with h | h
        · exact n35 hT 35 h rfl
        · rcases List.mem_cons.1 h with h | h
          · exact hx35 h.symm
          · exact n35 hD 35 h rfl
    · obtain ⟨k, hk⟩ : ∃ k, p = T.length + (k + 1) := ⟨p - T.length - 1, by omega⟩
      subst hk
      have hx' : (D ++ [10])[k]? ≠ some x := by
        rw [List.getElem?_append_right (by omega), show T.length + (k + 1) - T.length = k + 1 by omega, List.getElem?_cons_succ] at hx
        exact hx
      have hq' : T ++ 35 :: ((D ++ [10]).set k x ++ rest) = T' ++ 35 :: (D' ++ 10 :: q) := by
        have hset : (T ++ 35 :: (D ++ [10])).set (T.length + (k + 1)) x = T ++ 35 :: (D ++ [10]).set k x := by
          have h9 : (T ++ 35 :: (D ++ [10])).set (T.length + (k + 1)) x = T ++ (35 :: (D ++ [10])).set (T.length + (k + 1) - T.length) x := List.set_append_right _ _ (by omega)
          rw [h9, show T.length + (k + 1) - T.length = k + 1 by omega, List.set_cons_succ]
        rw [← hR2, ← hq, hset]; simp
      obtain ⟨h3, h4⟩ := cut_same (n35 hT) (n35 hT') hq'
      have hDe : D' = D := by rw [← hDD, ← hDD', h3]
      rw [hDe] at h4
      by_cases hkD : k < D.length
      · rw [List.getElem?_append_left hkD, List.getElem?_eq_getElem hkD] at hx'
        have hy : D[k] ≠ x := fun e => hx' (by rw [e])
        have hDs := split_at hkD
        rw [List.set_append_left _ _ hkD, set_at9 x hkD] at h4
        have ha : Cln (D.take k) := fun z hz => hD z (List.mem_of_mem_take hz)
        have hc : Cln (D.drop (k + 1)) := fun z hz => hD z (List.mem_of_mem_drop hz)
        by_cases e10 : x = 10
        · subst e10
          have h5 : D.take k ++ 10 :: (D.drop (k + 1) ++ 10 :: rest) = D ++ 10 :: q := by rw [← h4]; simp
          obtain ⟨h6, _⟩ := cut_same (n10 ha) (n10 hD) h5
          have h7 := congrArg List.length h6
          rw [List.length_take] at h7
          omega
        · have h5 : (D.take k ++ x :: D.drop (k + 1)) ++ 10 :: rest = D ++ 10 :: q := by rw [← h4]; simp
          obtain ⟨h6, _⟩ := cut_same (s := 10) (fun z hz => by
            rcases List.mem_append.1 hz with h | h
            · exact n10 ha z h
            · rcases List.mem_cons.1 h with h | h
              · rw [h]; exact e10
              · exact n10 hc z h) (n10 hD) h5
          have h7 := List.append_cancel_left (h6.trans hDs)
          injection h7 with h8 _
          exact hy h8.symm
      · have hkk : k = D.length := by omega
        subst hkk
        have hx10 : x ≠ 10 := fun e => hx' (by rw [e]; simp)
        rw [List.set_append_right _ _ (Nat.le_refl _), Nat.sub_self, List.set_cons_zero] at h4
        have h5 : D ++ x :: rest = D ++ 10 :: q := by rw [← h4]; simp
        have h6 := List.append_cancel_left h5
        injection h6 with h7 _
        exact hx10 h7

end Go.Proofs.YtffnfchekbafmaaDoor

/- Plain: opening a book: whatever is cut off, or where one byte is turned. -/
namespace Go.Proofs.YtffnfchekbafmaaDoor
open Go.Lib (decDigits)

/-- Bytes that open with just these texts' lines. -/
inductive Opn (P : List UInt8 → Prop) : List UInt8 → List (List UInt8) → Prop
  | stop {bs : List UInt8} : (∀ T, P T → fstL bs ≠ lnOf T) → Opn P bs []
  | more {bs T : List UInt8} {Ts : List (List UInt8)} : P T → fstL bs = lnOf T → Opn P (bs.drop (lnOf T).length) Ts → Opn P bs (T :: Ts)

/-- All lines. -/
def lns (Ts : List (List UInt8)) : List UInt8 := (Ts.map lnOf).flatten

theorem lns_cons (T : List UInt8) (Ts : List (List UInt8)) : lns (T :: Ts) = lnOf T ++ lns Ts := by unfold lns; rw [List.map_cons, List.flatten_cons]

theorem lns_append (A B : List (List UInt8)) : lns (A ++ B) = lns A ++ lns B := by unfold lns; rw [List.map_append, List.flatten_append]

theorem lnOf_pos (T : List UInt8) : 0 < (lnOf T).length := by rw [lnOf_length]; omega

/-- How many bytes the first so many lines are. -/
def lnE (Ts : List (List UInt8)) (j : Nat) : Nat := (lns (Ts.take j)).length

theorem lnE_cons (T : List UInt8) (Ts : List (List UInt8)) (j : Nat) : lnE (T :: Ts) (j + 1) = (lnOf T).length + lnE Ts j := by
  unfold lnE; rw [List.take_succ_cons, lns_cons, List.length_append]

theorem lnE_zero (Ts : List (List UInt8)) : lnE Ts 0 = 0 := rfl

/-- WHATEVER IS CUT OFF: the lines that are whole stay. -/
theorem opn_cut {P : List UInt8 → Prop} (hP : ∀ T, P T → Cln T) : ∀ (Ts : List (List UInt8)), (∀ T, T ∈ Ts → P T) → ∀ cut, ∃ j, j ≤ Ts.length ∧ Opn P ((lns Ts).take cut) (Ts.take j) ∧ lnE Ts j ≤ cut ∧ (j < Ts.length → cut < lnE Ts (j + 1))
  | [], _, cut => ⟨0, Nat.le_refl _, Opn.stop (fun T _ => by rw [show (lns []).take cut = [] from List.take_nil]; exact lnOf_ne_nil T), Nat.zero_le _, fun h => absurd h (by simp)⟩
  | T :: Ts, h, cut => by
    have hT := hP T (h T List.mem_cons_self)
    by_cases hc : cut < (lnOf T).length
    · refine ⟨0, Nat.zero_le _, Opn.stop (fun S _ => ?_), Nat.zero_le _, fun _ => ?_⟩
      · rw [lns_cons, List.take_append_of_le_length (Nat.le_of_lt hc), fstL_cut hT hc]
        exact lnOf_ne_nil S
      · rw [lnE_cons, lnE_zero]; exact hc
    · obtain ⟨j, h1, h2, h3, h4⟩ := opn_cut hP Ts (fun S hS => h S (List.mem_cons_of_mem _ hS)) (cut - (lnOf T).length)
      have e : (lns (T :: Ts)).take cut = lnOf T ++ (lns Ts).take (cut - (lnOf T).length) := by
        rw [lns_cons, List.take_append, List.take_of_length_le (by omega)]
      refine ⟨j + 1, by simpa using h1, ?_, by rw [lnE_cons]; omega, fun hj => ?_⟩
      · rw [List.take_succ_cons, e]
        exact Opn.more (h T List.mem_cons_self) (fstL_line hT) (by rw [List.drop_left']; exact h2; rfl)
      · rw [lnE_cons]
        have := h4 (by simpa using hj)
        omega

/-- WHERE ONE BYTE IS TURNED: the lines ahead of its line stay. -/
theorem opn_turn {P : List UInt8 → Prop} (hP : ∀ T, P T → Cln T) : ∀ (Ts : List (List UInt8)), (∀ T, T ∈ Ts → P T) → ∀ (at_ : Nat) (x : UInt8), at_ < (lns Ts).length → (lns Ts)[at_]? ≠ some x → ∃ j, j < Ts.length ∧ Opn P ((lns Ts).set at_ x) (Ts.take j) ∧ lnE Ts j ≤ at_ ∧ at_ < lnE Ts (j + 1)
  | [], _, at_, x, ha, _ => by simp [lns] at ha
  | T :: Ts, h, at_, x, ha, hx => by
    have hT := hP T (h T List.mem_cons_self)
    rw [lns_cons] at ha hx
    by_cases hc : at_ < (lnOf T).length
    · refine ⟨0, by simp, Opn.stop (fun S hS => ?_), Nat.zero_le _, ?_⟩
      · rw [lns_cons, List.set_append_left _ _ hc]
        rw [List.getElem?_append_left hc] at hx
        exact turned_none hT hc hx (hP S hS)
      · rw [lnE_cons, lnE_zero]; exact hc
    · rw [List.length_append] at ha
      rw [List.getElem?_append_right (by omega)] at hx
      obtain ⟨j, h1, h2, h3, h4⟩ := opn_turn hP Ts (fun S hS => h S (List.mem_cons_of_mem _ hS)) (at_ - (lnOf T).length) x (by omega) hx
      refine ⟨j + 1, by simpa using h1, ?_, by rw [lnE_cons]; omega, by rw [lnE_cons]; omega⟩
      rw [List.take_succ_cons, lns_cons, List.set_append_right _ _ (by omega)]
      exact Opn.more (h T List.mem_cons_self) (fstL_line hT) (by rw [List.drop_left']; exact h2; rfl)

/-- What is opened is told by the bytes alone. -/
theorem Opn.unique {P : List UInt8 → Prop} (hP : ∀ T, P T → Cln T) {bs : List UInt8} {A : List (List UInt8)} (h : Opn P bs A) : ∀ {B : List (List UInt8)}, Opn P bs B → A = B := by
  induction h with
  | stop hs =>
    intro B hB
    cases hB with
    | stop _ => rfl
    | more h1 h2 _ => exact absurd h2 (hs _ h1)
  | more h1 h2 _ ih =>
    intro B hB
    cases hB with
    | stop hs => exact absurd h2 (hs _ h1)
    | more k1 k2 k3 =>
      have e := lnOf_inj (hP _ h1) (hP _ k1) (h2.symm.trans k2)
      subst e
      rw [ih k3]

end Go.Proofs.YtffnfchekbafmaaDoor

/- Plain: a record's line is read back as that record. -/
namespace Go.Proofs.YtffnfchekbafmaaDoor
open Go.RowKit Go.Lib
set_option maxRecDepth 20000
set_option linter.unusedVariables false

theorem mem_jnF (c : UInt8) : ∀ (r : List (List UInt8)) (x : List UInt8) (b : UInt8), b ∈ jnF c x r → b = c ∨ ∃ y, y ∈ x :: r ∧ b ∈ y
  | [], x, b, h => Or.inr ⟨x, by simp, h⟩
  | y :: r, x, b, h => by
    rcases List.mem_append.1 h with h | h
    · exact Or.inr ⟨x, by simp, h⟩
    · rcases List.mem_cons.1 h with h | h
      · exact Or.inl h
      · rcases mem_jnF c r y b h with h | ⟨z, hz, hb⟩
        · exact Or.inl h
        · exact Or.inr ⟨z, List.mem_cons_of_mem _ hz, hb⟩

theorem jnB_data (c : UInt8) (x : ByteArray) (r : List ByteArray) : (jnB c (x :: r)).data.toList = jnF c x.data.toList (r.map (fun y => y.data.toList)) := by
  show (jnL c ((x :: r).map (fun x => x.data.toList))).toArray.toList = _
  rw [List.toList_toArray, List.map_cons]
  exact jnF_eq c _ _

theorem map_data_inj : ∀ {a b : List ByteArray}, a.map (fun y => y.data.toList) = b.map (fun y => y.data.toList) → a = b
  | [], [], _ => rfl
  | [], y :: b, h => by simp at h
  | x :: a, [], h => by simp at h
  | x :: a, y :: b, h => by
    rw [List.map_cons, List.map_cons] at h
    injection h with h1 h2
    rw [map_data_inj h2]
    cases x; cases y
    congr 2
    exact Array.ext' h1

theorem spN_join (c : UInt8) (n : Nat) (hn : 1 ≤ n) (x : ByteArray) (r : List ByteArray) (hl : r.length + 1 ≤ n) (h : ∀ y, y ∈ x :: r → ∀ b ∈ y.data.toList, b ≠ c) : spN c n (jnB c (x :: r)) = x :: r := by
  apply map_data_inj
  rw [spN_data]
  have e1 : (jnB c (x :: r)).size = (jnB c (x :: r)).data.toList.length := by rw [Array.length_toList]; rfl
  rw [e1, jnB_data, List.map_cons]
  have h2 := jnF_long c (r.map (fun y => y.data.toList)) x.data.toList
  rw [List.length_map] at h2
  refine spl_join c _ _ _ (by rw [List.length_map]; omega) (fun y hy b hb => ?_)
  rcases List.mem_cons.1 hy with rfl | hy
  · exact h x (by simp) b hb
  · obtain ⟨z, hz, rfl⟩ := List.mem_map.1 hy
    exact h z (List.mem_cons_of_mem _ hz) b hb

/-- The last part may hold the sign. -/
theorem spl_join4 (c : UInt8) (a b m r : List UInt8) (ha : ∀ x ∈ a, x ≠ c) (hb : ∀ x ∈ b, x ≠ c) (hm : ∀ x ∈ m, x ≠ c) : splitK [c] 0 3 (jnF c a [b, m, r]) = [a, b, m, r] := by
  show splitK [c] 0 3 (a ++ c :: (b ++ c :: (m ++ c :: r))) = _
  rw [spl_hit c 2 a _ ha, spl_hit c 1 b _ hb, spl_hit c 0 m _ hm]
  rfl

theorem spN_join4 (c : UInt8) (a b m r : ByteArray) (ha : ∀ x ∈ a.data.toList, x ≠ c) (hb : ∀ x ∈ b.data.toList, x ≠ c) (hm : ∀ x ∈ m.data.toList, x ≠ c) : spN c 4 (jnB c [a, b, m, r]) = [a, b, m, r] := by
  apply map_data_inj
  rw [spN_data]
  have e1 : (jnB c [a, b, m, r]).size = (jnB c [a, b, m, r]).data.toList.length := by rw [Array.length_toList]; rfl
  rw [e1, jnB_data]
  have h2 := jnF_long c ([b, m, r].map (fun y => y.data.toList)) a.data.toList
  simp only [List.length_map, List.length_cons, List.length_nil] at h2
  rw [show min 4 ((jnF c a.data.toList ([b, m, r].map (fun y => y.data.toList))).length + 1) - 1 = 3 by omega]
  exact spl_join4 c _ _ _ _ ha hb hm

theorem ring_sign {d c : Int} {m : ByteArray} {ring : List ByteArray} (h : MayR d c m ring) {s : UInt8} (hs : s.toNat < 128) (ho : ofn s.toNat = false) (h44 : s ≠ 44) : ∀ b ∈ (jnB 44 ring).data.toList, b ≠ s := by
  match ring, h with
  | [], h => exact absurd h.some (by decide)
  | x :: r, h =>
    intro b hb
    rw [jnB_data] at hb
    rcases mem_jnF 44 _ _ b hb with rfl | ⟨y, hy, hb2⟩
    · exact fun e => h44 e.symm
    · have : ∃ z, z ∈ x :: r ∧ y = z.data.toList := by
        rcases List.mem_cons.1 hy with rfl | hy
        · exact ⟨x, by simp, rfl⟩
        · obtain ⟨z, hz, rfl⟩ := List.mem_map.1 hy
          exact ⟨z, List.mem_cons_of_mem _ hz, rfl⟩
      obtain ⟨z, hz, rfl⟩ := this
      exact nm_sign (h.names z hz) hs ho b hb2

theorem tx_sign {d c : Nat} {m : ByteArray} {ring : List ByteArray} (h : MayR (d : Int) (c : Int) m ring) {s : UInt8} (hs : s.toNat < 48) (ho : ofn s.toNat = false) (h44 : s ≠ 44) (h124 : s ≠ 124) : ∀ b ∈ (txB d c m ring).data.toList, b ≠ s := by
  intro b hb
  unfold txB at hb
  rw [jnB_data] at hb
  rcases mem_jnF 124 _ _ b hb with rfl | ⟨y, hy, hb2⟩
  · exact fun e => h124 e.symm
  · simp only [List.map_cons, List.map_nil, List.mem_cons, List.not_mem_nil, or_false] at hy
    rcases hy with rfl | rfl | rfl | rfl
    · exact dec_sign d (Or.inl hs) b (by simpa using hb2)
    · exact dec_sign c (Or.inl hs) b (by simpa using hb2)
    · exact nm_sign h.name (by omega) ho b hb2
    · exact ring_sign h (by omega) ho h44 b hb2

theorem tx_cln {d c : Nat} {m : ByteArray} {ring : List ByteArray} (h : MayR (d : Int) (c : Int) m ring) : Cln (txB d c m ring).data.toList := fun b hb =>
  ⟨tx_sign h (s := 35) (by decide) (by decide) (by decide) (by decide) b hb, tx_sign h (s := 10) (by decide) (by decide) (by decide) (by decide) b hb⟩

theorem lnB_data (t : ByteArray) : (lnB t).data.toList = lnOf t.data.toList := by
  show (lnOf t.data.toList).toArray.toList = _
  rw [List.toList_toArray]

/-- The text ahead of '#'. -/
def hdB (line : ByteArray) : ByteArray := ⟨(Lib.cut line.data.toList [35]).1.toArray⟩

theorem hdB_size (line : ByteArray) : (hdB line).size ≤ line.size := by
  show (Lib.cut line.data.toList [35]).1.toArray.size ≤ _
  rw [List.size_toArray]
  have e : line.data.toList.length = line.size := by rw [Array.length_toList]; rfl
  unfold Lib.cut
  split
  · rw [← e]; simp [List.length_take]; omega
  · rw [← e]; exact Nat.le_refl _

/-- A RECORD'S LINE IS READ BACK. -/
theorem read_back {d c : Nat} {m : ByteArray} {ring : List ByteArray} (h : MayR (d : Int) (c : Int) m ring) : hdB (lnB (txB d c m ring)) = txB d c m ring ∧ spN 124 4 (txB d c m ring) = [⟨(decDigits d).toArray⟩, ⟨(decDigits c).toArray⟩, m, jnB 44 ring] ∧ spN 44 13 (jnB 44 ring) = ring := by
  refine ⟨?_, ?_, ?_⟩
  · unfold hdB
    rw [lnB_data]
    unfold lnOf
    rw [cut_hit 35 _ _ (fun b hb => ((tx_cln h) b hb).1)]
  · exact spN_join4 124 _ _ _ _ (fun b hb => dec_sign d (c := 124) (Or.inr (by decide)) b (by simpa using hb)) (fun b hb => dec_sign c (c := 124) (Or.inr (by decide)) b (by simpa using hb)) (nm_sign h.name (by decide) (by decide))
  · match ring, h with
    | [], h => exact absurd h.some (by decide)
    | x :: r, h => exact spN_join 44 13 (by decide) x r (by have := h.few; simp at this ⊢; omega) (fun y hy => nm_sign (h.names y hy) (by decide) (by decide))

theorem dec_back {d : Nat} (h : d ≤ 1000000) : atoiAll (⟨(decDigits d).toArray⟩ : ByteArray).data.toList = .ok (d : Int) := by
  show atoiAll (decDigits d).toArray.toList = _
  rw [List.toList_toArray]; exact atoi_dec d h

end Go.Proofs.YtffnfchekbafmaaDoor

/- Contract: book.readEntry. -/
namespace Go.Proofs.YtffnfchekbafmaaDoor
open Go.RowKit Go.Lib
set_option maxRecDepth 100000
set_option linter.unusedVariables false

/-- What reading a line comes to. -/
def RdE (line : ByteArray) (w : World) (e : Ending) (w' : World) : Prop :=
  ((∃ (d c : Nat) (m : ByteArray) (ring : List ByteArray) (v : Value), MayR (d : Int) (c : Int) m ring ∧ e = .returned (.tuple #[.iface 49 (.agg #[.int .i64 (d : Int), .int .i64 (c : Int), .string m, v]), .bool true]) ∧ RgS w' v ring ∧ lnB (txB d c m ring) = line) ∨
    (∃ ev, e = .returned (.tuple #[ev, .bool false]) ∧ ∀ (d c : Nat) (m : ByteArray) (ring : List ByteArray), MayR (d : Int) (c : Int) m ring → lnB (txB d c m ring) ≠ line)) ∧ Below w.heap.size w w'

/-- Nothing that may be has this line, unless what was read does. -/
theorem none_else {line p0 p1 p2 p3 : ByteArray} {z0 z1 : Int} (hp : spN 124 4 (hdB line) = [p0, p1, p2, p3]) (h0 : ∀ u, atoiAll p0.data.toList = .ok u → z0 = u) (h1 : ∀ u, atoiAll p1.data.toList = .ok u → z1 = u)
    {d c : Nat} {m : ByteArray} {ring : List ByteArray} (h : MayR (d : Int) (c : Int) m ring) (he : lnB (txB d c m ring) = line) : z0 = (d : Int) ∧ z1 = (c : Int) ∧ p2 = m ∧ spN 44 13 p3 = ring := by
  obtain ⟨k1, k2, k3⟩ := read_back h
  rw [← he, k1, k2] at hp
  injection hp with e0 hp
  injection hp with e1 hp
  injection hp with e2 hp
  injection hp with e3 hp
  have hd := h.d1
  have hc := h.c2
  refine ⟨h0 _ (by rw [← e0]; exact dec_back (by omega)), h1 _ (by rw [← e1]; exact dec_back (by omega)), e2.symm, by rw [← e3]; exact k3⟩

set_option maxHeartbeats 1600000 in
theorem readEntry_ok (line : ByteArray) (w : World) (hg : Glk w) (hs : line.size ≤ 100000) :
    Calls Tryd.prog 13 #[.string line] w (RdE line w) := by
  have HC := hide (cutK_ok line w hg (by omega))
  have hhd := hdB_size line
  have HS : Hid (∀ V, Below w.heap.size w V → Calls Tryd.prog 18 #[.string (hdB line), .string ⟨#[124]⟩, .int .i64 4] V fun e w' => ∃ v, e = .returned v ∧ RgS w' v (spN 124 4 (hdB line)) ∧ Below V.heap.size V w') := fun V hV => splN_ok 124 4 (hdB line) V (hg.below hV) (by omega) (by decide) (by decide)
  have HPs : Hid (∀ x, x ∈ spN 124 4 (hdB line) → x.size ≤ 100000) := fun x hx => by have := splitB_sizes _ _ _ _ hx; omega
  have HPl := hide (spN_len 124 (n := 4) (by decide) (hdB line))
  have HG := hide hg
  change Hid (Calls Tryd.prog 17 #[.string line, .string ⟨#[35]⟩] w fun e w' => ∃ b c, e = .returned (.tuple #[.string (hdB line), .string b, .bool c]) ∧ Below w.heap.size w w') at HC
  generalize hPP : RdE line w = PP at *
  have HPP := hide hPP
  clear hg hPP hhd
  obtain ⟨HB, hHB⟩ : ∃ HB, HB = hdB line := ⟨_, rfl⟩
  rw [← hHB] at HC HS HPs HPl
  have HHB := hide hHB
  clear hHB
  by_cases h4 : (spN 124 4 HB).length < 4
  · have HN : Hid (∀ (ev : Value) (w' : World), Below w.heap.size w w' → PP (.returned (.tuple #[ev, .bool false])) w') := fun ev w' hb => by
      rw [← HPP.out]
      refine ⟨Or.inr ⟨ev, rfl, fun d c m ring hm he => ?_⟩, hb⟩
      obtain ⟨k1, k2, k3⟩ := read_back hm
      rw [HHB.out, ← he, k1, k2] at h4
      exact absurd h4 (by simp)
    generalize hps : spN 124 4 HB = ps at *
    have h4' : ((ps.length : Nat) : Int) < 4 := by omega
    generalize hL : ps.length = L at *
    clear hps h4 HPs HPl
    go_enter Tryd.func13, Tryd.ntmps13
    go_wp2_with fail
    refine HC.out.mono ?_
    rintro e W1 ⟨b1, c1, rfl, hb1⟩
    have HS1 := hide (HS.out W1 hb1)
    have HB1 := hide hb1
    clear hb1 HC HS
    go_wp2_with fail
    refine HS1.out.mono ?_
    rintro e W2 ⟨v, rfl, hv, hb2⟩
    have HF : Hid (Below w.heap.size w W2) := HB1.out.trans (hb2.mono HB1.out.size)
    obtain ⟨g, o, cap, cur, fr, ev, -⟩ := hv.mem
    rw [hL] at ev
    subst ev
    clear hv hb2 HS1 hL
    have HR := hide (HN.out .nilIface W2 HF.out)
    clear HN
    go_wp2
    exact HR.out
  · obtain ⟨p0, p1, p2, p3, hp⟩ : ∃ p0 p1 p2 p3, spN 124 4 HB = [p0, p1, p2, p3] := by
      have h5 := HPl.out
      match hps : spN 124 4 HB, h4, h5 with
      | [a, b, c, d], _, _ => exact ⟨a, b, c, d, rfl⟩
      | [], h4, _ => simp at h4
      | [a], h4, _ => simp at h4
      | [a, b], h4, _ => simp at h4
      | [a, b, c], h4, _ => simp at h4
      | a :: b :: c :: d :: x :: r, _, h5 => simp at h5; omega
    rw [hp] at HS HPs
    have s0 := HPs.out p0 (by simp)
    have s1 := HPs.out p1 (by simp)
    have s2 := HPs.out p2 (by simp)
    have s3 := HPs.out p3 (by simp)
    have HU : Hid (∀ (z0 z1 : Int), (∀ u, atoiAll p0.data.toList = .ok u → z0 = u) → (∀ u, atoiAll p1.data.toList = .ok u → z1 = u) → ∀ (d c : Nat) (m : ByteArray) (ring : List ByteArray), MayR (d : Int) (c : Int) m ring → lnB (txB d c m ring) = line → z0 = (d : Int) ∧ z1 = (c : Int) ∧ p2 = m ∧ spN 44 13 p3 = ring) := fun z0 z1 h0 h1 d c m ring hm he => none_else (by rw [← HHB.out]; exact hp) h0 h1 hm he
    have HA0 : Hid (∀ V, Below w.heap.size w V → Calls Tryd.prog 19 #[.string p0] V fun e w' => ∃ (z : Int) (ev : Value), e = .returned (.tuple #[.int .i64 z, ev]) ∧ (∀ u, atoiAll p0.data.toList = .ok u → z = u) ∧ Below V.heap.size V w') := fun V hV => atoK_ok p0 V (HG.out.below hV) (by omega)
    have HA1 : Hid (∀ V, Below w.heap.size w V → Calls Tryd.prog 19 #[.string p1] V fun e w' => ∃ (z : Int) (ev : Value), e = .returned (.tuple #[.int .i64 z, ev]) ∧ (∀ u, atoiAll p1.data.toList = .ok u → z = u) ∧ Below V.heap.size V w') := fun V hV => atoK_ok p1 V (HG.out.below hV) (by omega)
    have HS3 : Hid (∀ V, Below w.heap.size w V → Calls Tryd.prog 18 #[.string p3, .string ⟨#[44]⟩, .int .i64 13] V fun e w' => ∃ v, e = .returned v ∧ RgS w' v (spN 44 13 p3) ∧ Below V.heap.size V w') := fun V hV => splN_ok 44 13 p3 V (HG.out.below hV) (by omega) (by decide) (by decide)
    have HRs : Hid (∀ x, x ∈ spN 44 13 p3 → x.size ≤ 1000000) := fun x hx => by have := splitB_sizes _ _ _ _ hx; omega
    have HR1 : Hid (1 ≤ (spN 44 13 p3).length) := splitB_pos _ _ _
    generalize hrg : spN 44 13 p3 = ring0 at *
    have HEn : Hid (∀ (z0 z1 : Int) (v : Value) V, RgS V v ring0 → Calls Tryd.prog 9 #[.agg #[.int .i64 z0, .int .i64 z1, .string p2, v]] V fun e w' => ((MayR z0 z1 p2 ring0 ∧ ∃ v', e = .returned (.iface 49 (.agg #[.int .i64 z0, .int .i64 z1, .string p2, v'])) ∧ RgS w' v' ring0) ∨ (¬ MayR z0 z1 p2 ring0 ∧ ∃ k : Int, k ≠ 0 ∧ e = .returned (.iface 51 (.agg #[.int .i64 z0, .int .i64 z1, .string p2, v, .int .i64 k])))) ∧ Below V.heap.size V w') := fun z0 z1 v V hv => enter_ok z0 z1 p2 v ring0 V hv.rg (by omega) HRs.out HR1.out
    have HLn : Hid (∀ (d c : Nat) (v : Value) V, MayR (d : Int) (c : Int) p2 ring0 → RgS V v ring0 → Below w.heap.size w V → Calls Tryd.prog 86 #[.agg #[.int .i64 (d : Int), .int .i64 (c : Int), .string p2, v]] V fun e w' => e = .returned (.string (lnB (txB d c p2 ring0))) ∧ Below V.heap.size V w') := fun d c v V hm hv hb => by
      have d1 := hm.d1
      have c2 := hm.c2
      exact line_ok d c p2 v ring0 V (HG.out.below hb).tab hv.rg (by omega) (by omega) (by have := nm_size hm.name; omega) (fun x hx => by have := nm_size (hm.names x hx); omega) hm.some hm.few
    clear hrg hp h4 HPs HPl HRs HR1
    go_enter Tryd.func13, Tryd.ntmps13
    go_wp2_with fail
    refine HC.out.mono ?_
    rintro e W1 ⟨b1, c1, rfl, hb1⟩
    have HS1 := hide (HS.out W1 hb1)
    have HB1 := hide hb1
    clear hb1 HC HS
    go_wp2_with fail
    refine HS1.out.mono ?_
    rintro e W2 ⟨v, rfl, hv, hb2⟩
    have HB2 : Hid (Below w.heap.size w W2) := HB1.out.trans (hb2.mono HB1.out.size)
    have HV := hide hv
    obtain ⟨g, o, cap, cur, fr, ev, hh, hcp, hcm, hcell⟩ := hv.mem
    change v = Value.slice (some ⟨g, o, none⟩) 4 cap at ev
    subst ev
    have HQ : Hid (∀ V, Below W2.heap.size W2 V → V.cell? ⟨g, o, none⟩ = some (.string p0) ∧ V.cell? ⟨g, o + 1, none⟩ = some (.string p1) ∧ V.cell? ⟨g, o + 2, none⟩ = some (.string p2) ∧ V.cell? ⟨g, o + 3, none⟩ = some (.string p3)) := fun V hV => by
      have k : V.heap[g]? = some (.cells cur 9 fr) := (hV.block g (Array.getElem?_eq_some_iff.1 hh).1).trans hh
      refine ⟨?_, ?_, ?_, ?_⟩ <;> rw [World.cell?, k]
      · exact hcell 0 p0 rfl
      · exact hcell 1 p1 rfl
      · exact hcell 2 p2 rfl
      · exact hcell 3 p3 rfl
    have hcap : 4 ≤ cap := hcp
    clear hv hb2 HS1 hh hcell hcp HB1
    obtain ⟨q0, q1, q2, q3⟩ := HQ.out W2 (Below.refl _ _)
    have HA := hide (HA0.out W2 HB2.out)
    clear HA0 q1 q2 q3
    go_wp2_with fail
    refine HA.out.mono ?_
    rintro e W3 ⟨z0, ev0, rfl, hz0, hb3⟩
    have HZ0 := hide hz0
    have HX3 := hide hb3
    have HB3 : Hid (Below w.heap.size w W3) := HB2.out.trans (hb3.mono HB2.out.size)
    clear hz0 hb3 HA q0
    obtain ⟨q0, q1, q2, q3⟩ := HQ.out W3 HX3.out
    have HA := hide (HA1.out W3 HB3.out)
    clear HA1 q0 q2 q3
    go_wp2_with fail
    refine HA.out.mono ?_
    rintro e W4 ⟨z1, ev1, rfl, hz1, hb4⟩
    have HZ1 := hide hz1
    have HX4 : Hid (Below W2.heap.size W2 W4) := HX3.out.trans (hb4.mono HX3.out.size)
    have HB4 : Hid (Below w.heap.size w W4) := HB3.out.trans (hb4.mono HB3.out.size)
    clear hz1 hb4 HA q1
    obtain ⟨q0, q1, q2, q3⟩ := HQ.out W4 HX4.out
    have HS4 := hide (HS3.out W4 HB4.out)
    clear HS3 q0 q1 q2
    go_wp2_with fail
    refine HS4.out.mono ?_
    rintro e W5 ⟨v3, rfl, hv3, hb5⟩
    have HX5 : Hid (Below W2.heap.size W2 W5) := HX4.out.trans (hb5.mono HX4.out.size)
    have HB5 : Hid (Below w.heap.size w W5) := HB4.out.trans (hb5.mono HB4.out.size)
    obtain ⟨q0, q1, q2, q3'⟩ := HQ.out W5 HX5.out
    have HE5 := hide (HEn.out z0 z1 v3 W5 hv3)
    obtain ⟨g3, o3, cap3, cur3, fr3, ev3, -⟩ := hv3.mem
    generalize hl0 : ring0.length = l0 at *
    subst ev3
    clear hb5 HS4 hv3 q0 q1 q3 q3' HEn hl0
    go_wp2_with fail
    refine HE5.out.mono ?_
    rintro e W6 ⟨hE, hb6⟩
    have HB6 : Hid (Below w.heap.size w W6) := HB5.out.trans (hb6.mono HB5.out.size)
    clear q2 HE5 hb6
    rcases hE with ⟨hM, v', rfl, hv'⟩ | ⟨hM, k, hk, rfl⟩
    · obtain ⟨d, rfl⟩ : ∃ d : Nat, z0 = (d : Int) := ⟨z0.toNat, by have := hM.d0; omega⟩
      obtain ⟨c, rfl⟩ : ∃ c : Nat, z1 = (c : Int) := ⟨z1.toNat, by have := hM.c1; omega⟩
      have HM := hide hM
      have HV' := hide hv'
      clear hM hv'
      go_wp2_with fail
      refine (fault_peal _ _ _ _ _).mono ?_
      rintro e W7 ⟨rfl, hb7⟩
      have HB7 : Hid (Below w.heap.size w W7) := HB6.out.trans (hb7.mono HB6.out.size)
      have HV7 := hide (HV'.out.keep (StrK.of hb7))
      clear hb7
      have HL7 := hide (HLn.out d c v' W7 HM.out HV7.out HB7.out)
      obtain ⟨g9, o9, cap9, cur9, fr9, ev9, -⟩ := HV7.out.mem
      generalize ring0.length = l9 at *
      subst ev9
      clear HLn
      by_cases he : lnB (txB d c p2 ring0) = line
      · have HFin : Hid (∀ w', Below W7.heap.size W7 w' → PP (.returned (.tuple #[.iface 49 (.agg #[.int .i64 (d : Int), .int .i64 (c : Int), .string p2, .slice (some ⟨g9, o9, none⟩) l9 cap9]), .bool true])) w') := fun w' hb => by
          rw [← HPP.out]
          exact ⟨Or.inl ⟨d, c, p2, ring0, _, HM.out, rfl, HV7.out.keep (StrK.of hb), he⟩, HB7.out.trans (hb.mono HB7.out.size)⟩
        rw [he] at HL7
        have hbq : (line.toList == line.toList) = true := by simp
        clear he
        go_wp2_with fail
        refine HL7.out.mono ?_
        rintro e W8 ⟨rfl, hb8⟩
        have HR := hide (HFin.out W8 hb8)
        clear hb8 HFin
        go_wp2
        exact HR.out
      · have HFin : Hid (∀ w', Below W7.heap.size W7 w' → PP (.returned (.tuple #[.iface 49 (.agg #[.int .i64 (d : Int), .int .i64 (c : Int), .string p2, .slice (some ⟨g9, o9, none⟩) l9 cap9]), .bool false])) w') := fun w' hb => by
          rw [← HPP.out]
          refine ⟨Or.inr ⟨_, rfl, fun d' c' m' ring' hm' he' => ?_⟩, HB7.out.trans (hb.mono HB7.out.size)⟩
          obtain ⟨e0, e1, e2, e3⟩ := HU.out d c HZ0.out HZ1.out d' c' m' ring' hm' he'
          obtain rfl : d = d' := by omega
          obtain rfl : c = c' := by omega
          subst e2 e3
          exact he he'
        generalize lnB (txB d c p2 ring0) = LN at *
        have hbq : (LN.toList == line.toList) = false := by rw [beqs_iff]; exact decide_eq_false he
        clear he
        go_wp2_with fail
        refine HL7.out.mono ?_
        rintro e W8 ⟨rfl, hb8⟩
        have HR := hide (HFin.out W8 hb8)
        clear hb8 HFin
        go_wp2
        exact HR.out
    · have HN : Hid (∀ w', Below w.heap.size w w' → ∀ ev, PP (.returned (.tuple #[ev, .bool false])) w') := fun w' hb ev => by
        rw [← HPP.out]
        refine ⟨Or.inr ⟨ev, rfl, fun d c m ring hm he => ?_⟩, hb⟩
        obtain ⟨e0, e1, e2, e3⟩ := HU.out z0 z1 HZ0.out HZ1.out d c m ring hm he
        subst e0 e1 e2 e3
        exact hM hm
      have hk0 : (k == 0) = false := by simpa using hk
      clear hM hk HU
      go_wp2_with fail
      refine (fault_refused _ _ _ _ _ _ _ _).mono ?_
      rintro e W7 ⟨rfl, hb7⟩
      have HR := hide (HN.out W7 (HB6.out.trans (hb7.mono HB6.out.size)) (.iface 51 (.agg #[.int .i64 z0, .int .i64 z1, .string p2, .slice (some ⟨g3, o3, none⟩) l0 cap3, .int .i64 k])))
      clear hb7 HN
      go_wp2
      exact HR.out

end Go.Proofs.YtffnfchekbafmaaDoor
