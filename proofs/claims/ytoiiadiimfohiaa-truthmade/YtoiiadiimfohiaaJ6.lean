/- Joined: SaB, SaC, SaD, SaE, SaF, SaL, SbS, Ark, RankInj, TrA. -/
import Derived.Test.YtoiiadiimfohiaaJ5
import Derived.Deep.Cut
import Derived.Deep.RegionHeld3
import Derived.Laws.StructEq
import Derived.Test.YtoiiadiimfohiaaJ4
import Derived.Test.YtoiiadiimfohiaaJ0
import Derived.Deep.WholeRow
import Derived.Deep.MidRow
import Derived.Test.YtoiiadiimfohiaaJ1
/- Maps that are sets of packed rows: look, len, put, take out. -/
namespace Go.Proofs.Ytoiiadiimfohiaa
open Go.RowKit Go.Maps Go.ChangeMaps
open Go.WideElems (rg)

theorem laidS : laidOutB Try.prog = true := by kernel_rfl

theorem skeyT : KeyT 85 83 .i8 where
  arr := Try.underlying85
  int := Try.underlying83
  cK := by kernel_rfl
  cE := by kernel_rfl
  ok := by kernel_rfl
  low := of_decide_eq_true (by kernel_rfl)
  keyed := Keyed.of_law (deep_law_gate laidS (of_decide_eq_true (by kernel_rfl)) (of_decide_eq_true (by kernel_rfl)) (by kernel_rfl) (by rw [Try.underlying85]))

theorem wf_i8_small (m : Nat) (h : m < 12) : (Lit.int .i8 (m : Int)).wf = true := by
  obtain rfl | rfl | rfl | rfl | rfl | rfl | rfl | rfl | rfl | rfl | rfl | rfl : m = 0 ∨ m = 1 ∨ m = 2 ∨ m = 3 ∨ m = 4 ∨ m = 5 ∨ m = 6 ∨ m = 7 ∨ m = 8 ∨ m = 9 ∨ m = 10 ∨ m = 11 := by omega
  all_goals decide

theorem okK_pm (x : Pm) : OkK .i8 x.l := ⟨x.len, fun z hz => by
  have := isRow_lt12 x.row (by rw [x.len]; exact Nat.le_refl _) z hz
  obtain ⟨m, rfl⟩ := Int.eq_ofNat_of_zero_le this.1
  exact wf_i8_small m (by simpa using this.2)⟩

theorem pm_key (x : Pm) : ∃ l, keyOf Try.prog 85 (pv x) = some l := skeyT.mk' (okK_pm x)

theorem pm_key_inj {x y : Pm} {l : Lit} (hx : keyOf Try.prog 85 (pv x) = some l) (hy : keyOf Try.prog 85 (pv y) = some l) : x = y := Pm.eq_of_l (kv_inj (skeyT.keyed.inj hx hy))

/-- Block b is a map[packed]int whose keys are these rows, each once. -/
def PSet (w : World) (b : Nat) (S : List Pm) : Prop :=
  S.Nodup ∧ ∃ D : DataW Value, w.ownsMap Try.prog 85 heldElem b S.length D ∧ Maps.size D = S.length ∧ ∀ (x : Pm) (l : Lit), keyOf Try.prog 85 (pv x) = some l → (Maps.has D l = true ↔ x ∈ S)

theorem PSet.lt {w : World} {b : Nat} {S : List Pm} (h : PSet w b S) : b < w.heap.size := by
  obtain ⟨_, D, h1, _⟩ := h; exact h1.lt

theorem PSet.of_block {w w' : World} {b : Nat} {S : List Pm} (h : PSet w b S) (hb : w'.heap[b]? = w.heap[b]?) : PSet w' b S := by
  obtain ⟨hn, D, ⟨es, c, h1, h2⟩, h3⟩ := h; exact ⟨hn, D, ⟨es, c, hb.trans h1, h2⟩, h3⟩

theorem PSet.made (w : World) : PSet (w.alloc (.map #[] 0)) w.heap.size [] :=
  ⟨List.nodup_nil, .map [], Go.World.ownsMap_made _ _ _ _, rfl, fun x l _ => by
    constructor
    · intro h; cases h
    · intro h; cases h⟩

theorem PSet.yes {w : World} {b : Nat} {S : List Pm} (h : PSet w b S) {x : Pm} (hx : x ∈ S) :
    ∃ v, (Instr.lookup 78 (.map (some b)) (pv x) true).run Try.prog w = .ok (.tuple #[v, .bool true]) w := by
  obtain ⟨_, D, hD, hs, hf⟩ := h
  obtain ⟨l, hl⟩ := pm_key x
  obtain ⟨v, ps, hrun, hv⟩ := hD.look_ok skeyT.keyed Try.underlying78 (Try.zero3 w) (zd := .held (.int .i64 0)) (zp := []) rfl hl
  exact ⟨v, by rw [hrun, (hf x l hl).2 hx]⟩

theorem PSet.no {w : World} {b : Nat} {S : List Pm} (h : PSet w b S) {x : Pm} (hx : x ∉ S) :
    ∃ v, (Instr.lookup 78 (.map (some b)) (pv x) true).run Try.prog w = .ok (.tuple #[v, .bool false]) w := by
  obtain ⟨_, D, hD, hs, hf⟩ := h
  obtain ⟨l, hl⟩ := pm_key x
  obtain ⟨v, ps, hrun, hv⟩ := hD.look_ok skeyT.keyed Try.underlying78 (Try.zero3 w) (zd := .held (.int .i64 0)) (zp := []) rfl hl
  have : Maps.has D l = false := by
    rw [Bool.eq_false_iff]
    exact fun h9 => hx ((hf x l hl).1 h9)
  exact ⟨v, by rw [hrun, this]⟩

theorem PSet.len {w : World} {b : Nat} {S : List Pm} (h : PSet w b S) (ty : TypeId) : (Builtin.len_ #[78] ty #[.map (some b)]).run Try.prog w = .ok (.int .i64 (S.length : Int)) w := by
  obtain ⟨_, D, hD, hs, hf⟩ := h
  rw [hD.len Try.underlying78, hs]

theorem PSet.put {w : World} {b : Nat} {S : List Pm} (h : PSet w b S) {x : Pm} (hn : x ∉ S) (hl : S.length < maxLen) (v : Value) :
    ∃ w', (Instr.mapUpdate 78 (.map (some b)) (pv x) v).run Try.prog w = .ok () w' ∧ PSet w' b (x :: S) ∧ w.mapTurned w' b := by
  obtain ⟨hnd, D, hD, hs, hf⟩ := h
  obtain ⟨l, hkey⟩ := pm_key x
  obtain ⟨w', hrun, hD', hg⟩ := hD.store (val := v) (d := .held v) (ps := []) skeyT.keyed Try.underlying78 hl hkey rfl
  have hk : WideAt.IsKeyLit l := skeyT.keyed.key hkey
  have hno : Maps.has D l = false := by
    rw [Bool.eq_false_iff]
    exact fun h9 => hn ((hf x l hkey).1 h9)
  refine ⟨w', hrun, ⟨List.nodup_cons.2 ⟨hn, hnd⟩, _, hD', ?_, fun y l' hl' => ?_⟩, hg⟩
  · rw [Maps.size_put (hD.tidy skeyT.keyed), hno, if_neg (by decide), hs]; rfl
  · by_cases e : y = x
    · subst e
      have : l' = l := Option.some.inj (hl'.symm.trans hkey)
      subst this
      rw [has_put_same hD.isMap hk]
      simp
    · have hne : l' ≠ l := fun h9 => e (pm_key_inj hl' (h9 ▸ hkey))
      rw [has_put_other hne, hf y l' hl']
      simp [e]

theorem PSet.drop {w : World} {b : Nat} {x : Pm} {S : List Pm} (h : PSet w b (x :: S)) (ty : TypeId) :
    ∃ w', (Builtin.delete_ #[78, 85] ty #[.map (some b), pv x]).run Try.prog w = .ok (.tuple #[]) w' ∧ PSet w' b S ∧ w.mapTurned w' b := by
  obtain ⟨hnd, D, hD, hs, hf⟩ := h
  obtain ⟨l, hkey⟩ := pm_key x
  obtain ⟨w', hrun, hD', hg⟩ := hD.drop skeyT.keyed Try.underlying78 hkey ty
  have hna := (List.nodup_cons.1 hnd).1
  have hsz : Maps.size (D.del l) = S.length := by
    have := Maps.size_del (k := l) (hD.tidy skeyT.keyed)
    rw [(hf x l hkey).2 (by simp), if_pos rfl, hs] at this
    simp at this
    exact this
  refine ⟨w', hrun, ⟨(List.nodup_cons.1 hnd).2, _, ?_, hsz, fun y l' hl' => ?_⟩, hg⟩
  · obtain ⟨es, c, r1, r2, r3, r4⟩ := hD'
    refine ⟨es, c, r1, r2, ?_, r4⟩
    have e1 : Maps.size (DataW.map ((es.toList.map (rg Try.prog 85 heldElem)).foldr DataW.insert [])) = es.size := by simp [Maps.size, length_sorted]
    rw [← r4, hsz] at e1
    omega
  · by_cases e : y = x
    · subst e
      have : l' = l := Option.some.inj (hl'.symm.trans hkey)
      subst this
      rw [has_del_same]
      simp [hna]
    · have hne : l' ≠ l := fun h9 => e (pm_key_inj hl' (h9 ▸ hkey))
      rw [has_del_other hne, hf y l' hl']
      simp [e]

theorem PSet.perm {w : World} {b : Nat} {S S' : List Pm} (h : PSet w b S) (hp : S.Perm S') : PSet w b S' := by
  obtain ⟨hnd, D, hD, hs, hf⟩ := h
  exact ⟨(hp.nodup_iff).1 hnd, D, by rw [← hp.length_eq]; exact hD, by rw [← hp.length_eq]; exact hs, fun x l hl => (hf x l hl).trans (hp.mem_iff)⟩

end Go.Proofs.Ytoiiadiimfohiaa

/- What lies under a search: rows of packed rows, leads; frames that spare one map. -/
namespace Go.Proofs.Ytoiiadiimfohiaa
open Go.RowKit Go.Maps Go.ChangeMaps

/-- All that was there is as it was, but for one block. -/
structure TB (mb : Nat) (w w' : World) : Prop where
  os : w'.os = w.os
  tape : w'.tape = w.tape
  output : w'.output = w.output
  size : w.heap.size ≤ w'.heap.size
  block : ∀ b, b < w.heap.size → b ≠ mb → w'.heap[b]? = w.heap[b]?

theorem TB.refl (mb : Nat) (w : World) : TB mb w w := ⟨rfl, rfl, rfl, Nat.le_refl _, fun _ _ _ => rfl⟩

theorem TB.trans {mb : Nat} {a b c : World} (h : TB mb a b) (k : TB mb b c) : TB mb a c :=
  ⟨k.os.trans h.os, k.tape.trans h.tape, k.output.trans h.output, Nat.le_trans h.size k.size, fun x h1 h2 => (k.block x (Nat.lt_of_lt_of_le h1 h.size) h2).trans (h.block x h1 h2)⟩

theorem TB.below {mb : Nat} {a b c : World} (h : TB mb a b) (k : Below b.heap.size b c) : TB mb a c :=
  h.trans ⟨k.os, k.tape, k.output, k.size, fun x h1 _ => k.block x h1⟩

theorem TB.alloc {mb : Nat} {a b : World} (h : TB mb a b) (o : Obj) : TB mb a (b.alloc o) := h.below ((Below.refl _ _).alloc (Nat.le_refl _) _)

theorem TB.grown {mb D : Nat} {a b c : World} (h : TB mb a b) (hg : b.grownBy c (some D)) (hD : a.heap.size ≤ D) : TB mb a c :=
  ⟨hg.os.trans h.os, hg.tape.trans h.tape, hg.output.trans h.output, Nat.le_trans h.size hg.size, fun x h1 h2 => (hg.block x (Nat.lt_of_lt_of_le h1 h.size) (by intro e; injection e with e; omega)).trans (h.block x h1 h2)⟩

theorem TB.turned {mb : Nat} {a b c : World} (h : TB mb a b) (ht : b.mapTurned c mb) : TB mb a c := by
  obtain ⟨es, k, es', k', h1, rfl⟩ := ht
  refine h.trans ⟨rfl, rfl, rfl, by simp [setBlock], fun x _ h3 => ?_⟩
  simp [setBlock, Ne.symm h3]

theorem TB.drew {mb : Nat} {a b : World} (h : TB mb a b) : TB mb a b.drew := h.trans ⟨rfl, rfl, rfl, Nat.le_refl _, fun _ _ _ => rfl⟩

theorem TB.frm {mb B sb : Nat} {a b : World} (h : TB mb a b) (hB : B ≤ a.heap.size) : Frm B sb mb a b := ⟨h.os, h.tape, h.output, h.size, fun x h1 _ h3 => h.block x (by omega) h3⟩

/-- The slice value v reads as packed rows. -/
def PmsAt (w : World) (v : Value) (X : List Pm) : Prop :=
  (X = [] ∧ ∃ p c, v = .slice p 0 c) ∨
  ∃ b off cap, v = .slice (some ⟨b, off, none⟩) X.length cap ∧ 0 < X.length ∧ X.length ≤ cap ∧ cap ≤ 9223372036854775807 ∧ b < w.heap.size ∧
    ∀ j (hj : j < X.length), w.rangeAt b (off + j * 12) (X[j].l.map (Value.int .i8))

theorem PmsAt.form {w : World} {v : Value} {X : List Pm} (h : PmsAt w v X) : ∃ p cap, v = .slice p X.length cap := by
  rcases h with ⟨rfl, p, c, rfl⟩ | ⟨b, off, cap, h1, _⟩
  · exact ⟨p, c, rfl⟩
  · exact ⟨_, cap, h1⟩

theorem range_block {w w' : World} {b o : Nat} {cs : List Value} (h : w.rangeAt b o cs) (hb : w'.heap[b]? = w.heap[b]?) : w'.rangeAt b o cs := fun j v hv => by
  rw [World.cell?_of_block (w := w) (a := ⟨b, o + j, none⟩) hb]
  exact h j v hv

theorem range_not_map {w : World} {b o mb : Nat} {cs : List Value} {es : Array MapEntry} {k : Nat} (h : w.rangeAt b o cs) (hc : 0 < cs.length) (hm : w.heap[mb]? = some (.map es k)) : b ≠ mb := by
  intro e
  subst e
  have := h 0 cs[0] (by rw [List.getElem?_eq_getElem hc])
  simp [World.cell?, hm] at this

theorem PSet.obj {w : World} {b : Nat} {S : List Pm} (h : PSet w b S) : ∃ es clock, w.heap[b]? = some (.map es clock) := by
  obtain ⟨_, D, ⟨es, c, h1, _⟩, _⟩ := h; exact ⟨es, c, h1⟩

theorem PmsAt.of_frame {w w' : World} {v : Value} {X : List Pm} {mb : Nat} {S : List Pm} (h : PmsAt w v X) (hm : PSet w mb S) (hs : w.heap.size ≤ w'.heap.size) (hb : ∀ b, b < w.heap.size → b ≠ mb → w'.heap[b]? = w.heap[b]?) : PmsAt w' v X := by
  rcases h with h | ⟨b, off, cap, h1, h2, h3, h4, h5, h6⟩
  · exact Or.inl h
  · obtain ⟨es, k, hobj⟩ := hm.obj
    have hne : b ≠ mb := range_not_map (h6 0 h2) (by rw [List.length_map, Pm.len]; decide) hobj
    exact Or.inr ⟨b, off, cap, h1, h2, h3, h4, Nat.lt_of_lt_of_le h5 hs, fun j hj => range_block (h6 j hj) (hb b h5 hne)⟩

theorem PmsAt.tb {w w' : World} {v : Value} {X : List Pm} {mb : Nat} {S : List Pm} (h : PmsAt w v X) (hm : PSet w mb S) (ht : TB mb w w') : PmsAt w' v X := h.of_frame hm ht.size ht.block

theorem PmsAt.below {w w' : World} {v : Value} {X : List Pm} (h : PmsAt w v X) (ht : Below w.heap.size w w') : PmsAt w' v X := by
  rcases h with h | ⟨b, off, cap, h1, h2, h3, h4, h5, h6⟩
  · exact Or.inl h
  · exact Or.inr ⟨b, off, cap, h1, h2, h3, h4, Nat.lt_of_lt_of_le h5 ht.size, fun j hj => range_block (h6 j hj) (ht.block b h5)⟩

theorem SAr.tb {w w' : World} {b mb : Nat} {zs : List Int} {S : List Pm} (h : SAr w b zs) (hm : PSet w mb S) (ht : TB mb w w') : SAr w' b zs := by
  obtain ⟨es, k, hobj⟩ := hm.obj
  have hne : b ≠ mb := by
    intro e
    have := h.1
    rw [e, hobj] at this
    cases this
  exact ⟨(ht.block b h.lt hne).trans h.1, h.2⟩

/-- The first of them. -/
theorem PmsAt.cut {w : World} {b off cap k N : Nat} {X : List Pm} (h : PmsAt w (.slice (some ⟨b, off, none⟩) N cap) X) (hN : X.length = N) (hk : k ≤ N) : PmsAt w (.slice (some ⟨b, off, none⟩) k cap) (X.take k) := by
  rcases Nat.eq_zero_or_pos k with rfl | h0
  · exact Or.inl ⟨rfl, _, _, rfl⟩
  rcases h with ⟨rfl, _⟩ | ⟨b', off', cap', e, h2, h3, h4, h5, h6⟩
  · simp at hN; omega
  · obtain ⟨⟨rfl, rfl⟩, _, rfl⟩ : (b = b' ∧ off = off') ∧ N = X.length ∧ cap = cap' := by simpa using e
    have hl : (X.take k).length = k := by rw [List.length_take]; omega
    refine Or.inr ⟨b, off, cap, by rw [hl], by omega, by omega, h4, h5, fun j hj => ?_⟩
    rw [List.getElem_take]
    exact h6 j (by omega)

end Go.Proofs.Ytoiiadiimfohiaa

/- Contracts: search's ring and silence. -/
namespace Go.Proofs.Ytoiiadiimfohiaa
open Go.RowKit

/-- Rows of a lead, from a head on. -/
def rws (h : Pm) (X : List Pm) : List Pm := X.map (fun x => h * x)

theorem rws_length (h : Pm) (X : List Pm) : (rws h X).length = X.length := by simp [rws]

theorem rws_take_succ (h : Pm) (X : List Pm) {i : Nat} (hi : i < X.length) : rws h (X.take (i + 1)) = rws h (X.take i) ++ [h * X[i]] := by
  unfold rws; rw [List.take_succ_eq_append_getElem hi, List.map_append]; rfl

def RingPost (mb : Nat) (h : Pm) (X S : List Pm) (w : World) (e : Ending) (w' : World) : Prop :=
  ∃ k : Nat, k ≤ X.length ∧ e = .returned (.int .i64 k) ∧ PSet w' mb ((rws h (X.take k)).reverse ++ S) ∧ TB mb w w' ∧ (∀ hk : k < X.length, h * X[k] ∈ (rws h (X.take k)).reverse ++ S)

theorem struct_cell {w w' : World} {mb sb j : Nat} {u : Value} {S : List Pm} (h : w.cell? ⟨sb, j, none⟩ = some u) (hm : PSet w mb S) (ht : TB mb w w') : w'.cell? ⟨sb, j, none⟩ = some u := by
  obtain ⟨es, k, hobj⟩ := hm.obj
  have hne : sb ≠ mb := by
    intro e
    subst e
    simp [World.cell?, hobj] at h
  rw [World.cell?_of_block (w := w) (a := ⟨sb, j, none⟩) (ht.block sb (World.block_lt_of_cell? w _ h) hne)]
  exact h

set_option maxRecDepth 20000 in
set_option maxHeartbeats 8000000 in
theorem ring_ok (sb mb : Nat) (h : Pm) (v : Value) (X S : List Pm) (w : World) (h3 : w.cell? ⟨sb, 3, none⟩ = some (.map (some mb))) (hm : PSet w mb S) (hX : PmsAt w v X) (hl : X.length ≤ 1000) (hSl : S.length ≤ 1000000) :
    Calls Try.prog 97 #[.pointer (some ⟨sb, 0, none⟩), pv h, v] w (RingPost mb h X S w) := by
  obtain ⟨p0, c0, rfl⟩ := hX.form
  have hhl := h.len
  have HX := hide hX
  have HM := hide hm
  have H3 := hide h3
  have HA0 := hide (SAr.new w h.l hhl)
  have HM0 : Hid (PSet (w.alloc (.cells (i8s h.l) 85)) mb S) := hm.of_block (Below.heap_alloc w _ mb hm.lt)
  clear hX hm h3
  unfold pv
  go_enter Try.func97, Try.ntmps97
  go_wp2
  go_loopw [13] (fun i wr => ∃ k : Nat, k ≤ X.length ∧ i = .int .i64 k ∧ Hid (PSet wr mb ((rws h (X.take k)).reverse ++ S)) ∧ Hid (SAr wr w.heap.size h.l) ∧ Hid (TB mb w wr)) (fun i _ => X.length - (intOf i).toNat)
  case atStart => exact ⟨0, by omega, rfl, HM0, HA0, (TB.refl mb w).alloc _⟩
  case round =>
    clear HA0 HM0
    obtain ⟨k, hk, rfl, hM, hA, hT⟩ := hrel
    by_cases hlt : k < X.length
    · obtain ⟨y, hy⟩ : ∃ y, X[k] = y := ⟨_, rfl⟩
      have hPX := HX.out.tb HM.out hT.out
      rcases hPX with ⟨rfl, _⟩ | ⟨b, off, cap, he, hx1, hx2, hx3, hx4, hx5⟩
      · simp at hlt
      simp only [Value.slice.injEq] at he
      obtain ⟨rfl, _, rfl⟩ := he
      have hrg := hx5 k hlt
      rw [hy] at hrg
      have hyl := y.len
      have HRT := hide (rws_take_succ h X hlt)
      rw [hy] at HRT
      have hxy := (h * y).len
      have hSz : ((rws h (X.take k)).reverse ++ S).length ≤ 2000000 := by rw [List.length_append, List.length_reverse, rws_length, List.length_take]; omega
      have HY := hide hy
      clear hx5 hy
      go_upto_region 4 with (first | refine wpList_load_mid rfl _ _ rfl b (off + k * 12) rfl (y.l.map (Value.int .i8)) _ hrg Try.underlying85 rfl (by rw [Try.size85, List.length_map, hyl]) ?_ | (refine wpList_store_sar rfl _ _ rfl wr.heap.size zeros12 y.l (szeros_new wr) rfl rfl hyl ?_; intro w1 hA1 hg1))
      have hT1 : TB mb w w1 := (hT.out.alloc _).grown hg1 hT.out.size
      have hAh1 := (hA.out.alloc (.cells (i8s zeros12) 85)).kept hg1 (by intro e; injection e with e; have := hT.out.size; have := hA.out.lt; omega)
      have hM1 : PSet w1 mb ((rws h (X.take k)).reverse ++ S) := (hM.out.of_block (w' := wr.alloc (.cells (i8s zeros12) 85)) (Below.heap_alloc wr _ mb hM.out.lt)).of_block (hg1.block mb (by have := hM.out.lt; simp; omega) (by intro e; injection e with e; have := hM.out.lt; omega))
      have HT1 := hide hT1
      have HM1 := hide hM1
      have hw1 : wr.heap.size < w1.heap.size := by have := hg1.size; simp at this; omega
      have hDlt : w.heap.size < wr.heap.size := hA.out.lt
      have hmbD : mb < wr.heap.size := hM.out.lt
      generalize hD : wr.heap.size = D at *
      clear hrg hg1 hM1 hM hA hT hT1 hD
      go_wp2_with (first | refine wpList_load_sar rfl _ rfl _ _ hAh1 rfl ?_ | refine wpList_load_sar rfl _ rfl _ _ hA1 rfl ?_)
      refine (stimes_ok h y w1).mono ?_
      unfold pv
      rintro e w2 ⟨rfl, hb2⟩
      have hA2 := hA1.below hb2 hA1.lt
      have hAh2 := hAh1.below hb2 hAh1.lt
      have HM2 := hide (HM1.out.of_block (hb2.block mb HM1.out.lt))
      have HT2 := hide (HT1.out.below hb2)
      clear hA1 hAh1 HM1 HT1 hb2
      go_upto_region 5 with (refine wpList_store_sar rfl _ _ rfl D y.l (h * y).l hA2 rfl rfl hxy ?_; intro w3 hA3 hg3)
      have hAh3 := hAh2.kept hg3 (by intro e; injection e with e; omega)
      have hT3 : TB mb w w3 := HT2.out.grown hg3 (by omega)
      have hM3 : PSet w3 mb ((rws h (X.take k)).reverse ++ S) := HM2.out.of_block (hg3.block mb HM2.out.lt (by intro e; injection e with e; omega))
      have h33 := struct_cell H3.out HM.out hT3
      have HM3 := hide hM3
      have HT3 := hide hT3
      have HAh3 := hide hAh3
      clear hA2 hAh2 HM2 HT2 hg3 hM3 hT3 hAh3
      by_cases hin : h * y ∈ (rws h (X.take k)).reverse ++ S
      · obtain ⟨lv, hlk⟩ := (HM3.out.of_block (w' := w3.drew) rfl).yes hin
        go_upto_region 5 with fail
        refine wp_region_held_drew (S := fun W' => W'.cell? ⟨sb, 3, none⟩ = some (.map (some mb)) ∧ SAr W' D (h * y).l ∧ (Instr.lookup 78 (.map (some mb)) (.agg ((h * y).l.map (Value.int .i8)).toArray) true).run Try.prog W' = .ok (.tuple #[lv, .bool true]) W') (by kernel_rfl) ⟨h33, hA3, hlk⟩ (fun hS => ?_)
        refine wpAnyH_take (i := 0) (v := .pointer (some ⟨sb, 0, none⟩)) rfl (by kernel_rfl) (by kernel_rfl) (by kernel_rfl) (fun _ _ _ h => h) (Or.inl ⟨by kernel_rfl, fun w' hS' => by obtain ⟨q0, q1, q2⟩ := hS'; go_simp⟩) hS ?_
        refine wpAnyH_take (i := 1) (v := .pointer (some ⟨sb, 0, none⟩)) rfl (by kernel_rfl) (by kernel_rfl) (by kernel_rfl) (fun _ _ _ h => h) (Or.inl ⟨by kernel_rfl, fun w' hS' => by obtain ⟨q0, q1, q2⟩ := hS'; go_simp⟩) hS ?_
        refine wpAnyH_take (i := 2) (v := .pointer (some ⟨sb, 3, none⟩)) rfl (by kernel_rfl) (by kernel_rfl) (by kernel_rfl) (fun _ _ _ h => h) (Or.inl ⟨by kernel_rfl, fun w' hS' => by obtain ⟨q0, q1, q2⟩ := hS'; go_simp⟩) hS ?_
        refine wpAnyH_take (i := 3) (v := .map (some mb)) rfl (by kernel_rfl) (by kernel_rfl) (by kernel_rfl) (fun _ _ _ h => h) (Or.inl ⟨by kernel_rfl, fun w' hS' => by obtain ⟨q0, q1, q2⟩ := hS'; go_simp⟩) hS ?_
        refine wpAnyH_take (i := 4) rfl (by kernel_rfl) (by kernel_rfl) (by kernel_rfl) (fun _ _ _ h => h) (yieldsIf_load_mid (by kernel_rfl) _ _ rfl D 0 rfl ((h * y).l.map (Value.int .i8)) _ (fun w' hS' => hS'.2.1.range) Try.underlying85 rfl (by rw [Try.size85, List.length_map, Pm.len])) hS ?_
        refine wpAnyH_take (i := 5) (v := .tuple #[lv, .bool true]) rfl (by kernel_rfl) (by kernel_rfl) (by kernel_rfl) (fun _ _ _ h => h) (Or.inl ⟨by kernel_rfl, fun w' hS' => by obtain ⟨q0, q1, q2⟩ := hS'; go_simp⟩) hS ?_
        refine wpAnyH_take (i := 6) (v := .tuple #[lv, .bool true]) rfl (by kernel_rfl) (by kernel_rfl) (by kernel_rfl) (fun _ _ _ h => h) (Or.inl ⟨by kernel_rfl, fun w' hS' => by obtain ⟨q0, q1, q2⟩ := hS'; go_simp⟩) hS ?_
        refine wpAnyH_take (i := 7) (v := lv) rfl (by kernel_rfl) (by kernel_rfl) (by kernel_rfl) (fun _ _ _ h => h) (Or.inl ⟨by kernel_rfl, fun w' hS' => by obtain ⟨q0, q1, q2⟩ := hS'; go_simp⟩) hS ?_
        refine wpAnyH_take (i := 8) (v := .bool true) rfl (by kernel_rfl) (by kernel_rfl) (by kernel_rfl) (fun _ _ _ h => h) (Or.inl ⟨by kernel_rfl, fun w' hS' => by obtain ⟨q0, q1, q2⟩ := hS'; go_simp⟩) hS ?_
        refine wpAnyH_take (i := 9) (v := lv) rfl (by kernel_rfl) (by kernel_rfl) (by kernel_rfl) (fun _ _ _ h => h) (Or.inl ⟨by kernel_rfl, fun w' hS' => by obtain ⟨q0, q1, q2⟩ := hS'; go_simp⟩) hS ?_
        refine wpAnyH_take (i := 10) (v := .bool true) rfl (by kernel_rfl) (by kernel_rfl) (by kernel_rfl) (fun _ _ _ h => h) (Or.inl ⟨by kernel_rfl, fun w' hS' => by obtain ⟨q0, q1, q2⟩ := hS'; go_simp⟩) hS ?_
        refine wpAnyH_done (by kernel_rfl) ?_ _
        clear hS hlk
        go_wp2
        go_ret
        exact ⟨k, by omega, rfl, HM3.out.of_block rfl, HT3.out.drew, fun hk' => by rw [HY.out]; exact hin⟩
      · obtain ⟨lv, hlk⟩ := (HM3.out.of_block (w' := w3.drew) rfl).no hin
        go_upto_region 5 with fail
        refine wp_region_held_drew (S := fun W' => W'.cell? ⟨sb, 3, none⟩ = some (.map (some mb)) ∧ SAr W' D (h * y).l ∧ (Instr.lookup 78 (.map (some mb)) (.agg ((h * y).l.map (Value.int .i8)).toArray) true).run Try.prog W' = .ok (.tuple #[lv, .bool false]) W') (by kernel_rfl) ⟨h33, hA3, hlk⟩ (fun hS => ?_)
        refine wpAnyH_take (i := 0) (v := .pointer (some ⟨sb, 0, none⟩)) rfl (by kernel_rfl) (by kernel_rfl) (by kernel_rfl) (fun _ _ _ h => h) (Or.inl ⟨by kernel_rfl, fun w' hS' => by obtain ⟨q0, q1, q2⟩ := hS'; go_simp⟩) hS ?_
        refine wpAnyH_take (i := 1) (v := .pointer (some ⟨sb, 0, none⟩)) rfl (by kernel_rfl) (by kernel_rfl) (by kernel_rfl) (fun _ _ _ h => h) (Or.inl ⟨by kernel_rfl, fun w' hS' => by obtain ⟨q0, q1, q2⟩ := hS'; go_simp⟩) hS ?_
        refine wpAnyH_take (i := 2) (v := .pointer (some ⟨sb, 3, none⟩)) rfl (by kernel_rfl) (by kernel_rfl) (by kernel_rfl) (fun _ _ _ h => h) (Or.inl ⟨by kernel_rfl, fun w' hS' => by obtain ⟨q0, q1, q2⟩ := hS'; go_simp⟩) hS ?_
        refine wpAnyH_take (i := 3) (v := .map (some mb)) rfl (by kernel_rfl) (by kernel_rfl) (by kernel_rfl) (fun _ _ _ h => h) (Or.inl ⟨by kernel_rfl, fun w' hS' => by obtain ⟨q0, q1, q2⟩ := hS'; go_simp⟩) hS ?_
        refine wpAnyH_take (i := 4) rfl (by kernel_rfl) (by kernel_rfl) (by kernel_rfl) (fun _ _ _ h => h) (yieldsIf_load_mid (by kernel_rfl) _ _ rfl D 0 rfl ((h * y).l.map (Value.int .i8)) _ (fun w' hS' => hS'.2.1.range) Try.underlying85 rfl (by rw [Try.size85, List.length_map, Pm.len])) hS ?_
        refine wpAnyH_take (i := 5) (v := .tuple #[lv, .bool false]) rfl (by kernel_rfl) (by kernel_rfl) (by kernel_rfl) (fun _ _ _ h => h) (Or.inl ⟨by kernel_rfl, fun w' hS' => by obtain ⟨q0, q1, q2⟩ := hS'; go_simp⟩) hS ?_
        refine wpAnyH_take (i := 6) (v := .tuple #[lv, .bool false]) rfl (by kernel_rfl) (by kernel_rfl) (by kernel_rfl) (fun _ _ _ h => h) (Or.inl ⟨by kernel_rfl, fun w' hS' => by obtain ⟨q0, q1, q2⟩ := hS'; go_simp⟩) hS ?_
        refine wpAnyH_take (i := 7) (v := lv) rfl (by kernel_rfl) (by kernel_rfl) (by kernel_rfl) (fun _ _ _ h => h) (Or.inl ⟨by kernel_rfl, fun w' hS' => by obtain ⟨q0, q1, q2⟩ := hS'; go_simp⟩) hS ?_
        refine wpAnyH_take (i := 8) (v := .bool false) rfl (by kernel_rfl) (by kernel_rfl) (by kernel_rfl) (fun _ _ _ h => h) (Or.inl ⟨by kernel_rfl, fun w' hS' => by obtain ⟨q0, q1, q2⟩ := hS'; go_simp⟩) hS ?_
        refine wpAnyH_take (i := 9) (v := lv) rfl (by kernel_rfl) (by kernel_rfl) (by kernel_rfl) (fun _ _ _ h => h) (Or.inl ⟨by kernel_rfl, fun w' hS' => by obtain ⟨q0, q1, q2⟩ := hS'; go_simp⟩) hS ?_
        refine wpAnyH_take (i := 10) (v := .bool false) rfl (by kernel_rfl) (by kernel_rfl) (by kernel_rfl) (fun _ _ _ h => h) (Or.inl ⟨by kernel_rfl, fun w' hS' => by obtain ⟨q0, q1, q2⟩ := hS'; go_simp⟩) hS ?_
        refine wpAnyH_done (by kernel_rfl) ?_ _
        clear hS hlk
        obtain ⟨w4, hput, hset4, hturn4⟩ := (HM3.out.of_block (w' := w3.drew.drew) rfl).put hin (by unfold maxLen; omega) (.int .i64 ((((rws h (X.take k)).reverse ++ S).length : Nat) : Int))
        have hput' : (Instr.mapUpdate 78 (.map (some mb)) (.agg ((h * y).l.map (Value.int .i8)).toArray) (.int .i64 ((((rws h (X.take k)).reverse ++ S).length : Nat) : Int))).run Try.prog w3.drew.drew = .ok () w4 := hput
        have hlen := (HM3.out.of_block (w' := w3.drew.drew) rfl).len
        have HSet4 : Hid (PSet w4 mb ((rws h (X.take (k + 1))).reverse ++ S)) := by
          show PSet _ _ _
          rw [HRT.out, List.reverse_append]
          exact hset4
        have HT4 := hide (HT3.out.drew.drew.turned hturn4)
        have h34 := struct_cell H3.out HM.out HT4.out
        have hA4 : SAr w4 D (h * y).l := ⟨(turned_block hturn4 (by omega)).trans hA3.1, hA3.2⟩
        have HAh4 : Hid (SAr w4 w.heap.size h.l) := ⟨(turned_block hturn4 (by intro e; have h7 := HAh3.out.1; rw [e] at h7; obtain ⟨es, ck, h8⟩ := HM3.out.obj; rw [h8] at h7; cases h7)).trans HAh3.out.1, HAh3.out.2⟩
        clear hput hset4 hturn4
        generalize (((rws h (X.take k)).reverse ++ S).length : Nat) = sl at *
        go_upto_region 8 with fail
        refine wp_region_held_drew (S := fun W' => W'.cell? ⟨sb, 3, none⟩ = some (.map (some mb)) ∧ SAr W' D (h * y).l) (by kernel_rfl) ⟨h33, hA3⟩ (fun hS => ?_)
        refine wpAnyH_take (i := 0) (v := .pointer (some ⟨sb, 0, none⟩)) rfl (by kernel_rfl) (by kernel_rfl) (by kernel_rfl) (fun _ _ _ h => h) (Or.inl ⟨by kernel_rfl, fun w' hS' => by obtain ⟨q0, q1⟩ := hS'; go_simp⟩) hS ?_
        refine wpAnyH_take (i := 1) (v := .pointer (some ⟨sb, 0, none⟩)) rfl (by kernel_rfl) (by kernel_rfl) (by kernel_rfl) (fun _ _ _ h => h) (Or.inl ⟨by kernel_rfl, fun w' hS' => by obtain ⟨q0, q1⟩ := hS'; go_simp⟩) hS ?_
        refine wpAnyH_take (i := 2) (v := .pointer (some ⟨sb, 3, none⟩)) rfl (by kernel_rfl) (by kernel_rfl) (by kernel_rfl) (fun _ _ _ h => h) (Or.inl ⟨by kernel_rfl, fun w' hS' => by obtain ⟨q0, q1⟩ := hS'; go_simp⟩) hS ?_
        refine wpAnyH_take (i := 3) (v := .map (some mb)) rfl (by kernel_rfl) (by kernel_rfl) (by kernel_rfl) (fun _ _ _ h => h) (Or.inl ⟨by kernel_rfl, fun w' hS' => by obtain ⟨q0, q1⟩ := hS'; go_simp⟩) hS ?_
        refine wpAnyH_take (i := 4) rfl (by kernel_rfl) (by kernel_rfl) (by kernel_rfl) (fun _ _ _ h => h) (yieldsIf_load_mid (by kernel_rfl) _ _ rfl D 0 rfl ((h * y).l.map (Value.int .i8)) _ (fun w' hS' => hS'.2.range) Try.underlying85 rfl (by rw [Try.size85, List.length_map, Pm.len])) hS ?_
        refine wpAnyH_take (i := 5) (v := .pointer (some ⟨sb, 0, none⟩)) rfl (by kernel_rfl) (by kernel_rfl) (by kernel_rfl) (fun _ _ _ h => h) (Or.inl ⟨by kernel_rfl, fun w' hS' => by obtain ⟨q0, q1⟩ := hS'; go_simp⟩) hS ?_
        refine wpAnyH_take (i := 6) (v := .pointer (some ⟨sb, 0, none⟩)) rfl (by kernel_rfl) (by kernel_rfl) (by kernel_rfl) (fun _ _ _ h => h) (Or.inl ⟨by kernel_rfl, fun w' hS' => by obtain ⟨q0, q1⟩ := hS'; go_simp⟩) hS ?_
        refine wpAnyH_take (i := 7) (v := .pointer (some ⟨sb, 3, none⟩)) rfl (by kernel_rfl) (by kernel_rfl) (by kernel_rfl) (fun _ _ _ h => h) (Or.inl ⟨by kernel_rfl, fun w' hS' => by obtain ⟨q0, q1⟩ := hS'; go_simp⟩) hS ?_
        refine wpAnyH_take (i := 8) (v := .map (some mb)) rfl (by kernel_rfl) (by kernel_rfl) (by kernel_rfl) (fun _ _ _ h => h) (Or.inl ⟨by kernel_rfl, fun w' hS' => by obtain ⟨q0, q1⟩ := hS'; go_simp⟩) hS ?_
        refine wpAnyH_ready (rs := [9]) (by kernel_rfl) (by simp) ?_
        refine AllReadyH.cons rfl (fun K hK => ?_) (AllReadyH.nil)
        go_simp
        refine hK.out _ _ ⟨h33, hA3⟩ (fun hS => ?_)
        clear hK
        refine wpAnyH_ready (rs := [10]) (by kernel_rfl) (by simp) ?_
        refine AllReadyH.cons rfl (fun K hK => ?_) (AllReadyH.nil)
        go_simp
        refine hK.out _ _ ⟨h34, hA4⟩ (fun hS => ?_)
        clear hK
        refine wpAnyH_done (by kernel_rfl) ?_ _
        clear hput' hlen h33 hA3 hS h34 hA4
        go_wp2
        go_roundw
        case rel => exact ⟨k + 1, by omega, by go_num, HSet4, HAh4, HT4⟩
        case measure => simp [intOf]; omega
    · obtain rfl : k = X.length := by omega
      have HM9 := hide hM.out
      have HT9 := hide hT.out
      clear hM hA hT
      go_wp2
      go_ret
      exact ⟨X.length, Nat.le_refl _, rfl, HM9.out, HT9.out, fun hk => absurd hk (by omega)⟩

end Go.Proofs.Ytoiiadiimfohiaa

/- Contract: search's silence. -/
namespace Go.Proofs.Ytoiiadiimfohiaa
open Go.RowKit

theorem PSet.dropT {w : World} {b : Nat} {x : Pm} {S : List Pm} (h : PSet w b (x :: S)) :
    ∃ w', (∀ ty, (Builtin.delete_ #[78, 85] ty #[.map (some b), pv x]).run Try.prog w = .ok (.tuple #[]) w') ∧ PSet w' b S ∧ w.mapTurned w' b := by
  obtain ⟨w', hrun, h1, h2⟩ := h.drop 0
  exact ⟨w', fun _ => hrun, h1, h2⟩

theorem rws_drop (h : Pm) (X : List Pm) {i : Nat} (hi : i < X.length) : rws h (X.drop i) = h * X[i] :: rws h (X.drop (i + 1)) := by
  unfold rws; rw [List.drop_eq_getElem_cons hi, List.map_cons]

set_option maxRecDepth 20000 in
set_option maxHeartbeats 8000000 in
theorem silence_ok (sb mb : Nat) (h : Pm) (v : Value) (X S : List Pm) (w : World) (h3 : w.cell? ⟨sb, 3, none⟩ = some (.map (some mb))) (hm : PSet w mb ((rws h X).reverse ++ S)) (hX : PmsAt w v X) (hl : X.length ≤ 1000) :
    Calls Try.prog 100 #[.pointer (some ⟨sb, 0, none⟩), pv h, v] w fun e w' => e = .returned (.tuple #[]) ∧ PSet w' mb S ∧ TB mb w w' := by
  obtain ⟨p0, c0, rfl⟩ := hX.form
  have hhl := h.len
  have HX := hide hX
  have HM := hide hm
  have H3 := hide h3
  have HA0 := hide (SAr.new w h.l hhl)
  have HM0 : Hid (PSet (w.alloc (.cells (i8s h.l) 85)) mb (rws h (X.drop 0) ++ S)) := (hm.of_block (Below.heap_alloc w _ mb hm.lt)).perm ((List.reverse_perm _).append_right _)
  clear hX hm h3
  unfold pv
  go_enter Try.func100, Try.ntmps100
  go_wp2
  go_loopw [10] (fun i wr => ∃ k : Nat, k ≤ X.length ∧ i = .int .i64 k ∧ Hid (PSet wr mb (rws h (X.drop k) ++ S)) ∧ Hid (SAr wr w.heap.size h.l) ∧ Hid (TB mb w wr)) (fun i _ => X.length - (intOf i).toNat)
  case atStart => exact ⟨0, by omega, rfl, HM0, HA0, (TB.refl mb w).alloc _⟩
  case round =>
    clear HA0 HM0
    obtain ⟨k, hk, rfl, hM, hA, hT⟩ := hrel
    by_cases hlt : k < X.length
    · obtain ⟨y, hy⟩ : ∃ y, X[k] = y := ⟨_, rfl⟩
      have hPX := HX.out.tb HM.out hT.out
      rcases hPX with ⟨rfl, _⟩ | ⟨b, off, cap, he, hx1, hx2, hx3, hx4, hx5⟩
      · simp at hlt
      simp only [Value.slice.injEq] at he
      obtain ⟨rfl, _, rfl⟩ := he
      have hrg := hx5 k hlt
      rw [hy] at hrg
      have hyl := y.len
      have HRT := hide (rws_drop h X hlt)
      rw [hy] at HRT
      clear hx5 hy
      go_upto_region 4 with (first | refine wpList_load_mid rfl _ _ rfl b (off + k * 12) rfl (y.l.map (Value.int .i8)) _ hrg Try.underlying85 rfl (by rw [Try.size85, List.length_map, hyl]) ?_ | (refine wpList_store_sar rfl _ _ rfl wr.heap.size zeros12 y.l (szeros_new wr) rfl rfl hyl ?_; intro w1 hA1 hg1))
      have hT1 : TB mb w w1 := (hT.out.alloc _).grown hg1 hT.out.size
      have hAh1 := (hA.out.alloc (.cells (i8s zeros12) 85)).kept hg1 (by intro e; injection e with e; have := hT.out.size; have := hA.out.lt; omega)
      have hM1 : PSet w1 mb (h * y :: (rws h (X.drop (k + 1)) ++ S)) := by
        have h9 := (hM.out.of_block (w' := wr.alloc (.cells (i8s zeros12) 85)) (Below.heap_alloc wr _ mb hM.out.lt)).of_block (hg1.block mb (by have := hM.out.lt; simp; omega) (by intro e; injection e with e; have := hM.out.lt; omega))
        rw [HRT.out] at h9
        exact h9
      have HT1 := hide hT1
      have HM1 := hide hM1
      have h31 := struct_cell H3.out HM.out hT1
      have hDlt : w.heap.size < wr.heap.size := hA.out.lt
      have hmbD : mb < wr.heap.size := hM.out.lt
      generalize hD : wr.heap.size = D at *
      clear hrg hg1 hM1 hM hA hT hT1 hD
      refine wp_region_held_drew (S := fun W' => W'.cell? ⟨sb, 3, none⟩ = some (.map (some mb)) ∧ SAr W' w.heap.size h.l ∧ SAr W' D y.l) (by kernel_rfl) ⟨h31, hAh1, hA1⟩ (fun hS => ?_)
      refine wpAnyH_take (i := 0) (v := .pointer (some ⟨sb, 0, none⟩)) rfl (by kernel_rfl) (by kernel_rfl) (by kernel_rfl) (fun _ _ _ h => h) (Or.inl ⟨by kernel_rfl, fun w' hS' => by obtain ⟨q0, q1, q2⟩ := hS'; go_simp⟩) hS ?_
      refine wpAnyH_take (i := 1) (v := .pointer (some ⟨sb, 0, none⟩)) rfl (by kernel_rfl) (by kernel_rfl) (by kernel_rfl) (fun _ _ _ h => h) (Or.inl ⟨by kernel_rfl, fun w' hS' => by obtain ⟨q0, q1, q2⟩ := hS'; go_simp⟩) hS ?_
      refine wpAnyH_take (i := 2) (v := .pointer (some ⟨sb, 3, none⟩)) rfl (by kernel_rfl) (by kernel_rfl) (by kernel_rfl) (fun _ _ _ h => h) (Or.inl ⟨by kernel_rfl, fun w' hS' => by obtain ⟨q0, q1, q2⟩ := hS'; go_simp⟩) hS ?_
      refine wpAnyH_take (i := 3) (v := .map (some mb)) rfl (by kernel_rfl) (by kernel_rfl) (by kernel_rfl) (fun _ _ _ h => h) (Or.inl ⟨by kernel_rfl, fun w' hS' => by obtain ⟨q0, q1, q2⟩ := hS'; go_simp⟩) hS ?_
      refine wpAnyH_take (i := 4) rfl (by kernel_rfl) (by kernel_rfl) (by kernel_rfl) (fun _ _ _ h => h) (yieldsIf_load_mid (by kernel_rfl) _ _ rfl w.heap.size 0 rfl (h.l.map (Value.int .i8)) _ (fun w' hS' => hS'.2.1.range) Try.underlying85 rfl (by rw [Try.size85, List.length_map, Pm.len])) hS ?_
      refine wpAnyH_take (i := 5) rfl (by kernel_rfl) (by kernel_rfl) (by kernel_rfl) (fun _ _ _ h => h) (yieldsIf_load_mid (by kernel_rfl) _ _ rfl D 0 rfl (y.l.map (Value.int .i8)) _ (fun w' hS' => hS'.2.2.range) Try.underlying85 rfl (by rw [Try.size85, List.length_map, Pm.len])) hS ?_
      refine wpAnyH_ready (rs := [6]) (by kernel_rfl) (by simp) ?_
      refine AllReadyH.cons rfl (fun K hK => ?_) (AllReadyH.nil)
      go_simp
      refine (stimes_ok h y w1.drew).mono ?_
      rintro e w2 ⟨rfl, hb2⟩
      have hb2' : Below w1.heap.size w1 w2 := ((Below.refl _ _).drew).trans hb2
      have HM2 : Hid (PSet w2 mb (h * y :: (rws h (X.drop (k + 1)) ++ S))) := HM1.out.of_block (hb2'.block mb HM1.out.lt)
      have HT2 := hide (HT1.out.below hb2')
      have h32 := struct_cell H3.out HM.out HT2.out
      have hAh2 := hAh1.below hb2' hAh1.lt
      have hA2 := hA1.below hb2' hA1.lt
      refine hK.out _ _ ⟨h32, hAh2, hA2⟩ (fun hS => ?_)
      clear hK hb2
      obtain ⟨w3, hdrop, hset3, hturn3⟩ := HM2.out.dropT
      have HSet3 := hide hset3
      have HT3 := hide (HT2.out.turned hturn3)
      have h33 := struct_cell H3.out HM.out HT3.out
      have hmbh : w.heap.size ≠ mb := by intro e; have h7 := hAh2.1; rw [e] at h7; obtain ⟨es, ck, h8⟩ := HM2.out.obj; rw [h8] at h7; cases h7
      have hAh3 : SAr w3 w.heap.size h.l := ⟨(turned_block hturn3 hmbh).trans hAh2.1, hAh2.2⟩
      have hA3 : SAr w3 D y.l := ⟨(turned_block hturn3 (by omega)).trans hA2.1, hA2.2⟩
      clear hturn3 hset3
      unfold pv at hdrop
      refine wpAnyH_ready (rs := [7]) (by kernel_rfl) (by simp) ?_
      refine AllReadyH.cons rfl (fun K hK => ?_) (AllReadyH.nil)
      unfold pv
      go_simp
      refine hK.out _ _ ⟨h33, hAh3, hA3⟩ (fun hS => ?_)
      clear hK
      refine wpAnyH_done (by kernel_rfl) ?_ _
      have HAh3 := hide hAh3
      clear hdrop hS h33 hA3 hAh3 h32 hAh2 hA2 h31 hAh1 hA1
      go_wp2
      go_roundw
      case rel => exact ⟨k + 1, by omega, by go_num, HSet3, HAh3, HT3⟩
      case measure => simp [intOf]; omega
    · obtain rfl : k = X.length := by omega
      have HM9 : Hid (PSet wr mb S) := by
        have := hM.out
        rw [List.drop_length] at this
        exact this
      have HT9 := hide hT.out
      clear hM hA hT
      go_wp2
      exact bodyPost_end (results_none rfl _ _ _) rfl ⟨rfl, HM9.out, HT9.out⟩

end Go.Proofs.Ytoiiadiimfohiaa

/- Packed rows held against each other; plain: what a search finds. -/
namespace Go.Proofs.Ytoiiadiimfohiaa
open Go.RowKit Go.Maps

theorem KeyT.lits {K E : TypeId} {q : IntKind} (h : KeyT K E q) {zs : List Int} (hz : OkK q zs) : (kv q zs).formed Try.prog K = true ∧ ∃ ls, Try.prog.keyLits (Try.prog.types.size + 1) K (kv q zs).cells.toList = some ls := by
  obtain ⟨hl, hw⟩ := hz
  have hf : (kv q zs).formed Try.prog K = true := by
    unfold kv Value.formed
    rw [h.arr]
    simp [h.cK, hl]
  refine ⟨hf, ?_⟩
  have hcs : (kv q zs).cells.toList = zs.map (Value.int q) := by simp [kv, Value.cells]
  rw [hcs]
  unfold Program.keyLits
  rw [h.arr]
  simp only
  rw [if_pos (by simp [h.cK, hl])]
  obtain ⟨ys, hys⟩ := mapM_some (fun i => Try.prog.keyLits Try.prog.types.size E (((zs.map (Value.int q)).drop (i * Try.prog.cellsOf E)).take (Try.prog.cellsOf E))) (List.range 12) (fun i hi => by
    have hi' : i < zs.length := by rw [hl]; simpa using hi
    refine ⟨[.int q zs[i]], ?_⟩
    rw [h.cE, Nat.mul_one]
    have e : ((zs.map (Value.int q)).drop i).take 1 = [.int q zs[i]] := by
      rw [List.drop_eq_getElem_cons (by simpa using hi')]
      simp
    rw [e]
    obtain ⟨d, hd⟩ : ∃ d, Try.prog.types.size = d + 1 := pos_succ _ (Nat.lt_of_le_of_lt (Nat.zero_le _) h.low)
    rw [hd]
    unfold Program.keyLits
    rw [h.int]
    simp [hw zs[i] (List.getElem_mem hi')])
  exact ⟨ys.flatten, by rw [hys]; rfl⟩

theorem KeyT.same {K E : TypeId} {q : IntKind} (h : KeyT K E q) {zs zs' : List Int} (hz : OkK q zs) (hz' : OkK q zs') (e : Try.prog.keyLits (Try.prog.types.size + 1) K (kv q zs).cells.toList = Try.prog.keyLits (Try.prog.types.size + 1) K (kv q zs').cells.toList) :
    keyOf Try.prog K (kv q zs) = keyOf Try.prog K (kv q zs') := by
  unfold keyOf
  rw [h.arr]
  simp only
  rw [(h.lits hz).1, (h.lits hz').1, e]

theorem peq (x y : Pm) (w : World) : ∃ r : Bool, (binOp .eql 85 (.agg (i8s x.l)) (.agg (i8s y.l))).run Try.prog w = .ok (.bool r) w ∧ (r = true ↔ x = y) := by
  obtain ⟨f1, l1, h1⟩ := skeyT.lits (okK_pm x)
  obtain ⟨f2, l2, h2⟩ := skeyT.lits (okK_pm y)
  obtain ⟨r, hr, hiff⟩ := run_equalIn_deep (P := Try.prog) 9997 3 85 (by kernel_rfl) w _ _ _ _ l1 l2 f1 f2 h1 h2
  refine ⟨r, ?_, hiff.trans ⟨fun e => ?_, fun e => ?_⟩⟩
  · rw [run_eql_struct]
    have hr' : (Op.equalIn 10000 85 (.agg (i8s x.l)) (.agg (i8s y.l))).run Try.prog w = .ok r w := hr
    rw [hr']
    rfl
  · obtain ⟨lx, hx⟩ := pm_key x
    have hk := skeyT.same (okK_pm x) (okK_pm y) (by rw [h1, h2, e])
    exact pm_key_inj hx (hk ▸ hx)
  · subst e
    rw [h1] at h2
    exact Option.some.inj h2

/-! what a search finds -/
section
open Classical

/-- Is a lead rung from a head on without a row that was rung? -/
def okl (S : List Pm) (h : Pm) (X : List Pm) : Prop := ((rws h X).reverse ++ S).Nodup

/-- All touches of so many leads more that are true and come round, in order. -/
noncomputable def sols (G : List (List Pm × Pm)) : Nat → List Pm → Pm → List (List Nat)
  | 0, _, h => if h = 1 then [[]] else []
  | l + 1, S, h => (List.range G.length).flatMap (fun c => if okl S h (G.getD c ([], 1)).1 then (sols G l ((rws h (G.getD c ([], 1)).1).reverse ++ S) (h * (G.getD c ([], 1)).2)).map (fun t => c :: t) else [])

/-- .. by one call. -/
noncomputable def solBy (G : List (List Pm × Pm)) (l : Nat) (S : List Pm) (h : Pm) (c : Nat) : List (List Nat) :=
  if okl S h (G.getD c ([], 1)).1 then (sols G l ((rws h (G.getD c ([], 1)).1).reverse ++ S) (h * (G.getD c ([], 1)).2)).map (fun t => c :: t) else []

/-- .. by the first calls. -/
noncomputable def solTo (G : List (List Pm × Pm)) (l : Nat) (S : List Pm) (h : Pm) (k : Nat) : List (List Nat) := (List.range k).flatMap (solBy G l S h)

end

theorem sols_succ (G : List (List Pm × Pm)) (l : Nat) (S : List Pm) (h : Pm) : sols G (l + 1) S h = solTo G l S h G.length := rfl

theorem solTo_succ (G : List (List Pm × Pm)) (l : Nat) (S : List Pm) (h : Pm) (k : Nat) : solTo G l S h (k + 1) = solTo G l S h k ++ solBy G l S h k := by
  unfold solTo; rw [List.range_succ, List.flatMap_append]; simp

/-- How many beginnings there are at most. -/
def bnd (C : Nat) : Nat → Nat
  | 0 => 0
  | l + 1 => C * (1 + bnd C l)

/-- What is found, so many at most. -/
def fnd (many : Nat) (F : List (List Nat)) (P : List Nat) (A : List (List Nat)) : List (List Nat) := (F ++ A.map (fun t => P ++ t)).take many

theorem fnd_nil {many : Nat} {F : List (List Nat)} (P : List Nat) (h : F.length ≤ many) : fnd many F P [] = F := by
  unfold fnd; rw [List.map_nil, List.append_nil, List.take_of_length_le h]

theorem fnd_full {many : Nat} {F : List (List Nat)} {P : List Nat} {A : List (List Nat)} (B : List (List Nat)) (h : ¬ (fnd many F P A).length < many) : fnd many F P (A ++ B) = fnd many F P A := by
  unfold fnd at h ⊢
  rw [List.map_append, ← List.append_assoc]
  have h1 : many ≤ (F ++ A.map (fun t => P ++ t)).length := by
    rw [List.length_take] at h
    omega
  rw [List.take_append_of_le_length h1]

theorem fnd_more {many : Nat} {F : List (List Nat)} {P : List Nat} {A : List (List Nat)} (B : List (List Nat)) (h : (fnd many F P A).length < many) : fnd many (fnd many F P A) P B = fnd many F P (A ++ B) := by
  have h1 : (F ++ A.map (fun t => P ++ t)).length < many := by
    unfold fnd at h
    rw [List.length_take] at h
    omega
  unfold fnd
  rw [List.take_of_length_le (Nat.le_of_lt h1), List.map_append, List.append_assoc]

theorem fnd_len (many : Nat) (F : List (List Nat)) (P : List Nat) (A : List (List Nat)) : (fnd many F P A).length ≤ many := by unfold fnd; rw [List.length_take]; omega

theorem fnd_call (many : Nat) (F : List (List Nat)) (P : List Nat) (c : Nat) (A : List (List Nat)) : fnd many F (P ++ [c]) A = fnd many F P (A.map (fun t => c :: t)) := by
  unfold fnd
  rw [List.map_map]
  congr 2
  refine List.map_congr_left (fun t _ => ?_)
  simp

end Go.Proofs.Ytoiiadiimfohiaa

/- Plain: what a search finds is just what is true and comes round, in the order of lists. -/
namespace Go.Proofs.Ytoiiadiimfohiaa
open Go.RowKit

/-- The rows of a touch from a head on, without the last one. -/
def tRows (G : List (List Pm × Pm)) : Pm → List Nat → List Pm
  | _, [] => []
  | h, c :: t => rws h (G.getD c ([], 1)).1 ++ tRows G (h * (G.getD c ([], 1)).2) t

/-- .. and the last one. -/
def tEnd (G : List (List Pm × Pm)) : Pm → List Nat → Pm
  | h, [] => h
  | h, c :: t => tEnd G (h * (G.getD c ([], 1)).2) t

theorem ltl_irrefl : ∀ x : List Nat, ¬ Ltl x x
  | [], h => h
  | a :: x, h => by
    rcases (show a < a ∨ (a = a ∧ Ltl x x) from h) with h1 | ⟨_, h1⟩
    · omega
    · exact ltl_irrefl x h1

theorem solBy_mem {G : List (List Pm × Pm)} {l : Nat} {S : List Pm} {h : Pm} {c : Nat} {t : List Nat} (ht : t ∈ solBy G l S h c) : ∃ u, t = c :: u := by
  unfold solBy at ht
  split at ht
  · obtain ⟨u, _, rfl⟩ := List.mem_map.1 ht
    exact ⟨u, rfl⟩
  · cases ht

theorem solTo_heads {G : List (List Pm × Pm)} {l : Nat} {S : List Pm} {h : Pm} {k : Nat} {t : List Nat} (ht : t ∈ solTo G l S h k) : ∃ c u, c < k ∧ t = c :: u := by
  unfold solTo at ht
  obtain ⟨c, hc, ht'⟩ := List.mem_flatMap.1 ht
  obtain ⟨u, rfl⟩ := solBy_mem ht'
  exact ⟨c, u, by simpa using hc, rfl⟩

theorem map_sorted {A : List (List Nat)} (c : Nat) (h : A.Pairwise Ltl) : (A.map (fun t => c :: t)).Pairwise Ltl := by
  rw [List.pairwise_map]
  exact h.imp (fun hab => Or.inr ⟨rfl, hab⟩)

theorem sols_sorted (G : List (List Pm × Pm)) : ∀ (l : Nat) (S : List Pm) (h : Pm), (sols G l S h).Pairwise Ltl
  | 0, S, h => by
    unfold sols
    split
    · exact List.pairwise_singleton _ _
    · exact List.Pairwise.nil
  | l + 1, S, h => by
    rw [sols_succ]
    have key : ∀ k, (solTo G l S h k).Pairwise Ltl := by
      intro k
      induction k with
      | zero => exact List.Pairwise.nil
      | succ k ih =>
        rw [solTo_succ, List.pairwise_append]
        refine ⟨ih, ?_, fun a ha b hb => ?_⟩
        · unfold solBy
          split
          · exact map_sorted k (sols_sorted G l _ _)
          · exact List.Pairwise.nil
        · obtain ⟨c, u, hc, rfl⟩ := solTo_heads ha
          obtain ⟨v, rfl⟩ := solBy_mem hb
          exact Or.inl hc
    exact key G.length

/-- Is a touch true from here on, and does it come round? -/
def TrueFrom (G : List (List Pm × Pm)) : List Pm → Pm → List Nat → Prop
  | _, h, [] => h = 1
  | S, h, c :: t => okl S h (G.getD c ([], 1)).1 ∧ TrueFrom G ((rws h (G.getD c ([], 1)).1).reverse ++ S) (h * (G.getD c ([], 1)).2) t

theorem sols_mem (G : List (List Pm × Pm)) : ∀ (l : Nat) (S : List Pm) (h : Pm) (t : List Nat), t ∈ sols G l S h ↔ t.length = l ∧ (∀ c, c ∈ t → c < G.length) ∧ TrueFrom G S h t
  | 0, S, h, t => by
    unfold sols
    constructor
    · intro ht
      split at ht
      · rename_i h1
        rw [List.mem_singleton] at ht
        subst ht
        exact ⟨rfl, (fun c hc => by cases hc), h1⟩
      · cases ht
    · rintro ⟨h1, _, h3⟩
      obtain rfl : t = [] := List.length_eq_zero_iff.1 h1
      rw [if_pos (show h = 1 from h3)]
      simp
  | l + 1, S, h, t => by
    rw [sols_succ]
    unfold solTo
    rw [List.mem_flatMap]
    constructor
    · rintro ⟨c, hc, ht⟩
      unfold solBy at ht
      split at ht
      · rename_i hok
        obtain ⟨u, hu, rfl⟩ := List.mem_map.1 ht
        obtain ⟨h1, h2, h3⟩ := (sols_mem G l _ _ u).1 hu
        refine ⟨by simp [h1], fun x hx => ?_, hok, h3⟩
        rcases List.mem_cons.1 hx with rfl | hx
        · simpa using hc
        · exact h2 x hx
      · cases ht
    · rintro ⟨h1, h2, h3⟩
      cases t with
      | nil => simp at h1
      | cons c u =>
        refine ⟨c, by simpa using h2 c (by simp), ?_⟩
        unfold solBy
        rw [if_pos h3.1]
        exact List.mem_map.2 ⟨u, (sols_mem G l _ _ u).2 ⟨by simpa using h1, fun x hx => h2 x (List.mem_cons_of_mem _ hx), h3.2⟩, rfl⟩

theorem trueFrom_iff (G : List (List Pm × Pm)) : ∀ (t : List Nat) (S : List Pm) (h : Pm), S.Nodup → (TrueFrom G S h t ↔ (S ++ tRows G h t).Nodup ∧ tEnd G h t = 1)
  | [], S, h, hS => by
    unfold TrueFrom tRows tEnd
    simp [hS]
  | c :: t, S, h, hS => by
    have hp : ((rws h (G.getD c ([], 1)).1).reverse ++ S).Perm (S ++ rws h (G.getD c ([], 1)).1) := List.perm_append_comm.trans ((List.reverse_perm _).append_left S)
    have hp2 : (((rws h (G.getD c ([], 1)).1).reverse ++ S) ++ tRows G (h * (G.getD c ([], 1)).2) t).Perm (S ++ tRows G h (c :: t)) := by
      refine (hp.append_right _).trans ?_
      rw [List.append_assoc]
      exact List.Perm.refl _
    constructor
    · rintro ⟨hok, h2⟩
      obtain ⟨h3, h4⟩ := (trueFrom_iff G t _ _ hok).1 h2
      exact ⟨hp2.nodup_iff.1 h3, h4⟩
    · rintro ⟨h3, h4⟩
      have h5 := hp2.nodup_iff.2 h3
      have hok : okl S h (G.getD c ([], 1)).1 := (List.nodup_append.1 h5).1
      exact ⟨hok, (trueFrom_iff G t _ _ hok).2 ⟨h5, h4⟩⟩

/-- What a search for so many leads finds. -/
theorem found_iff (G : List (List Pm × Pm)) (l : Nat) (t : List Nat) : t ∈ sols G l [] 1 ↔ t.length = l ∧ (∀ c, c ∈ t → c < G.length) ∧ (tRows G 1 t).Nodup ∧ tEnd G 1 t = 1 := by
  rw [sols_mem, trueFrom_iff G t [] 1 List.nodup_nil, List.nil_append]

/-- What is not among the first so many is behind the last of them. -/
theorem behind {A : List (List Nat)} (hA : A.Pairwise Ltl) {g : List Nat} (hg : g ∈ A) {m : Nat} (hm : 1 ≤ m) (hno : g ∉ A.take m) : (A.take m).length = m ∧ Ltl ((A.take m).getD (m - 1) []) g := by
  obtain ⟨j, hj, e⟩ := List.getElem_of_mem hg
  have hmj : m ≤ j := by
    rcases Nat.lt_or_ge j m with h | h
    · exfalso
      apply hno
      rw [← e, show A[j] = (A.take m)[j]'(by rw [List.length_take]; omega) from by rw [List.getElem_take]]
      exact List.getElem_mem _
    · exact h
  have hl : (A.take m).length = m := by rw [List.length_take]; omega
  refine ⟨hl, ?_⟩
  rw [List.getD, List.getElem?_eq_getElem (by omega), Option.getD_some, List.getElem_take, ← e]
  exact List.pairwise_iff_getElem.1 hA (m - 1) j (by omega) hj (by omega)

theorem fnd_top (many : Nat) (A : List (List Nat)) : fnd many [] [] A = A.take many := by
  unfold fnd
  rw [List.nil_append]
  congr 1
  exact (List.map_congr_left (fun t _ => List.nil_append t)).trans (List.map_id _)

/-- A touch from a head on is the touch, changed. -/
theorem tRows_head (G : List (List Pm × Pm)) : ∀ (t : List Nat) (h k : Pm), tRows G (h * k) t = (tRows G k t).map (fun x => h * x) ∧ tEnd G (h * k) t = h * tEnd G k t
  | [], h, k => ⟨rfl, rfl⟩
  | c :: t, h, k => by
    obtain ⟨h1, h2⟩ := tRows_head G t h (k * (G.getD c ([], 1)).2)
    constructor
    · show rws (h * k) _ ++ tRows G (h * k * _) t = (rws k _ ++ tRows G (k * _) t).map _
      rw [List.map_append, ← h1, Pm.mul_assoc]
      congr 1
      unfold rws
      rw [List.map_map]
      exact List.map_congr_left (fun x _ => Pm.mul_assoc h k x)
    · show tEnd G (h * k * _) t = h * tEnd G (k * _) t
      rw [← h2, Pm.mul_assoc]

end Go.Proofs.Ytoiiadiimfohiaa

/- Contract: the answer's TouchMay, at a touch that may be. -/
namespace Go.Proofs.Ytoiiadiimfohiaa
open Go.RowKit
set_option maxRecDepth 20000
set_option linter.unusedVariables false

set_option maxHeartbeats 4000000 in
theorem rtmay_ok (s : ByteArray) (n : Nat) (vp : Option Addr) (vc : Nat) (X : List (List Int)) (cv : Value) (cs : List (Int × List (List Int))) (lv : Value) (t : List Nat) (w : World) (hs : s.size ≤ 1048576) (hn : isN (arunes s) = true) (h1 : 2 ≤ n) (h2 : n ≤ 12) (hl1 : 1 ≤ X.length) (hl2 : X.length ≤ 200)
    (hv : IntsAll w (.slice vp X.length vc) X) (hX : ∀ k, k < X.length → okc n 0 (X.getD k []) = true) (hcv : CallsAt w cv cs) (hco : CallsOk n X.length cs) (hc1 : 1 ≤ cs.length) (hc2 : cs.length ≤ 8) (hI : Ints w lv (nI t)) (ht1 : 1 ≤ t.length) (ht2 : t.length ≤ 400) (hin : ∀ c, c ∈ t → c < cs.length) (htl : t.length * X.length ≤ 20000) :
    Calls Try.prog 7 #[.agg #[.string s, .int .i64 n, .slice vp X.length vc], cv, lv] w fun e w' => e = .returned (.int .i64 0) ∧ Below w.heap.size w w' := by
  have HB0 := hide ((Below.refl w.heap.size w).alloc (Nat.le_refl _) (mbox s n (.slice vp X.length vc)))
  have HCM := hide (rcalls_ok s n vp vc X cv cs (w.alloc (mbox s n (.slice vp X.length vc))) hs hn h1 h2 hl1 hl2 (hv.below HB0.out) hX (hcv.below HB0.out) hco hc1 hc2)
  obtain ⟨m, hm⟩ : ∃ m, Hid (X.length = m) := ⟨_, rfl⟩
  obtain ⟨cb, co, cc, rfl, _, hcc1, hcc2, _⟩ := hcv
  obtain ⟨C, hC⟩ : ∃ C, Hid (cs.length = C) := ⟨_, rfl⟩
  obtain ⟨T, hT⟩ : ∃ T, Hid (t.length = T) := ⟨_, rfl⟩
  obtain ⟨lp, lc, rfl⟩ : ∃ lp lc, lv = .slice lp T lc := by
    obtain ⟨p, c, e⟩ := hI.form
    rw [show (nI t).length = T from by simp [nI]; exact hT.out] at e
    exact ⟨p, c, e⟩
  have HL : ∀ k, k < T → Hid (∃ lb lo, lp = some ⟨lb, lo, none⟩ ∧ T ≤ lc ∧ lc ≤ 9223372036854775807 ∧ lb < w.heap.size ∧ t.getD k 0 < C ∧ w.cell? ⟨lb, lo + k, none⟩ = some (.int .i64 ((t.getD k 0 : Nat) : Int))) := fun k hk => by
    have hkt : k < t.length := by rw [hT.out]; exact hk
    have hcC : t.getD k 0 < C := by rw [← hC.out]; exact hin _ (by simp [List.getD, hkt])
    rcases hI with ⟨e, _⟩ | ⟨b, off, cap, e, h0, h1', h2', h3', hc⟩
    · exfalso
      have : t = [] := by simpa [nI] using e
      rw [this] at hkt
      simp at hkt
    · injection e with e1 e2 e3
      subst e3
      refine ⟨b, off, e1, by omega, h2', h3', hcC, ?_⟩
      rw [hc k (by simp [nI]; exact hkt)]
      simp [nI, List.getD, hkt]
  rw [hm.out, hC.out] at HCM
  rw [hm.out] at HB0 htl ⊢
  rw [hC.out] at hcc1 hc1 hc2 ⊢
  rw [hT.out] at htl ht1 ht2
  obtain ⟨d0, d1, d2⟩ := mbox_cells w s n (.slice vp m vc)
  have hmul : (T : Int) * (m : Int) = ((T * m : Nat) : Int) := (Int.natCast_mul T m).symm
  generalize T * m = tm at *
  clear hv hX hco hI hin
  go_enter Try.func7, Try.ntmps7
  go_wp2_with fail
  refine HCM.out.mono ?_
  rintro e w1 ⟨rfl, hb1⟩
  have k2 : w1.cell? ⟨w.heap.size, 2, none⟩ = some (.slice vp m vc) := by rw [hb1.cell (p := ⟨w.heap.size, 2, none⟩) (by simp)]; exact d2
  have HB1 := hide (HB0.out.trans (hb1.mono HB0.out.size))
  clear hb1 HB0 HCM d0 d1 d2
  have g3 : ¬ (T : Int) < 1 := by omega
  have g4 : ¬ 400 < (T : Int) := by omega
  go_wp2
  go_loop [8] (fun i => ∃ k : Nat, k ≤ T ∧ i = .int .i64 k) (fun i => T - (intOf i).toNat)
  case atStart => exact ⟨0, by omega, rfl⟩
  case round =>
    obtain ⟨k, hk, rfl⟩ := hrel
    by_cases hlt : k < T
    · obtain ⟨lb, lo, rfl, hlc1, hlc2, hlb, hcC, hlcell⟩ := (HL k hlt).out
      have gx := (HB1.out.cell (p := ⟨lb, lo + k, none⟩) hlb).trans hlcell
      generalize t.getD k 0 = c at *
      have g5 : ¬ (c : Int) < 0 := by omega
      have g6 : ¬ (C : Int) ≤ (c : Int) := by omega
      clear hlcell HL
      go_wp2
      go_round
      case rel => exact ⟨k + 1, by omega, by go_num⟩
      case measure => simp [intOf]; omega
    · have g7 : ¬ 20000 < (tm : Int) := by omega
      go_wp2
      go_ret
      exact ⟨rfl, HB1.out⟩

end Go.Proofs.Ytoiiadiimfohiaa

namespace Go.Proofs.Ytoiiadiimfohiaa
open Go.RowKit

/-- Numbers as the cells of an array of ints. -/
def i64s (zs : List Int) : Array Value := (zs.map (Value.int .i64)).toArray

theorem i64s_size (zs : List Int) : (i64s zs).size = zs.length := by simp [i64s]

theorem i64s_get {zs : List Int} {j : Nat} (h : j < zs.length) : (i64s zs)[j]? = some (.int .i64 (zs.getD j 0)) := by
  simp [i64s, List.getD, h]

theorem i64s_one (zs : List Int) : (i64s zs).all (·.oneCell') = true := by
  rw [Array.all_eq_true_iff_forall_mem]
  intro v hv
  simp [i64s] at hv
  obtain ⟨a, _, rfl⟩ := hv
  rfl

/-- A block that is an array of twelve int. -/
def Ark (w : World) (b : Nat) (zs : List Int) : Prop := w.heap[b]? = some (.cells (i64s zs) 101) ∧ zs.length = 12

theorem Try.size101 : (Try.prog.info? 101).map (·.size) = some 12 := by kernel_rfl

theorem Ark.lt {w : World} {b : Nat} {zs : List Int} (h : Ark w b zs) : b < w.heap.size := (Array.getElem?_eq_some_iff.1 h.1).1

theorem Ark.cell {w : World} {b j : Nat} {zs : List Int} (h : Ark w b zs) (hj : j < 12) : w.cell? ⟨b, j, none⟩ = some (.int .i64 (zs.getD j 0)) ∧ w.frozen? ⟨b, j, none⟩ = false := by
  obtain ⟨h1, h2⟩ := h
  constructor
  · rw [cell_of_row _ _ j _ _ _ h1]; exact i64s_get (by omega)
  · simp [World.frozen?, h1]

theorem Ark.at {w : World} {b j : Nat} {zs : List Int} (h : Ark w b zs) (hj : j < 12) : ∃ y, Hid (zs.getD j 0 = y) ∧ w.cell? ⟨b, j, none⟩ = some (.int .i64 y) ∧ w.frozen? ⟨b, j, none⟩ = false :=
  ⟨_, rfl, (h.cell hj).1, (h.cell hj).2⟩

theorem i64s_set (zs : List Int) (k : Nat) (y : Int) : (i64s zs).setIfInBounds k (.int .i64 y) = i64s (zs.set k y) := by
  apply Array.toList_inj.1
  simp [i64s]

theorem Ark.set {w : World} {b k : Nat} {zs : List Int} (h : Ark w b zs) (y : Int) : Ark (w.setCell ⟨b, k, none⟩ (.int .i64 y)) b (zs.set k y) := by
  refine ⟨?_, by rw [List.length_set]; exact h.2⟩
  rw [← i64s_set]
  simp [World.setCell, Array.getElem?_modify, h.1]

theorem Ark.kept {w w' : World} {b : Nat} {zs : List Int} {row : Option Nat} (h : Ark w b zs) (hg : w.grownBy w' row) (hr : row ≠ some b) : Ark w' b zs :=
  ⟨(hg.block b h.lt (fun e => hr e.symm)).trans h.1, h.2⟩

theorem Ark.alloc {w : World} {b : Nat} {zs : List Int} (h : Ark w b zs) (o : Obj) : Ark (w.alloc o) b zs := ⟨by rw [Below.heap_alloc w o b h.lt]; exact h.1, h.2⟩

theorem Ark.drew {w : World} {b : Nat} {zs : List Int} (h : Ark w b zs) : Ark w.drew b zs := h

theorem Ark.below {w w' : World} {b B : Nat} {zs : List Int} (h : Ark w b zs) (hb : Below B w w') (hB : b < B) : Ark w' b zs := ⟨by rw [hb.block b hB]; exact h.1, h.2⟩

theorem Ark.new (w : World) (zs : List Int) (hl : zs.length = 12) : Ark (w.alloc (.cells (i64s zs) 101)) w.heap.size zs := ⟨heap_alloc_last w _, hl⟩

theorem Ark.range {w : World} {b : Nat} {zs : List Int} (h : Ark w b zs) : w.rangeAt b 0 (zs.map (Value.int .i64)) := by
  intro j v hv
  have hj : j < zs.length := by have := (List.getElem?_eq_some_iff.1 hv).1; simpa using this
  rw [Nat.zero_add, (h.cell (by rw [← h.2]; exact hj)).1]
  rw [← hv]
  simp [List.getD, hj]

def zerosK : List Int := [0, 0, 0, 0, 0, 0, 0, 0, 0, 0, 0, 0]

theorem zeros_ark (w : World) : Ark (w.alloc (.cells #[.int .i64 0, .int .i64 0, .int .i64 0, .int .i64 0, .int .i64 0, .int .i64 0, .int .i64 0, .int .i64 0, .int .i64 0, .int .i64 0, .int .i64 0, .int .i64 0] 101)) w.heap.size zerosK :=
  Ark.new w zerosK rfl

/-- The whole array is read. -/
theorem wpList_load_ark {ops : Array Oper} {rest : List Oper} {op : Oper} {a : Act} {w : World} {Q : Exit → Act → World → Prop} (hgd : op.guard = none) (x : Operand) (ho : op.op = .load 101 x)
    (b : Nat) (zs : List Int) (hA : Ark w b zs) (hx : a.eval x = .pointer (some ⟨b, 0, none⟩))
    (h : wpList Try.prog ops Q rest (a.put op.dst (.agg (i64s zs))) w) : wpList Try.prog ops Q (op :: rest) a w :=
  wpList_load_mid hgd _ x ho b 0 hx (zs.map (Value.int .i64)) _ hA.range Try.underlying101 rfl (by rw [Try.size101, List.length_map, hA.2]) h

theorem run_load_ark {w : World} {b : Nat} {zs : List Int} (hA : Ark w b zs) : (Instr.loadAt 101 (.pointer (some ⟨b, 0, none⟩))).run Try.prog w = .ok (.agg (i64s zs)) w :=
  run_loadAt_mid w b 0 _ (zs.map (Value.int .i64)) _ hA.range Try.underlying101 rfl (by rw [Try.size101, List.length_map, hA.2])

/-- .. and written. -/
theorem run_store_ark {w : World} {b : Nat} {zs ys : List Int} (hA : Ark w b zs) (hl : ys.length = 12) : ∃ w', (Instr.storeAt 101 (.pointer (some ⟨b, 0, none⟩)) (.agg (i64s ys))).run Try.prog w = .ok () w' ∧ Ark w' b ys ∧ w.grownBy w' (some b) := by
  refine ⟨w.setRow b (i64s ys), ?_, ⟨?_, hl⟩, ⟨rfl, rfl, rfl, by simp [World.setRow], fun i hi hne => ?_⟩⟩
  · simp only [Instr.storeAt, Instr.sureAddr, Sem.run_bind, Sem.run_pure, Result.andThen]
    exact run_storeVar_row w b _ _ _ _ hA.1 (by rw [Try.size101, i64s_size, hl]) (by rw [i64s_size, i64s_size, hl, hA.2]) (i64s_one ys)
  · simp [World.setRow, Array.getElem?_modify, hA.1]
  · simp only [World.setRow, Array.getElem?_modify]
    rw [if_neg (fun e => hne (by rw [e]))]

theorem wpList_store_ark {ops : Array Oper} {rest : List Oper} {op : Oper} {a : Act} {w : World} {Q : Exit → Act → World → Prop} (hgd : op.guard = none) (x y : Operand) (ho : op.op = .store 101 x y)
    (b : Nat) (zs ys : List Int) (hA : Ark w b zs) (hx : a.eval x = .pointer (some ⟨b, 0, none⟩)) (hy : a.eval y = .agg (i64s ys)) (hl : ys.length = 12)
    (h : ∀ w', Ark w' b ys → w.grownBy w' (some b) → wpList Try.prog ops Q rest (a.put op.dst undef) w') : wpList Try.prog ops Q (op :: rest) a w := by
  refine wpList_plain hgd fun K hK => ?_
  obtain ⟨w', hrun, h1, h2⟩ := run_store_ark (ys := ys) hA hl
  unfold Oper.wp execOp
  simp only [ho, hx, hy, hrun, Sem.run_bind, Sem.run_pure, Result.andThen_ok]
  exact hK _ _ (h w' h1 h2)

theorem run_loadVar_ark {w : World} {b : Nat} {zs : List Int} (hA : Ark w b zs) : (loadVar 101 ⟨b, 0, none⟩).run Try.prog w = .ok (.agg (i64s zs)) w :=
  run_loadVar_mid w b 0 _ (zs.map (Value.int .i64)) _ hA.range Try.underlying101 rfl (by rw [Try.size101, List.length_map, hA.2])

theorem Ark.set_other {w : World} {b b' k : Nat} {zs : List Int} (h : Ark w b zs) (hne : b ≠ b') (u : Value) : Ark (w.setCell ⟨b', k, none⟩ u) b zs :=
  ⟨by rw [Below.heap_setCell _ _ _ _ (by exact hne)]; exact h.1, h.2⟩

/-- The result that lies in a cell. -/
theorem ret_ark {fn : Func} {R : Ending → World → Prop} {a : Act} {w : World} {p : Tmp} {b : Nat} {zs : List Int} (h : fn.results = #[.cell p 101]) (hp : a.tmps.getD p undef = .pointer (some ⟨b, 0, none⟩)) (hA : Ark w b zs) (hd : a.defers = []) (hR : R (.returned (.agg (i64s zs))) w) : bodyPost Try.prog fn R .ret a w :=
  bodyPost_ret (results_cell_row h a.tmps w b 101 (i64s zs) (0, 0) _ hp hA.1 Try.underlying101 rfl (by rw [Try.size101, i64s_size, hA.2])) hd hR

theorem Ark.new1 (w : World) (o1 : Obj) {zs : List Int} (hl : zs.length = 12) : Ark ((w.alloc o1).alloc (.cells (i64s zs) 101)) (w.heap.size + 1) zs := by
  have := Ark.new (w.alloc o1) zs hl
  simpa using this
theorem Ark.new2 (w : World) (o1 o2 : Obj) {zs : List Int} (hl : zs.length = 12) : Ark (((w.alloc o1).alloc o2).alloc (.cells (i64s zs) 101)) (w.heap.size + 2) zs := by
  have := Ark.new1 (w.alloc o1) o2 hl
  simpa using this
theorem Ark.new3 (w : World) (o1 o2 o3 : Obj) {zs : List Int} (hl : zs.length = 12) : Ark ((((w.alloc o1).alloc o2).alloc o3).alloc (.cells (i64s zs) 101)) (w.heap.size + 3) zs := by
  have := Ark.new2 (w.alloc o1) o2 o3 hl
  simpa using this


end Go.Proofs.Ytoiiadiimfohiaa

/- Plain: rows of as many bells with one rank are one. -/
namespace Go.Proofs.Ytoiiadiimfohiaa

theorem cnt_cons (x z : Int) (l : List Int) : cnt x (z :: l) = (if z < x then 1 else 0) + cnt x l := by
  unfold cnt
  by_cases h : z < x
  · rw [List.filter_cons_of_pos (by simpa using h), if_pos h, List.length_cons]; omega
  · rw [List.filter_cons_of_neg (by simpa using h), if_neg h]; omega

theorem cnt_mono {x y : Int} (h : x < y) (l : List Int) : cnt x l ≤ cnt y l ∧ (x ∈ l → cnt x l < cnt y l) := by
  induction l with
  | nil => exact ⟨Nat.le_refl _, fun h => by cases h⟩
  | cons z l ih =>
    rw [cnt_cons, cnt_cons]
    refine ⟨?_, fun hm => ?_⟩
    · split <;> split <;> omega
    · rcases List.mem_cons.1 hm with rfl | hm
      · rw [if_neg (by omega), if_pos h]; omega
      · have := ih.2 hm
        split <;> split <;> omega

theorem rankR_lt : ∀ l : List Int, rankR l < fct l.length
  | [] => by decide
  | x :: xs => by
    have ih := rankR_lt xs
    have hc := cnt_le x xs
    show cnt x xs * fct xs.length + rankR xs < (xs.length + 1) * fct xs.length
    have h1 : cnt x xs * fct xs.length ≤ xs.length * fct xs.length := Nat.mul_le_mul_right _ hc
    rw [Nat.add_mul, Nat.one_mul]
    omega

theorem rankR_inj : ∀ (a b : List Int), a.Perm b → a.Nodup → rankR a = rankR b → a = b
  | [], b, hp, _, _ => (List.nil_perm.1 hp).symm
  | x :: xs, [], hp, _, _ => absurd hp.length_eq (by simp)
  | x :: xs, y :: ys, hp, hn, he => by
    have hl : xs.length = ys.length := by simpa using hp.length_eq
    have h1 := rankR_lt xs
    have h2 := rankR_lt ys
    have he' : cnt x xs * fct xs.length + rankR xs = cnt y ys * fct ys.length + rankR ys := he
    rw [← hl] at he' h2
    have hG := fct_pos xs.length
    have hc : cnt x xs = cnt y ys := by
      have e1 : (cnt x xs * fct xs.length + rankR xs) / fct xs.length = cnt x xs := by
        rw [Nat.mul_comm, Nat.mul_add_div hG, Nat.div_eq_of_lt h1]; rfl
      have e2 : (cnt y ys * fct xs.length + rankR ys) / fct xs.length = cnt y ys := by
        rw [Nat.mul_comm, Nat.mul_add_div hG, Nat.div_eq_of_lt h2]; rfl
      rw [← e1, ← e2, he']
    have hr : rankR xs = rankR ys := by rw [hc] at he'; omega
    have c1 : cnt x (x :: xs) = cnt x xs := by rw [cnt_cons, if_neg (by omega)]; omega
    have c2 : cnt y (y :: ys) = cnt y ys := by rw [cnt_cons, if_neg (by omega)]; omega
    have exy : x = y := by
      rcases Int.lt_trichotomy x y with h | h | h
      · have h3 := (cnt_mono h (x :: xs)).2 List.mem_cons_self
        rw [cnt_perm hp (x := y), c1, c2] at h3
        omega
      · exact h
      · have h3 := (cnt_mono h (y :: ys)).2 List.mem_cons_self
        rw [← cnt_perm hp (x := x), c1, c2] at h3
        omega
    subst exy
    rw [rankR_inj xs ys ((List.perm_cons x).1 hp) (List.nodup_cons.1 hn).2 hr]

theorem rank_inj {a b : List Int} (ha : isRow a) (hb : isRow b) (hl : b.length = a.length) (h : rkTo a a.length = rkTo b b.length) : a = b := by
  rw [rkTo_all, rkTo_all] at h
  refine rankR_inj a b ((row_perm_rnd ha).trans ?_) ha.2 h
  rw [← hl]
  exact (row_perm_rnd hb).symm

end Go.Proofs.Ytoiiadiimfohiaa

/- Plain: the rows that lead from rows to rows. -/
namespace Go.Proofs.Ytoiiadiimfohiaa
open Go.RowKit

/-- What undoes a row. -/
def un (r : List Int) : List Int := (List.range r.length).map (fun (i : Nat) => ((((List.range r.length).find? (fun j => r.getD j 0 == (i : Int))).getD 0 : Nat) : Int))

theorem un_undoes {r : List Int} (hr : isRow r) : Undoes (un r) r := by
  refine ⟨by simp [un], fun j hj => ?_⟩
  have h1 := hr.at hj
  obtain ⟨m, hm⟩ := Int.eq_ofNat_of_zero_le h1.1
  have hm2 : m < r.length := by omega
  rw [hm, Int.toNat_natCast]
  have e : (un r).getD m 0 = ((((List.range r.length).find? (fun j => r.getD j 0 == (m : Int))).getD 0 : Nat) : Int) := by
    simp [un, List.getD, hm2]
  rw [e]
  cases hf : (List.range r.length).find? (fun j => r.getD j 0 == (m : Int)) with
  | none =>
    have := List.find?_eq_none.1 hf j (List.mem_range.2 hj)
    simp only [beq_iff_eq] at this
    exact absurd hm this
  | some j' =>
    have h2 := List.find?_some hf
    have h3 := List.mem_range.1 (List.mem_of_find?_eq_some hf)
    simp only [beq_iff_eq] at h2
    have := hr.inj h3 hj (by rw [h2]; exact hm.symm)
    rw [this]
    rfl

theorem undoes_un {zs r : List Int} (hr : isRow r) (h : Undoes zs r) : zs = un r := by
  have hu := un_undoes hr
  refine List.ext_getElem (by rw [h.1, hu.1]) (fun i h1 h2 => ?_)
  have hi : i < r.length := by rw [← h.1]; exact h1
  obtain ⟨j, hj, e⟩ := isRow_onto hr hi
  have a1 := h.2 j hj
  have a2 := hu.2 j hj
  rw [e, Int.toNat_natCast] at a1 a2
  simp only [List.getD, List.getElem?_eq_getElem h1, List.getElem?_eq_getElem h2, Option.getD_some] at a1 a2
  rw [a1, a2]

structure Rw (n : Nat) (r : List Int) : Prop where
  row : isRow r
  len : r.length = n

theorem Rw.un {n : Nat} {r : List Int} (h : Rw n r) : Rw n (un r) := ⟨isRow_undoes h.row (un_undoes h.row), by rw [(un_undoes h.row).1, h.len]⟩

theorem Rw.by {n : Nat} {a b : List Int} (ha : Rw n a) (hb : Rw n b) : Rw n (by_ a b) := ⟨isRow_by ha.row hb.row (by rw [ha.len, hb.len]), by rw [by_length, hb.len]⟩

theorem Rw.rnd (n : Nat) : Rw n (rnd n) := ⟨isRow_rnd n, rnd_length n⟩

theorem Rw.pad_un {n : Nat} (h12 : n ≤ 12) {r : List Int} (h : Rw n r) : pad (Go.Proofs.Ytoiiadiimfohiaa.un r) = (pad r)⁻¹ := pad_undoes (by rw [h.len]; exact h12) h.row (un_undoes h.row)

theorem Rw.pad_by {n : Nat} (h12 : n ≤ 12) {a b : List Int} (ha : Rw n a) (hb : Rw n b) : pad (by_ a b) = pad a * pad b := Go.Proofs.Ytoiiadiimfohiaa.pad_by (by rw [ha.len]; exact h12) ha.row hb.row (by rw [ha.len, hb.len])

theorem Rw.eq {n : Nat} (h12 : n ≤ 12) {a b : List Int} (ha : Rw n a) (hb : Rw n b) (h : pad a = pad b) : a = b := pad_inj (by rw [ha.len]; exact h12) ha.row hb.row (by rw [ha.len, hb.len]) h

/-- All rows that make one of another. -/
def pr (L : List (List Int)) : List (List Int) := L.flatMap (fun one => L.map (fun other => by_ other (un one)))

def stp1 (n : Nat) (acc : List (List Int)) (h : List Int) : List (List Int) := if h = rnd n ∨ h ∈ acc then acc else acc ++ [h]

def hdsTo (n : Nat) (ps : List (List Int)) : List (List Int) := ps.foldl (stp1 n) []

theorem hdsTo_snoc (n : Nat) (ps : List (List Int)) (h : List Int) : hdsTo n (ps ++ [h]) = stp1 n (hdsTo n ps) h := by simp [hdsTo, List.foldl_append]

theorem snoc_ind {α : Type} {p : List α → Prop} (h0 : p []) (h1 : ∀ l x, p l → p (l ++ [x])) (l : List α) : p l := by
  have key : ∀ r : List α, p r.reverse := fun r => by
    induction r with
    | nil => simpa using h0
    | cons x r ih => rw [List.reverse_cons]; exact h1 _ _ ih
  have := key l.reverse
  rwa [List.reverse_reverse] at this

theorem sum_const {α : Type} (c : Nat) : ∀ l : List α, (l.map (fun _ => c)).sum = l.length * c
  | [] => by simp
  | _ :: l => by rw [List.map_cons, List.sum_cons, sum_const c l, List.length_cons, Nat.succ_mul]; omega

theorem hdsTo_fact (n : Nat) (ps : List (List Int)) : (hdsTo n ps).Nodup ∧ (∀ h, h ∈ hdsTo n ps ↔ h ∈ ps ∧ h ≠ rnd n) ∧ (hdsTo n ps).length ≤ ps.length := by
  refine snoc_ind (p := fun ps => (hdsTo n ps).Nodup ∧ (∀ h, h ∈ hdsTo n ps ↔ h ∈ ps ∧ h ≠ rnd n) ∧ (hdsTo n ps).length ≤ ps.length) ?_ ?_ ps
  · exact ⟨by simp [hdsTo], by simp [hdsTo], by simp [hdsTo]⟩
  · intro ps x ih
    obtain ⟨a1, a2, a3⟩ := ih
    rw [hdsTo_snoc]
    unfold stp1
    by_cases hx : x = rnd n ∨ x ∈ hdsTo n ps
    · rw [if_pos hx]
      refine ⟨a1, fun h => ?_, by rw [List.length_append]; exact Nat.le_trans a3 (Nat.le_add_right _ _)⟩
      rw [a2 h, List.mem_append, List.mem_singleton]
      constructor
      · exact fun ⟨b1, b2⟩ => ⟨Or.inl b1, b2⟩
      · rintro ⟨b1 | rfl, b2⟩
        · exact ⟨b1, b2⟩
        · exact (a2 h).1 (hx.resolve_left b2)
    · rw [if_neg hx]
      have hx1 : x ≠ rnd n := fun e => hx (Or.inl e)
      have hx2 : x ∉ hdsTo n ps := fun e => hx (Or.inr e)
      refine ⟨List.nodup_append.2 ⟨a1, by simp, fun a ha b hb => by simp at hb; subst hb; exact fun e => hx2 (e ▸ ha)⟩, fun h => ?_, by simp; exact a3⟩
      rw [List.mem_append, a2 h, List.mem_append, List.mem_singleton]
      constructor
      · rintro (⟨b1, b2⟩ | rfl)
        · exact ⟨Or.inl b1, b2⟩
        · exact ⟨Or.inr rfl, hx1⟩
      · rintro ⟨b1 | rfl, b2⟩
        · exact Or.inl ⟨b1, b2⟩
        · exact Or.inr rfl

theorem pr_mem {L : List (List Int)} {h : List Int} : h ∈ pr L ↔ ∃ one, one ∈ L ∧ ∃ other, other ∈ L ∧ by_ other (un one) = h := by
  simp [pr, List.mem_flatMap, List.mem_map]

theorem pr_rows {n : Nat} {L : List (List Int)} (hL : ∀ r, r ∈ L → Rw n r) : ∀ h, h ∈ pr L → Rw n h := by
  intro h hh
  obtain ⟨one, h1, other, h2, rfl⟩ := pr_mem.1 hh
  exact (hL _ h2).by (hL _ h1).un

theorem pr_un {n : Nat} (h12 : n ≤ 12) {L : List (List Int)} (hL : ∀ r, r ∈ L → Rw n r) {h : List Int} (hh : h ∈ pr L) : un h ∈ pr L := by
  obtain ⟨one, h1, other, h2, rfl⟩ := pr_mem.1 hh
  refine pr_mem.2 ⟨other, h2, one, h1, ?_⟩
  have r1 := hL _ h1
  have r2 := hL _ h2
  refine Rw.eq h12 (r1.by r2.un) (r2.by r1.un).un ?_
  rw [(r2.by r1.un).pad_un h12, r1.pad_by h12 r2.un, r2.pad_by h12 r1.un, r1.pad_un h12, r2.pad_un h12, Pm.inv_prod, Pm.inv_inv]

theorem un_rnd {n : Nat} (h12 : n ≤ 12) {h : List Int} (hr : Rw n h) (e : un h = rnd n) : h = rnd n := by
  refine Rw.eq h12 hr (Rw.rnd n) ?_
  have := hr.pad_un h12
  rw [e, pad_rnd h12] at this
  rw [pad_rnd h12, ← Pm.inv_inv (pad h), ← this, Pm.inv_one]

theorem pr_length (L : List (List Int)) : (pr L).length = L.length * L.length := by
  unfold pr
  rw [List.length_flatMap]
  simp only [List.length_map]
  exact sum_const _ L

/-- The false heads of the rows of a lead. -/
def hds (n : Nat) (L : List (List Int)) : List (List Int) := hdsTo n (pr L)

end Go.Proofs.Ytoiiadiimfohiaa
