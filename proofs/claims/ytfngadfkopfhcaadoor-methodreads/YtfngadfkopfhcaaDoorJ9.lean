/- Joined: PPm, PrsA, ItA, PrsB, PrsC. -/
import Derived.Test.YtfngadfkopfhcaaDoorJ8
import Derived.Defers
import Derived.Recover
import Derived.Test.YtfngadfkopfhcaaDoorJ1
/- The answer's reader of changes in memory. -/
namespace Go.Proofs.YtfngadfkopfhcaaDoor
open Go.RowKit

/-- A slice's block lies ahead of D. -/
def Lo (D : Nat) (v : Value) : Prop := ∀ b, v.ownBlock = some b → b < D

theorem Lo.nil (D : Nat) : Lo D (.slice none 0 0) := fun _ h => by cases h

theorem own_lo {w w' : World} {base e n D : Nat} {v : Value} {xs : List Value} (h : w.ownsRow base e 1 v n xs) (hl : Lo D v) (hb : Below D w w') : w'.ownsRow base e 1 v n xs := by
  obtain ⟨h1, h2⟩ := h
  refine ⟨h1, ?_⟩
  rcases h2 with h2 | ⟨g, cap, cur, hv, hg, hh, r⟩
  · exact Or.inl h2
  · exact Or.inr ⟨g, cap, cur, hv, hg, by rw [hb.block g (hl g (by rw [hv]; rfl))]; exact hh, r⟩

theorem LL.lo {w w' : World} {base D : Nat} {v : Value} {vs : List Value} {xss : List (List Int)} (h : LL w base v vs xss) (hl : Lo D v) (hi : ∀ u, u ∈ vs → Lo D u) (hb : Below D w w') : LL w' base v vs xss :=
  ⟨own_lo h.row hl hb, h.all.memw (fun u _ _ hu h' => own_lo h' (hi u hu) hb)⟩

structure PA (w : World) (B D : Nat) (rv av bv ov : Value) (L : List Int) (avs bvs : List Value) (al bl : List (List Int)) (op : List Int) : Prop where
  runes : w.ownsRow B 3 1 rv L.length (L.map (Value.int .i64))
  rlo : Lo D rv
  all : LL w B av avs al
  alo : Lo D av
  block : LL w B bv bvs bl
  blo : Lo D bv
  inner : ∀ u, u ∈ avs ++ bvs → Lo D u
  opn : w.ownsRow D 3 1 ov op.length (op.map (Value.int .i64))
  sep : av.ownBlock = none ∨ av.ownBlock ≠ bv.ownBlock
  low : B ≤ D
  high : D ≤ w.heap.size

section
variable {w w' : World} {B D : Nat} {rv av bv ov ov' : Value} {L : List Int} {avs bvs : List Value} {al bl : List (List Int)} {op op' : List Int}

/-- The signs go on. -/
theorem PA.signs (h : PA w B D rv av bv ov L avs bvs al bl op) (hb : Below D w w') (ho : w'.ownsRow D 3 1 ov' op'.length (op'.map (Value.int .i64))) : PA w' B D rv av bv ov' L avs bvs al bl op' :=
  ⟨own_lo h.runes h.rlo hb, h.rlo, h.all.lo h.alo (fun u hu => h.inner u (List.mem_append.2 (Or.inl hu))) hb, h.alo, h.block.lo h.blo (fun u hu => h.inner u (List.mem_append.2 (Or.inr hu))) hb, h.blo, h.inner, ho, h.sep, h.low, Nat.le_trans h.high hb.size⟩

/-- The world goes on. -/
theorem PA.later (h : PA w B D rv av bv ov L avs bvs al bl op) (hb : Below w.heap.size w w') : PA w' B D rv av bv ov L avs bvs al bl op := h.signs (hb.mono h.high) (owns_below h.opn hb (Nat.le_refl _))

/-- No sign is open: all lies behind. -/
theorem PA.fresh (h : PA w B D rv av bv ov L avs bvs al bl op) : PA w B w.heap.size rv av bv (.slice none 0 0) L avs bvs al bl [] := by
  refine ⟨h.runes, fun b hb => (h.runes.lt b hb).2, h.all, fun b hb => (h.all.row.lt b hb).2, h.block, fun b hb => (h.block.row.lt b hb).2, ?_, World.ownsRow_nil _ _ _ _, h.sep, Nat.le_trans h.low h.high, Nat.le_refl _⟩
  intro u hu b hb
  rcases List.mem_append.1 hu with hu | hu
  · exact h.all.lt u hu b hb
  · exact h.block.lt u hu b hb

/-- One more change of the block. -/
theorem PA.push {w5 : World} {v' pv : Value} {ps : List Int} (h : PA w B D rv av bv ov L avs bvs al bl op) (hp : w.ownsRow B 3 1 pv ps.length (ps.map (Value.int .i64)))
    (hown : w5.ownsRow B 47 1 v' (bvs.length + 1) (bvs ++ [pv])) (hg : w.grownBy w5 bv.ownBlock) (hk : v'.ownBlock = bv.ownBlock ∨ (v'.ownBlock = some w.heap.size ∧ w.grownBy w5 none)) :
    PA w5 B w5.heap.size rv av v' (.slice none 0 0) L avs (bvs ++ [pv]) al (bl ++ [ps]) [] ∧ Below B w w5 := by
  have hall : LL w5 B av avs al := h.all.kept_row h.block.row hg h.sep
  have hbl : LL w5 B v' (bvs ++ [pv]) (bl ++ [ps]) := ⟨by rw [List.length_append]; exact hown, OwnAll.snoc (owns_kept_ty hp h.block.row hg) (h.block.all.mono (fun _ _ _ h' => owns_kept_ty h' h.block.row hg))⟩
  have hru := h.runes.kept hg (own_ty_ne h.runes h.block.row (by decide))
  refine ⟨⟨hru, fun b hb => (hru.lt b hb).2, hall, fun b hb => (hall.row.lt b hb).2, hbl, fun b hb => (hbl.row.lt b hb).2, ?_, World.ownsRow_nil _ _ _ _, ?_, ?_, Nat.le_refl _⟩, ?_⟩
  · intro u hu b hb
    rcases List.mem_append.1 hu with hu | hu
    · exact hall.lt u hu b hb
    · exact hbl.lt u hu b hb
  · rcases hk with hk | ⟨hk, _⟩
    · rw [hk]; exact h.sep
    · rw [hk]
      cases hav : av.ownBlock with
      | none => exact Or.inl rfl
      | some b =>
        refine Or.inr (fun e => ?_)
        have h1 := (h.all.row.lt b hav).2
        have h2 : b = w.heap.size := Option.some.inj e
        omega
  · have := h.low; have := h.high; have := hg.size; omega
  · exact (Below.refl B w).grown hg (by have := h.low; have := h.high; omega) (fun g hg' => (h.block.row.lt g hg').1)

/-- More changes behind all. -/
theorem PA.more {w5 : World} {v' : Value} {us : List Value} {xss : List (List Int)} (h : PA w B D rv av bv ov L avs bvs al bl op) (hu : OwnAll w B us xss)
    (hown : w5.ownsRow B 47 1 v' (avs.length + us.length) (avs ++ us)) (hg : w.grownBy w5 av.ownBlock) (hk : v'.ownBlock = av.ownBlock ∨ (v'.ownBlock = some w.heap.size ∧ w.grownBy w5 none)) :
    PA w5 B w5.heap.size rv v' bv (.slice none 0 0) L (avs ++ us) bvs (al ++ xss) bl [] ∧ Below B w w5 := by
  have hne : bv.ownBlock = none ∨ bv.ownBlock ≠ av.ownBlock := by
    rcases h.sep with hs | hs
    · cases hb : bv.ownBlock with
      | none => exact Or.inl rfl
      | some b => exact Or.inr (by rw [hs]; exact fun e => by cases e)
    · exact Or.inr (fun e => hs e.symm)
  have hbl : LL w5 B bv bvs bl := h.block.kept_row h.all.row hg hne
  have hall : LL w5 B v' (avs ++ us) (al ++ xss) := ⟨by rw [List.length_append]; exact hown, OwnAll.join (hu.mono (fun _ _ _ h' => owns_kept_ty h' h.all.row hg)) (h.all.all.mono (fun _ _ _ h' => owns_kept_ty h' h.all.row hg))⟩
  have hru := h.runes.kept hg (own_ty_ne h.runes h.all.row (by decide))
  refine ⟨⟨hru, fun b hb => (hru.lt b hb).2, hall, fun b hb => (hall.row.lt b hb).2, hbl, fun b hb => (hbl.row.lt b hb).2, ?_, World.ownsRow_nil _ _ _ _, ?_, ?_, Nat.le_refl _⟩, ?_⟩
  · intro u hu b hb
    rcases List.mem_append.1 hu with hu | hu
    · exact hall.lt u hu b hb
    · exact hbl.lt u hu b hb
  · rcases hk with hk | ⟨hk, _⟩
    · rw [hk]; exact h.sep
    · rw [hk]
      refine Or.inr (fun e => ?_)
      have := (h.block.row.lt w.heap.size e.symm).2
      omega
  · have := h.low; have := h.high; have := hg.size; omega
  · exact (Below.refl B w).grown hg (by have := h.low; have := h.high; omega) (fun g hg' => (h.all.row.lt g hg').1)

/-- The block's end. -/
theorem PA.shut (h : PA w B D rv av bv ov L avs bvs al bl op) : PA w B D rv av (.slice none 0 0) ov L avs [] al [] op := by
  refine ⟨h.runes, h.rlo, h.all, h.alo, LL.nil _ _, Lo.nil _, ?_, h.opn, ?_, h.low, h.high⟩
  · intro u hu
    exact h.inner u (List.mem_append.2 (Or.inl (by simpa using hu)))
  · cases hb : av.ownBlock with
    | none => exact Or.inl rfl
    | some b => exact Or.inr (fun e => by cases e)

end

/-- The loop's relation: k runes are read. -/
def PInv (n : Int) (cs : List Nat) (L : List Int) (w wr : World) (rv av bv ov : Value) (k : Nat) (st : RS) : Prop :=
  PR n cs k st ∧ (k ≤ cs.length → RS.Fine k st) ∧ (st.opn = [] → ov = .slice none 0 0) ∧ Below w.heap.size w wr ∧ ∃ D avs bvs, PA wr w.heap.size D rv av bv ov L avs bvs st.all st.block st.opn

end Go.Proofs.YtfngadfkopfhcaaDoor

/- Contracts: the closure that catches what a reader throws. -/
namespace Go.Proofs.YtfngadfkopfhcaaDoor
open Go.RowKit
set_option maxRecDepth 20000

set_option maxHeartbeats 2000000 in
theorem catch_panicking (p q : Addr) (x y : Value) (k : Int) (older : List PanicEntry) (w : World) (hp : w.cell? p = some x) (hfp : w.frozen? p = false) (hq : w.cell? q = some y) (hfq : w.frozen? q = false) (hpq : p ≠ q) :
    CallsD Tryd.prog 23 #[.pointer (some p), .pointer (some q)] (.panicking ({ v := .iface 45 (.int .i64 k), recovered := false } :: older)) w fun e u' w' =>
      e = .returned (.tuple #[]) ∧ u' = .panicking ({ v := .iface 45 (.int .i64 k), recovered := true } :: older) ∧ w' = (w.setCell p (.slice none 0 0)).setCell q (.int .i64 k) := by
  have hq2 : (w.setCell p (.slice none 0 0)).cell? q = some y := by rw [World.cell?_setCell_other _ _ _ _ hpq]; exact hq
  have hta : ∀ w : World, (Instr.typeAssert (.iface 45 (.int .i64 k)) 20 45 true).run Tryd.prog w = .ok (.tuple #[.int .i64 k, .bool true]) w := fun w => by kernel_rfl
  refine callsD_of_wpS Tryd.func23 rfl fun c₀ cs hu => ?_
  apply wpS_seq
  apply wpS_region
  simp [wpOpsS, go_sem, recoverD, hu, hta, Tryd.ntmps23, Exit.thenS]
  apply wpS_seq
  apply wpS_region
  simp [wpOpsS, go_sem, Exit.thenS]
  refine wpS_cond (t := true) (by simp [Act.eval, Array.replicate]) ?_
  simp only [if_true]
  apply wpS_region
  simp [wpOpsS, go_sem, hp, hfp, hq2, hfq, bodyPostS, results, Tryd.results23]

set_option maxHeartbeats 2000000 in
theorem catch_idle (p q : Addr) (w : World) :
    CallsD Tryd.prog 23 #[.pointer (some p), .pointer (some q)] .returning w fun e u' w' => e = .returned (.tuple #[]) ∧ u' = .returning ∧ w' = w := by
  have hta : ∀ w : World, (Instr.typeAssert .nilIface 20 45 true).run Tryd.prog w = .ok (.tuple #[.int .i64 0, .bool false]) w := fun w => by kernel_rfl
  refine callsD_of_wpS Tryd.func23 rfl fun c₀ cs hu => ?_
  apply wpS_seq
  apply wpS_region
  simp [wpOpsS, go_sem, recoverD, hu, hta, Tryd.ntmps23, Exit.thenS]
  apply wpS_seq
  apply wpS_region
  simp [wpOpsS, go_sem, Exit.thenS]
  refine wpS_cond (t := false) (by simp [Act.eval, Array.replicate]) ?_
  simp only [Bool.false_eq_true, if_false]
  refine wpS_of_wp (wp_skip ?_)
  cases c₀
  simp_all [bodyPostS, results, Tryd.results23]

end Go.Proofs.YtfngadfkopfhcaaDoor

/- Runes as they are decoded; rows of the call's own beside an iterator. -/
namespace Go.Proofs.YtfngadfkopfhcaaDoor
open Go.RowKit Go.Lib
set_option maxRecDepth 20000

theorem decode_ok (s : ByteArray) (pos : Nat) : (Utf8.decode s pos).1 < 55296 ∨ 57343 < (Utf8.decode s pos).1 := by
  rw [decode_at]
  have h0 : (s.get! pos).toNat < 256 := UInt8.toNat_lt _
  unfold decodeN
  repeat' split
  all_goals simp only
  all_goals omega

theorem owns_iter {w : World} {base e n b : Nat} {v : Value} {xs : List Value} {s : ByteArray} {p : Nat} (h : w.ownsRow base e 1 v n xs) (hb : w.heap[b]? = some (.stringIter s p)) (s' : ByteArray) (pos : Nat) : (w.iterAt b s' pos).ownsRow base e 1 v n xs := by
  refine ⟨h.1, ?_⟩
  rcases h.2 with h2 | ⟨g, cap, cur, rfl, hg, hh, r⟩
  · exact Or.inl h2
  · refine Or.inr ⟨g, cap, cur, rfl, hg, ?_, r⟩
    rw [iterAt_other _ _ _ _ _ (fun e => by subst e; rw [hb] at hh; cases hh)]
    exact hh

end Go.Proofs.YtfngadfkopfhcaaDoor

/- Contract: place.Parse, where the count may be and the text is not too long. -/
namespace Go.Proofs.YtfngadfkopfhcaaDoor
open Go.RowKit Go.Lib
set_option maxRecDepth 20000

theorem Rd.iter {w : World} {R b : Nat} {n : Int} {st : RS} {s : ByteArray} {p : Nat} (h : Rd w R n st) (hb : w.heap[b]? = some (.stringIter s p)) (s' : ByteArray) (pos : Nat) : Rd (w.iterAt b s' pos) R n st := by
  obtain ⟨D, av, bv, ov, avs, bvs, h⟩ := h
  refine ⟨D, av, bv, ov, avs, bvs, ?_, ⟨owns_iter h.all.row hb _ _, h.all.all.mono (fun _ _ _ h' => owns_iter h' hb _ _)⟩, ⟨owns_iter h.block.row hb _ _, h.block.all.mono (fun _ _ _ h' => owns_iter h' hb _ _)⟩, owns_iter h.opn hb _ _, h.inner, h.sep, h.low, by rw [iterAt_size]; exact h.high, h.nilo⟩
  rw [iterAt_other _ _ _ _ _ (fun e => by subst e; have := h.blk; rw [hb] at this; cases this)]
  exact h.blk

theorem Rd.lt {w : World} {R : Nat} {n : Int} {st : RS} (h : Rd w R n st) : R < w.heap.size := by obtain ⟨_, _, _, _, _, _, h'⟩ := h; exact h'.lt

/-- What Parse answers. -/
def ParsePost (n : Int) (s : ByteArray) (w : World) (e : Ending) (w' : World) : Prop :=
  Below w.heap.size w w' ∧ ∃ v, e = .returned (.tuple #[v, .int .i64 (RS.parse n si (runesOf s)).1]) ∧ IntsAll w' v (RS.parse n si (runesOf s)).2

/-- .. and that it owns the changes. -/
def ParseOwn (n : Int) (s : ByteArray) (w : World) (e : Ending) (w' : World) : Prop :=
  Below w.heap.size w w' ∧ ∃ v vs, e = .returned (.tuple #[v, .int .i64 (RS.parse n si (runesOf s)).1]) ∧ LL w' w.heap.size v vs (RS.parse n si (runesOf s)).2

theorem ParseOwn.post {n : Int} {s : ByteArray} {w w' : World} {e : Ending} (h : ParseOwn n s w e w') : ParsePost n s w e w' := by
  obtain ⟨h1, v, vs, h2, h3⟩ := h
  exact ⟨h1, v, h2, h3.ints⟩

/-- What the loop of Parse knows. -/
structure PrsRel (W0 wr : World) (R : Nat) (n : Int) (s : ByteArray) (pre : List Nat) (pos : Nat) (st : RS) : Prop where
  iter : wr.heap[R + 1]? = some (.stringIter s pos)
  to : RunesTo s pre pos
  rd : Rd wr R n st
  run : RS.run n si RS.new pre = (0, st)
  fine : RS.Fine pre.length st
  below : Below R W0 wr

set_option maxHeartbeats 8000000 in
theorem parse_own (n : Int) (s : ByteArray) (w : World) (hn1 : 1 ≤ n) (hn2 : n ≤ 12) (hs : s.size ≤ 4000) :
    Calls Tryd.prog 12 #[.int .i64 n, .string s] w fun e w' => ParseOwn n s w e w' := by
  have hmf : ∀ (fn : Fn) (first cap : Array Value) (w : World), (Instr.makeFunc fn first cap).run Tryd.prog w = .ok (.func fn first cap) w := fun _ _ _ _ => rfl
  go_enter_defers Tryd.func12, Tryd.ntmps12
  go_wp2_with fail
  refine (pmay_yes _ _ hn1 hn2).mono ?_
  rintro e w' ⟨rfl, rfl⟩
  go_wp2_with fail
  generalize hR : w.heap.size + 1 + 1 = R
  have hA : (((w.alloc (.cells #[.slice none 0 0] 22)).alloc (.cells #[.int .i64 0] 25)).alloc (.cells #[.int .i64 n, .slice none 0 0, .slice none 0 0, .bool false, .bool false, .slice none 0 0, .bool false] 49)).heap.size = R + 1 := by simp; omega
  have hRR : (((w.alloc (.cells #[.slice none 0 0] 22)).alloc (.cells #[.int .i64 0] 25)).alloc (.cells #[.int .i64 n, .slice none 0 0, .slice none 0 0, .bool false, .bool false, .slice none 0 0, .bool false] 49)).heap[R]? = some (.cells #[.int .i64 n, .slice none 0 0, .slice none 0 0, .bool false, .bool false, .slice none 0 0, .bool false] 49) := by
    have h9 := heap_alloc_new ((w.alloc (.cells #[.slice none 0 0] 22)).alloc (.cells #[.int .i64 0] 25)) (.cells #[.int .i64 n, .slice none 0 0, .slice none 0 0, .bool false, .bool false, .slice none 0 0, .bool false] 49)
    rwa [show ((w.alloc (.cells #[.slice none 0 0] 22)).alloc (.cells #[.int .i64 0] 25)).heap.size = R from by simp; omega] at h9
  have hc1 : (((w.alloc (.cells #[.slice none 0 0] 22)).alloc (.cells #[.int .i64 0] 25)).alloc (.cells #[.int .i64 n, .slice none 0 0, .slice none 0 0, .bool false, .bool false, .slice none 0 0, .bool false] 49)).heap[w.heap.size]? = some (.cells #[.slice none 0 0] 22) := by
    rw [Below.heap_alloc _ _ _ (by simp; omega), Below.heap_alloc _ _ _ (by simp)]
    exact heap_alloc_new w _
  have hc2 : (((w.alloc (.cells #[.slice none 0 0] 22)).alloc (.cells #[.int .i64 0] 25)).alloc (.cells #[.int .i64 n, .slice none 0 0, .slice none 0 0, .bool false, .bool false, .slice none 0 0, .bool false] 49)).heap[w.heap.size + 1]? = some (.cells #[.int .i64 0] 25) := by
    rw [Below.heap_alloc _ _ _ (by simp)]
    have h9 := heap_alloc_new (w.alloc (.cells #[.slice none 0 0] 22)) (.cells #[.int .i64 0] 25)
    rwa [show (w.alloc (.cells #[.slice none 0 0] 22)).heap.size = w.heap.size + 1 from by simp] at h9
  have hBw : Below w.heap.size w (((w.alloc (.cells #[.slice none 0 0] 22)).alloc (.cells #[.int .i64 0] 25)).alloc (.cells #[.int .i64 n, .slice none 0 0, .slice none 0 0, .bool false, .bool false, .slice none 0 0, .bool false] 49)) := (((Below.refl _ _).alloc (Nat.le_refl _) _).alloc (by simp) _).alloc (by simp; omega) _
  have hRw : w.heap.size + 2 = R := by omega
  clear hR
  generalize (((w.alloc (.cells #[.slice none 0 0] 22)).alloc (.cells #[.int .i64 0] 25)).alloc (.cells #[.int .i64 n, .slice none 0 0, .slice none 0 0, .bool false, .bool false, .slice none 0 0, .bool false] 49)) = W3 at *
  have hBi : Below W3.heap.size W3 (W3.iter s 0) := below_iter W3 s 0
  have hiw : (W3.iter s 0).heap[R + 1]? = some (.stringIter s 0) := by have h9 := World.iter_heap W3 s 0; rwa [hA] at h9
  have hi1 := (hBi.block w.heap.size (by omega)).trans hc1
  have hi2 := (hBi.block (w.heap.size + 1) (by omega)).trans hc2
  have hiR := (hBi.block R (by omega)).trans hRR
  have hBw2 : Below w.heap.size w (W3.iter s 0) := hBw.trans (hBi.mono (by omega))
  have hsz : (W3.iter s 0).heap.size = R + 2 := by have h9 : (W3.iter s 0).heap.size = W3.heap.size + 1 := by simp [World.iter]
                                                   omega
  generalize W3.iter s 0 = W0 at *
  clear hBi hc1 hc2 hRR hBw hA
  have HR0 : Hid (PrsRel W0 W0 R n s [] 0 RS.new) := ⟨hiw, runesTo_start s, ⟨R + 1, .slice none 0 0, .slice none 0 0, .slice none 0 0, [], [], hiR, LL.nil _ _, LL.nil _ _, World.ownsRow_nil _ _ _ _, (fun u hu => by cases hu), Or.inl rfl, Nat.le_refl _, by omega, fun _ => rfl⟩, rfl, RS.Fine.new, Below.refl _ _⟩
  clear hiw hiR hsz
  go_loopw [8] (fun _ wr => ∃ (pos : Nat) (pre : List Nat) (st : RS), Hid (PrsRel W0 wr R n s pre pos st)) (fun _ wr => s.size - wr.iterPos (R + 1))
  case atStart => exact ⟨0, [], RS.new, HR0⟩
  case round =>
    obtain ⟨pos, pre, st, hP⟩ := hrel
    clear HR0
    have hP' := hP.out
    have HI := hide (iterPos_of hP'.iter)
    by_cases hp : pos < s.size
    · have hnx : ∀ ty, (Instr.next (.pointer (some ⟨R + 1, 0, none⟩)) true ty).run Tryd.prog wr = .ok (.tuple #[.bool true, .int .i64 (pos : Int), .int .i32 (((Utf8.decode s pos).1 : Nat) : Int)]) (wr.iterAt (R + 1) s (pos + (Utf8.decode s pos).2)) := by
        intro ty
        exact run_next_any_at wr (R + 1) s pos ty hP'.iter hp
      have hmem := hP'.to.mem hp
      have HTA := hide (take_any R n pre.length (Utf8.decode s pos).1 st (wr.iterAt (R + 1) s (pos + (Utf8.decode s pos).2)) (hP'.rd.iter hP'.iter _ _) hP'.fine (by omega) hn1 hn2 (decode_ok s pos) (decode_le s pos))
      have HIt := hide (iterAt_heap wr (R + 1) s pos (pos + (Utf8.decode s pos).2) hP'.iter)
      have HTo := hide (hP'.to.next hp)
      have HBi : Hid (Below R W0 (wr.iterAt (R + 1) s (pos + (Utf8.decode s pos).2))) := below_iterAt hP'.below (by omega) s _
      have HW := hide (decode_width_pos s pos hp)
      have HRu := hide (fun h0 => (RS.run_snoc n si pre RS.new (Utf8.decode s pos).1 h0))
      have HR1 := hide hP'.run
      have HFi := hide hP'.fine
      clear hmem hP hP'
      generalize (Utf8.decode s pos).1 = c at *
      generalize (Utf8.decode s pos).2 = nw at *
      go_wp2_with fail
      refine HTA.out.mono ?_
      rintro e w2 hgo
      have hB2 := HBi.out.trans hgo.1.below
      have hit2 := hgo.1.iters _ _ _ HIt.out
      have hru : RS.run n si RS.new (pre ++ [c]) = st.take n c (si c) := by rw [HRu.out (by rw [HR1.out]), HR1.out]
      rcases hgo.2 with ⟨h0, he, hR2⟩ | ⟨h0, he⟩
      · subst he
        have HP2 : Hid (PrsRel W0 w2 R n s (pre ++ [c]) (pos + nw) (st.take n c (si c)).2) := ⟨hit2, HTo.out, hR2, by rw [hru, ← h0], by rw [List.length_append]; exact HFi.out.take h0, hB2⟩
        have hit := hide hit2
        clear hgo hR2 hB2 hit2 hru HTA HIt HTo HBi HRu HR1 HFi
        go_wp2
        go_roundw
        case rel => exact ⟨pos + nw, pre ++ [c], _, HP2⟩
        case measure => rw [HI.out, iterPos_of hit.out]; have := HW.out; omega
      · subst he
        have HPA : Hid (RS.parse n si (runesOf s) = ((st.take n c (si c)).1, [])) := by
          obtain ⟨f, _, e⟩ := HTo.out
          have hb : RS.run n si RS.new (runesOf s) = st.take n c (si c) := by rw [e, RS.run_bad n si _ _ _ (by rw [hru]; exact h0), hru]
          show _ = _
          unfold RS.parse
          rw [hb, if_neg h0]
        clear hgo hit2 hru HTA HIt HTo HBi HRu HR1 HFi h0
        have hk1 := (hB2.block w.heap.size (by omega)).trans hi1
        have hk2 := (hB2.block (w.heap.size + 1) (by omega)).trans hi2
        generalize (st.take n c (si c)).1 = code at *
        have hx1 : w2.cell? ⟨w.heap.size, 0, none⟩ = some (.slice none 0 0) := by simp [World.cell?, hk1]
        have hx2 : w2.cell? ⟨w.heap.size + 1, 0, none⟩ = some (.int .i64 0) := by simp [World.cell?, hk2]
        have hne : (⟨w.heap.size, 0, none⟩ : Addr) ≠ ⟨w.heap.size + 1, 0, none⟩ := by intro e; simp only [Addr.mk.injEq] at e; omega
        have hy1 : ((w2.setCell ⟨w.heap.size, 0, none⟩ (.slice none 0 0)).setCell ⟨w.heap.size + 1, 0, none⟩ (.int .i64 code)).cell? ⟨w.heap.size, 0, none⟩ = some (.slice none 0 0) := by
          rw [World.cell?_setCell_other _ _ _ _ (fun e => hne e.symm), World.cell?_setCell_same _ _ _ hx1]
        have hy2 : ((w2.setCell ⟨w.heap.size, 0, none⟩ (.slice none 0 0)).setCell ⟨w.heap.size + 1, 0, none⟩ (.int .i64 code)).cell? ⟨w.heap.size + 1, 0, none⟩ = some (.int .i64 code) := by
          rw [World.cell?_setCell_same _ _ _ (by rw [World.cell?_setCell_other _ _ _ _ hne]; exact hx2)]
        have hBf : Below w.heap.size w ((w2.setCell ⟨w.heap.size, 0, none⟩ (.slice none 0 0)).setCell ⟨w.heap.size + 1, 0, none⟩ (.int .i64 code)) := ((hBw2.trans (hB2.mono (by omega))).setCell (p := ⟨w.heap.size, 0, none⟩) (Nat.le_refl _) _).setCell (p := ⟨w.heap.size + 1, 0, none⟩) (Nat.le_succ _) _
        unfold thrown
        go_wp2
        refine leaves_cons (f := 23) (args := #[.pointer (some ⟨w.heap.size, 0, none⟩), .pointer (some ⟨w.heap.size + 1, 0, none⟩)]) (by simp) (by simp [go_sem]) ?_
        refine (catch_panicking ⟨w.heap.size, 0, none⟩ ⟨w.heap.size + 1, 0, none⟩ (.slice none 0 0) (.int .i64 0) code [] w2 hx1 (by simp [World.frozen?, hk1]) hx2 (by simp [World.frozen?, hk2]) hne).mono ?_
        rintro e u' w'' ⟨rfl, rfl, rfl⟩
        have HF : Hid (ParseOwn n s w (.returned (.tuple #[.slice none 0 0, .int .i64 code])) ((w2.setCell ⟨w.heap.size, 0, none⟩ (.slice none 0 0)).setCell ⟨w.heap.size + 1, 0, none⟩ (.int .i64 code))) := by
          refine ⟨hBf, _, [], by rw [HPA.out], ?_⟩
          rw [HPA.out]
          exact LL.nil _ _
        simp [Leaves, settle, results, Tryd.results12, go_sem, hy1, hy2]
        exact HF.out
    · have hnx := fun ty => run_next_end_at (P := Tryd.prog) wr (R + 1) s pos ty hP'.iter hp
      have HE := hide (hP'.to.done hp)
      have hrun : RS.run n si RS.new (runesOf s) = (0, st) := by rw [HE.out]; exact hP'.run
      have hkl : pre.length ≤ 4000 := by have := runesOf_length s; rw [HE.out] at this; omega
      have HEA := hide (end_any R n pre.length st wr hP'.rd hP'.fine (by omega) hn1 hn2)
      have HBr := hide hP'.below
      have HRun := hide hrun
      clear hP hP' hrun hkl
      go_wp2_with fail
      refine HEA.out.mono ?_
      rintro e w2 hgo
      have hB2 := HBr.out.trans hgo.1.below
      have hk1 := (hB2.block w.heap.size (by omega)).trans hi1
      have hk2 := (hB2.block (w.heap.size + 1) (by omega)).trans hi2
      rcases hgo.2 with ⟨h0, he, hR2⟩ | ⟨h0, he⟩
      · subst he
        have HPA : Hid (RS.parse n si (runesOf s) = (0, (st.fin n).2.all)) := by
          show _ = _
          unfold RS.parse
          rw [HRun.out, if_pos rfl, if_pos h0]
        generalize (st.fin n).2 = st2 at *
        obtain ⟨D, av, bv, ov, avs, bvs, hR⟩ := hR2
        have c1 := (cells7 hR.blk).2.1
        have hx1 : w2.cell? ⟨w.heap.size, 0, none⟩ = some (.slice none 0 0) := by simp [World.cell?, hk1]
        have hx2 : w2.cell? ⟨w.heap.size + 1, 0, none⟩ = some (.int .i64 0) := by simp [World.cell?, hk2]
        have hz1 : w2.frozen? ⟨w.heap.size, 0, none⟩ = false := by simp [World.frozen?, hk1]
        have hz2 : w2.frozen? ⟨w.heap.size + 1, 0, none⟩ = false := by simp [World.frozen?, hk2]
        obtain ⟨ap, ac, hae⟩ := owns_slice hR.all.row
        rw [hae] at c1
        have hne : (⟨w.heap.size, 0, none⟩ : Addr) ≠ ⟨w.heap.size + 1, 0, none⟩ := by intro e; simp only [Addr.mk.injEq] at e; omega
        have hx3 : (w2.setCell ⟨w.heap.size, 0, none⟩ (.slice ap avs.length ac)).cell? ⟨w.heap.size + 1, 0, none⟩ = some (.int .i64 0) := by rw [World.cell?_setCell_other _ _ _ _ hne]; exact hx2
        have hy1 : ((w2.setCell ⟨w.heap.size, 0, none⟩ (.slice ap avs.length ac)).setCell ⟨w.heap.size + 1, 0, none⟩ (.int .i64 0)).cell? ⟨w.heap.size, 0, none⟩ = some (.slice ap avs.length ac) := by
          rw [World.cell?_setCell_other _ _ _ _ (fun e => hne e.symm), World.cell?_setCell_same _ _ _ hx1]
        have hy2 : ((w2.setCell ⟨w.heap.size, 0, none⟩ (.slice ap avs.length ac)).setCell ⟨w.heap.size + 1, 0, none⟩ (.int .i64 0)).cell? ⟨w.heap.size + 1, 0, none⟩ = some (.int .i64 0) := by
          rw [World.cell?_setCell_same _ _ _ hx3]
        have hBf : Below w.heap.size w ((w2.setCell ⟨w.heap.size, 0, none⟩ (.slice ap avs.length ac)).setCell ⟨w.heap.size + 1, 0, none⟩ (.int .i64 0)) := ((hBw2.trans (hB2.mono (by omega))).setCell (p := ⟨w.heap.size, 0, none⟩) (Nat.le_refl _) _).setCell (p := ⟨w.heap.size + 1, 0, none⟩) (Nat.le_succ _) _
        have hL : LL ((w2.setCell ⟨w.heap.size, 0, none⟩ (.slice ap avs.length ac)).setCell ⟨w.heap.size + 1, 0, none⟩ (.int .i64 0)) (R + 1) (.slice ap avs.length ac) avs st2.all := by
          have h9 := hR.all
          rw [hae] at h9
          exact ⟨ownsRow_setCell_below (ownsRow_setCell_below h9.row (by show w.heap.size < R + 1; omega) _) (by show w.heap.size + 1 < R + 1; omega) _, h9.all.mono (fun _ _ _ h' => ownsRow_setCell_below (ownsRow_setCell_below h' (by show w.heap.size < R + 1; omega) _) (by show w.heap.size + 1 < R + 1; omega) _)⟩
        have HF : Hid (ParseOwn n s w (.returned (.tuple #[.slice ap avs.length ac, .int .i64 0])) ((w2.setCell ⟨w.heap.size, 0, none⟩ (.slice ap avs.length ac)).setCell ⟨w.heap.size + 1, 0, none⟩ (.int .i64 0))) := by
          refine ⟨hBf, _, avs, by rw [HPA.out], ?_⟩
          rw [HPA.out]
          exact hL.low (by omega)
        clear hgo hR hL hae hBf hk1 hk2 HEA HBr hB2
        go_wp2
        refine leaves_cons (f := 23) (args := #[.pointer (some ⟨w.heap.size, 0, none⟩), .pointer (some ⟨w.heap.size + 1, 0, none⟩)]) (by simp) (by simp [go_sem]) ?_
        refine (catch_idle ⟨w.heap.size, 0, none⟩ ⟨w.heap.size + 1, 0, none⟩ _).mono ?_
        rintro e u' w'' ⟨rfl, rfl, rfl⟩
        simp [Leaves, settle, results, Tryd.results12, go_sem, hy1, hy2]
        exact HF.out
      · subst he
        have HPA : Hid (RS.parse n si (runesOf s) = ((st.fin n).1, [])) := by
          show _ = _
          unfold RS.parse
          rw [HRun.out, if_pos rfl, if_neg h0]
        clear hgo HEA HBr h0
        generalize (st.fin n).1 = code at *
        have hx1 : w2.cell? ⟨w.heap.size, 0, none⟩ = some (.slice none 0 0) := by simp [World.cell?, hk1]
        have hx2 : w2.cell? ⟨w.heap.size + 1, 0, none⟩ = some (.int .i64 0) := by simp [World.cell?, hk2]
        have hne : (⟨w.heap.size, 0, none⟩ : Addr) ≠ ⟨w.heap.size + 1, 0, none⟩ := by intro e; simp only [Addr.mk.injEq] at e; omega
        have hy1 : ((w2.setCell ⟨w.heap.size, 0, none⟩ (.slice none 0 0)).setCell ⟨w.heap.size + 1, 0, none⟩ (.int .i64 code)).cell? ⟨w.heap.size, 0, none⟩ = some (.slice none 0 0) := by
          rw [World.cell?_setCell_other _ _ _ _ (fun e => hne e.symm), World.cell?_setCell_same _ _ _ hx1]
        have hy2 : ((w2.setCell ⟨w.heap.size, 0, none⟩ (.slice none 0 0)).setCell ⟨w.heap.size + 1, 0, none⟩ (.int .i64 code)).cell? ⟨w.heap.size + 1, 0, none⟩ = some (.int .i64 code) := by
          rw [World.cell?_setCell_same _ _ _ (by rw [World.cell?_setCell_other _ _ _ _ hne]; exact hx2)]
        have hBf : Below w.heap.size w ((w2.setCell ⟨w.heap.size, 0, none⟩ (.slice none 0 0)).setCell ⟨w.heap.size + 1, 0, none⟩ (.int .i64 code)) := ((hBw2.trans (hB2.mono (by omega))).setCell (p := ⟨w.heap.size, 0, none⟩) (Nat.le_refl _) _).setCell (p := ⟨w.heap.size + 1, 0, none⟩) (Nat.le_succ _) _
        unfold thrown
        go_wp2
        refine leaves_cons (f := 23) (args := #[.pointer (some ⟨w.heap.size, 0, none⟩), .pointer (some ⟨w.heap.size + 1, 0, none⟩)]) (by simp) (by simp [go_sem]) ?_
        refine (catch_panicking ⟨w.heap.size, 0, none⟩ ⟨w.heap.size + 1, 0, none⟩ (.slice none 0 0) (.int .i64 0) code [] w2 hx1 (by simp [World.frozen?, hk1]) hx2 (by simp [World.frozen?, hk2]) hne).mono ?_
        rintro e u' w'' ⟨rfl, rfl, rfl⟩
        have HF : Hid (ParseOwn n s w (.returned (.tuple #[.slice none 0 0, .int .i64 code])) ((w2.setCell ⟨w.heap.size, 0, none⟩ (.slice none 0 0)).setCell ⟨w.heap.size + 1, 0, none⟩ (.int .i64 code))) := by
          refine ⟨hBf, _, [], by rw [HPA.out], ?_⟩
          rw [HPA.out]
          exact LL.nil _ _
        simp [Leaves, settle, results, Tryd.results12, go_sem, hy1, hy2]
        exact HF.out

theorem parse_ok (n : Int) (s : ByteArray) (w : World) (hn1 : 1 ≤ n) (hn2 : n ≤ 12) (hs : s.size ≤ 4000) :
    Calls Tryd.prog 12 #[.int .i64 n, .string s] w fun e w' => ParsePost n s w e w' := (parse_own n s w hn1 hn2 hs).mono fun _ _ h => h.post

end Go.Proofs.YtfngadfkopfhcaaDoor

/- Contract: place.Parse, where it refuses at once. -/
namespace Go.Proofs.YtfngadfkopfhcaaDoor
open Go.RowKit Go.Lib
set_option maxRecDepth 20000

theorem two_cells (w : World) (x y : Value) (a b : TypeId) : ((w.alloc (.cells #[x] a)).alloc (.cells #[y] b)).heap[w.heap.size]? = some (.cells #[x] a) ∧ ((w.alloc (.cells #[x] a)).alloc (.cells #[y] b)).heap[w.heap.size + 1]? = some (.cells #[y] b) := by
  constructor
  · rw [Below.heap_alloc _ _ _ (by simp)]
    exact heap_alloc_new w _
  · have h9 := heap_alloc_new (w.alloc (.cells #[x] a)) (.cells #[y] b)
    rwa [show (w.alloc (.cells #[x] a)).heap.size = w.heap.size + 1 from by simp] at h9

theorem cell_of {w : World} {b : Nat} {x : Value} {t : TypeId} (h : w.heap[b]? = some (.cells #[x] t)) : w.cell? ⟨b, 0, none⟩ = some x := by simp [World.cell?, h]

set_option maxHeartbeats 4000000 in
theorem parse_count (n : Int) (s : ByteArray) (w : World) (hn : n < 1 ∨ 12 < n) :
    Calls Tryd.prog 12 #[.int .i64 n, .string s] w fun e w' => e = .returned (.tuple #[.slice none 0 0, .int .i64 1]) ∧ Below w.heap.size w w' := by
  go_enter_defers Tryd.func12, Tryd.ntmps12
  go_wp2_with fail
  refine (pmay_no _ _ hn).mono ?_
  rintro e w' ⟨rfl, rfl⟩
  have hB : Below w.heap.size w ((w.alloc (.cells #[.slice none 0 0] 22)).alloc (.cells #[.int .i64 1] 25)) := ((Below.refl _ _).alloc (Nat.le_refl _) _).alloc (by simp) _
  have hk := two_cells w (.slice none 0 0) (.int .i64 1) 22 25
  have hx1 : ((w.alloc (.cells #[.slice none 0 0] 22)).alloc (.cells #[.int .i64 1] 25)).cell? ⟨w.heap.size, 0, none⟩ = some (.slice none 0 0) := cell_of hk.1
  have hx2 : ((w.alloc (.cells #[.slice none 0 0] 22)).alloc (.cells #[.int .i64 1] 25)).cell? ⟨w.heap.size + 1, 0, none⟩ = some (.int .i64 1) := cell_of hk.2
  clear hk
  go_wp2
  simp [bodyPostD, Leaves, results, Tryd.results12, go_sem, hx1, hx2, hB]

set_option maxHeartbeats 4000000 in
theorem parse_long (n : Int) (s : ByteArray) (w : World) (hn1 : 1 ≤ n) (hn2 : n ≤ 12) (hs : 4000 < s.size) (hm : s.size ≤ 9223372036854775807) :
    Calls Tryd.prog 12 #[.int .i64 n, .string s] w fun e w' => e = .returned (.tuple #[.slice none 0 0, .int .i64 3]) ∧ Below w.heap.size w w' := by
  go_enter_defers Tryd.func12, Tryd.ntmps12
  go_wp2_with fail
  refine (pmay_yes _ _ hn1 hn2).mono ?_
  rintro e w' ⟨rfl, rfl⟩
  have hB : Below w.heap.size w ((w.alloc (.cells #[.slice none 0 0] 22)).alloc (.cells #[.int .i64 3] 25)) := ((Below.refl _ _).alloc (Nat.le_refl _) _).alloc (by simp) _
  have hk := two_cells w (.slice none 0 0) (.int .i64 3) 22 25
  have hx1 : ((w.alloc (.cells #[.slice none 0 0] 22)).alloc (.cells #[.int .i64 3] 25)).cell? ⟨w.heap.size, 0, none⟩ = some (.slice none 0 0) := cell_of hk.1
  have hx2 : ((w.alloc (.cells #[.slice none 0 0] 22)).alloc (.cells #[.int .i64 3] 25)).cell? ⟨w.heap.size + 1, 0, none⟩ = some (.int .i64 3) := cell_of hk.2
  clear hk
  go_wp2
  simp [bodyPostD, Leaves, results, Tryd.results12, go_sem, hx1, hx2, hB]

end Go.Proofs.YtfngadfkopfhcaaDoor
