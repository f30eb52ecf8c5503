/- Contract: place.Parse, where the count may be and the text is not too long. -/
import Derived.Test.YtgglbafcocbhbaaPrsA
import Derived.Test.YtgglbafcocbhbaaRno
namespace Go.Proofs.Ytgglbafcocbhbaa
open Go.RowKit Go.Lib
set_option maxRecDepth 20000

theorem decode_ok (s : ByteArray) (pos : Nat) : (Utf8.decode s pos).1 < 55296 ∨ 57343 < (Utf8.decode s pos).1 := by
  rw [decode_at]
  have h0 : (s.get! pos).toNat < 256 := UInt8.toNat_lt _
  unfold decodeN
  repeat' split
  all_goals simp only
  all_goals omega

theorem owns_iter {w : World} {base e n b : Nat} {v : Value} {xs : List Value} {s : ByteArray} {p : Nat} (h : w.ownsRow base e 1 v n xs) (hb : w.heap[b]? = some (.stringIter s p)) (s' : ByteArray) (pos : Nat) : (w.iterAt b s' pos).ownsRow base e 1 v n xs := by
  refine ⟨h.1, ?_⟩
  rcases h.2 with h2 | ⟨g, cap, cur, rfl, hg, hh, r⟩
  · exact Or.inl h2
  · refine Or.inr ⟨g, cap, cur, rfl, hg, ?_, r⟩
    rw [iterAt_other _ _ _ _ _ (fun e => by subst e; rw [hb] at hh; cases hh)]
    exact hh

theorem Rd.iter {w : World} {R b : Nat} {n : Int} {st : RS} {s : ByteArray} {p : Nat} (h : Rd w R n st) (hb : w.heap[b]? = some (.stringIter s p)) (s' : ByteArray) (pos : Nat) : Rd (w.iterAt b s' pos) R n st := by
  obtain ⟨D, av, bv, ov, avs, bvs, h⟩ := h
  refine ⟨D, av, bv, ov, avs, bvs, ?_, ⟨owns_iter h.all.row hb _ _, h.all.all.mono (fun _ _ _ h' => owns_iter h' hb _ _)⟩, ⟨owns_iter h.block.row hb _ _, h.block.all.mono (fun _ _ _ h' => owns_iter h' hb _ _)⟩, owns_iter h.opn hb _ _, h.inner, h.sep, h.low, by rw [iterAt_size]; exact h.high, h.nilo⟩
  rw [iterAt_other _ _ _ _ _ (fun e => by subst e; have := h.blk; rw [hb] at this; cases this)]
  exact h.blk

theorem Rd.lt {w : World} {R : Nat} {n : Int} {st : RS} (h : Rd w R n st) : R < w.heap.size := by obtain ⟨_, _, _, _, _, _, h'⟩ := h; exact h'.lt

/-- What Parse answers. -/
def ParsePost (n : Int) (s : ByteArray) (w : World) (e : Ending) (w' : World) : Prop :=
  Below w.heap.size w w' ∧ ∃ v, e = .returned (.tuple #[v, .int .i64 (RS.parse n si (runesOf s)).1]) ∧ IntsAll w' v (RS.parse n si (runesOf s)).2

/-- What the loop of Parse knows. -/
structure PrsRel (W0 wr : World) (R : Nat) (n : Int) (s : ByteArray) (pre : List Nat) (pos : Nat) (st : RS) : Prop where
  iter : wr.heap[R + 1]? = some (.stringIter s pos)
  to : RunesTo s pre pos
  rd : Rd wr R n st
  run : RS.run n si RS.new pre = (0, st)
  fine : RS.Fine pre.length st
  below : Below R W0 wr

set_option maxHeartbeats 8000000 in
theorem parse_ok (n : Int) (s : ByteArray) (w : World) (hn1 : 1 ≤ n) (hn2 : n ≤ 12) (hs : s.size ≤ 4000) :
    Calls Try.prog 30 #[.int .i64 n, .string s] w fun e w' => ParsePost n s w e w' := by
  have hmf : ∀ (fn : Fn) (first cap : Array Value) (w : World), (Instr.makeFunc fn first cap).run Try.prog w = .ok (.func fn first cap) w := fun _ _ _ _ => rfl
  go_enter_defers Try.func30, Try.ntmps30
  go_wp2_with fail
  refine (pmay_yes _ _ hn1 hn2).mono ?_
  rintro e w' ⟨rfl, rfl⟩
  go_wp2_with fail
  generalize hR : w.heap.size + 1 + 1 = R
  have hA : (((w.alloc (.cells #[.slice none 0 0] 25)).alloc (.cells #[.int .i64 0] 23)).alloc (.cells #[.int .i64 n, .slice none 0 0, .slice none 0 0, .bool false, .bool false, .slice none 0 0, .bool false] 77)).heap.size = R + 1 := by simp; omega
  have hRR : (((w.alloc (.cells #[.slice none 0 0] 25)).alloc (.cells #[.int .i64 0] 23)).alloc (.cells #[.int .i64 n, .slice none 0 0, .slice none 0 0, .bool false, .bool false, .slice none 0 0, .bool false] 77)).heap[R]? = some (.cells #[.int .i64 n, .slice none 0 0, .slice none 0 0, .bool false, .bool false, .slice none 0 0, .bool false] 77) := by
    have h9 := heap_alloc_new ((w.alloc (.cells #[.slice none 0 0] 25)).alloc (.cells #[.int .i64 0] 23)) (.cells #[.int .i64 n, .slice none 0 0, .slice none 0 0, .bool false, .bool false, .slice none 0 0, .bool false] 77)
    rwa [show ((w.alloc (.cells #[.slice none 0 0] 25)).alloc (.cells #[.int .i64 0] 23)).heap.size = R from by simp; omega] at h9
  have hc1 : (((w.alloc (.cells #[.slice none 0 0] 25)).alloc (.cells #[.int .i64 0] 23)).alloc (.cells #[.int .i64 n, .slice none 0 0, .slice none 0 0, .bool false, .bool false, .slice none 0 0, .bool false] 77)).heap[w.heap.size]? = some (.cells #[.slice none 0 0] 25) := by
    rw [Below.heap_alloc _ _ _ (by simp; omega), Below.heap_alloc _ _ _ (by simp)]
    exact heap_alloc_new w _
  have hc2 : (((w.alloc (.cells #[.slice none 0 0] 25)).alloc (.cells #[.int .i64 0] 23)).alloc (.cells #[.int .i64 n, .slice none 0 0, .slice none 0 0, .bool false, .bool false, .slice none 0 0, .bool false] 77)).heap[w.heap.size + 1]? = some (.cells #[.int .i64 0] 23) := by
    rw [Below.heap_alloc _ _ _ (by simp)]
    have h9 := heap_alloc_new (w.alloc (.cells #[.slice none 0 0] 25)) (.cells #[.int .i64 0] 23)
    rwa [show (w.alloc (.cells #[.slice none 0 0] 25)).heap.size = w.heap.size + 1 from by simp] at h9
  have hBw : Below w.heap.size w (((w.alloc (.cells #[.slice none 0 0] 25)).alloc (.cells #[.int .i64 0] 23)).alloc (.cells #[.int .i64 n, .slice none 0 0, .slice none 0 0, .bool false, .bool false, .slice none 0 0, .bool false] 77)) := (((Below.refl _ _).alloc (Nat.le_refl _) _).alloc (by simp) _).alloc (by simp; omega) _
  have hRw : w.heap.size + 2 = R := by omega
  clear hR
  generalize (((w.alloc (.cells #[.slice none 0 0] 25)).alloc (.cells #[.int .i64 0] 23)).alloc (.cells #[.int .i64 n, .slice none 0 0, .slice none 0 0, .bool false, .bool false, .slice none 0 0, .bool false] 77)) = W3 at *
  have hBi : Below W3.heap.size W3 (W3.iter s 0) := below_iter W3 s 0
  have hiw : (W3.iter s 0).heap[R + 1]? = some (.stringIter s 0) := by have h9 := World.iter_heap W3 s 0; rwa [hA] at h9
  have hi1 := (hBi.block w.heap.size (by omega)).trans hc1
  have hi2 := (hBi.block (w.heap.size + 1) (by omega)).trans hc2
  have hiR := (hBi.block R (by omega)).trans hRR
  have hBw2 : Below w.heap.size w (W3.iter s 0) := hBw.trans (hBi.mono (by omega))
  have hsz : (W3.iter s 0).heap.size = R + 2 := by have h9 : (W3.iter s 0).heap.size = W3.heap.size + 1 := by simp [World.iter]
                                                   omega
  generalize W3.iter s 0 = W0 at *
  clear hBi hc1 hc2 hRR hBw hA
  have HR0 : Hid (PrsRel W0 W0 R n s [] 0 RS.new) := ⟨hiw, runesTo_start s, ⟨R + 1, .slice none 0 0, .slice none 0 0, .slice none 0 0, [], [], hiR, LL.nil _ _, LL.nil _ _, World.ownsRow_nil _ _ _ _, (fun u hu => by cases hu), Or.inl rfl, Nat.le_refl _, by omega, fun _ => rfl⟩, rfl, RS.Fine.new, Below.refl _ _⟩
  clear hiw hiR hsz
  go_loopw [8] (fun _ wr => ∃ (pos : Nat) (pre : List Nat) (st : RS), Hid (PrsRel W0 wr R n s pre pos st)) (fun _ wr => s.size - wr.iterPos (R + 1))
  case atStart => exact ⟨0, [], RS.new, HR0⟩
  case round =>
    obtain ⟨pos, pre, st, hP⟩ := hrel
    clear HR0
    have hP' := hP.out
    have HI := hide (iterPos_of hP'.iter)
    by_cases hp : pos < s.size
    · have hnx : ∀ ty, (Instr.next (.pointer (some ⟨R + 1, 0, none⟩)) true ty).run Try.prog wr = .ok (.tuple #[.bool true, .int .i64 (pos : Int), .int .i32 (((Utf8.decode s pos).1 : Nat) : Int)]) (wr.iterAt (R + 1) s (pos + (Utf8.decode s pos).2)) := by
        intro ty
        exact run_next_any_at wr (R + 1) s pos ty hP'.iter hp
      have hmem := hP'.to.mem hp
      have HTA := hide (take_any R n pre.length (Utf8.decode s pos).1 st (wr.iterAt (R + 1) s (pos + (Utf8.decode s pos).2)) (hP'.rd.iter hP'.iter _ _) hP'.fine (by omega) hn1 hn2 (decode_ok s pos) (decode_le s pos))
      have HIt := hide (iterAt_heap wr (R + 1) s pos (pos + (Utf8.decode s pos).2) hP'.iter)
      have HTo := hide (hP'.to.next hp)
      have HBi : Hid (Below R W0 (wr.iterAt (R + 1) s (pos + (Utf8.decode s pos).2))) := below_iterAt hP'.below (by omega) s _
      have HW := hide (decode_width_pos s pos hp)
      have HRu := hide (fun h0 => (RS.run_snoc n si pre RS.new (Utf8.decode s pos).1 h0))
      have HR1 := hide hP'.run
      have HFi := hide hP'.fine
      clear hmem hP hP'
      generalize (Utf8.decode s pos).1 = c at *
      generalize (Utf8.decode s pos).2 = nw at *
      go_wp2_with fail
      refine HTA.out.mono ?_
      rintro e w2 hgo
      have hB2 := HBi.out.trans hgo.1.below
      have hit2 := hgo.1.iters _ _ _ HIt.out
      have hru : RS.run n si RS.new (pre ++ [c]) = st.take n c (si c) := by rw [HRu.out (by rw [HR1.out]), HR1.out]
      rcases hgo.2 with ⟨h0, he, hR2⟩ | ⟨h0, he⟩
      · subst he
        have HP2 : Hid (PrsRel W0 w2 R n s (pre ++ [c]) (pos + nw) (st.take n c (si c)).2) := ⟨hit2, HTo.out, hR2, by rw [hru, ← h0], by rw [List.length_append]; exact HFi.out.take h0, hB2⟩
        have hit := hide hit2
        clear hgo hR2 hB2 hit2 hru HTA HIt HTo HBi HRu HR1 HFi
        go_wp2
        go_roundw
        case rel => exact ⟨pos + nw, pre ++ [c], _, HP2⟩
        case measure => rw [HI.out, iterPos_of hit.out]; have := HW.out; omega
      · subst he
        have HPA : Hid (RS.parse n si (runesOf s) = ((st.take n c (si c)).1, [])) := by
          obtain ⟨f, _, e⟩ := HTo.out
          have hb : RS.run n si RS.new (runesOf s) = st.take n c (si c) := by rw [e, RS.run_bad n si _ _ _ (by rw [hru]; exact h0), hru]
          show _ = _
          unfold RS.parse
          rw [hb, if_neg h0]
        clear hgo hit2 hru HTA HIt HTo HBi HRu HR1 HFi h0
        have hk1 := (hB2.block w.heap.size (by omega)).trans hi1
        have hk2 := (hB2.block (w.heap.size + 1) (by omega)).trans hi2
        generalize (st.take n c (si c)).1 = code at *
        have hx1 : w2.cell? ⟨w.heap.size, 0, none⟩ = some (.slice none 0 0) := by simp [World.cell?, hk1]
        have hx2 : w2.cell? ⟨w.heap.size + 1, 0, none⟩ = some (.int .i64 0) := by simp [World.cell?, hk2]
        have hne : (⟨w.heap.size, 0, none⟩ : Addr) ≠ ⟨w.heap.size + 1, 0, none⟩ := by intro e; simp only [Addr.mk.injEq] at e; omega
        have hy1 : ((w2.setCell ⟨w.heap.size, 0, none⟩ (.slice none 0 0)).setCell ⟨w.heap.size + 1, 0, none⟩ (.int .i64 code)).cell? ⟨w.heap.size, 0, none⟩ = some (.slice none 0 0) := by
          rw [World.cell?_setCell_other _ _ _ _ (fun e => hne e.symm), World.cell?_setCell_same _ _ _ hx1]
        have hy2 : ((w2.setCell ⟨w.heap.size, 0, none⟩ (.slice none 0 0)).setCell ⟨w.heap.size + 1, 0, none⟩ (.int .i64 code)).cell? ⟨w.heap.size + 1, 0, none⟩ = some (.int .i64 code) := by
          rw [World.cell?_setCell_same _ _ _ (by rw [World.cell?_setCell_other _ _ _ _ hne]; exact hx2)]
        have hBf : Below w.heap.size w ((w2.setCell ⟨w.heap.size, 0, none⟩ (.slice none 0 0)).setCell ⟨w.heap.size + 1, 0, none⟩ (.int .i64 code)) := ((hBw2.trans (hB2.mono (by omega))).setCell (p := ⟨w.heap.size, 0, none⟩) (Nat.le_refl _) _).setCell (p := ⟨w.heap.size + 1, 0, none⟩) (Nat.le_succ _) _
        unfold thrown
        go_wp2
        refine leaves_cons (f := 50) (args := #[.pointer (some ⟨w.heap.size, 0, none⟩), .pointer (some ⟨w.heap.size + 1, 0, none⟩)]) (by simp) (by simp [go_sem]) ?_
        refine (catch_panicking ⟨w.heap.size, 0, none⟩ ⟨w.heap.size + 1, 0, none⟩ (.slice none 0 0) (.int .i64 0) code [] w2 hx1 (by simp [World.frozen?, hk1]) hx2 (by simp [World.frozen?, hk2]) hne).mono ?_
        rintro e u' w'' ⟨rfl, rfl, rfl⟩
        have HF : Hid (ParsePost n s w (.returned (.tuple #[.slice none 0 0, .int .i64 code])) ((w2.setCell ⟨w.heap.size, 0, none⟩ (.slice none 0 0)).setCell ⟨w.heap.size + 1, 0, none⟩ (.int .i64 code))) := by
          refine ⟨hBf, _, by rw [HPA.out], ?_⟩
          rw [HPA.out]
          exact ⟨[], Or.inl ⟨rfl, none, 0, rfl⟩, rfl, fun j hj => by simp at hj⟩
        simp [Leaves, settle, results, Try.results30, go_sem, hy1, hy2]
        exact HF.out
    · have hnx := fun ty => run_next_end_at (P := Try.prog) wr (R + 1) s pos ty hP'.iter hp
      have HE := hide (hP'.to.done hp)
      have hrun : RS.run n si RS.new (runesOf s) = (0, st) := by rw [HE.out]; exact hP'.run
      have hkl : pre.length ≤ 4000 := by have := runesOf_length s; rw [HE.out] at this; omega
      have HEA := hide (end_any R n pre.length st wr hP'.rd hP'.fine (by omega) hn1 hn2)
      have HBr := hide hP'.below
      have HRun := hide hrun
      clear hP hP' hrun hkl
      go_wp2_with fail
      refine HEA.out.mono ?_
      rintro e w2 hgo
      have hB2 := HBr.out.trans hgo.1.below
      have hk1 := (hB2.block w.heap.size (by omega)).trans hi1
      have hk2 := (hB2.block (w.heap.size + 1) (by omega)).trans hi2
      rcases hgo.2 with ⟨h0, he, hR2⟩ | ⟨h0, he⟩
      · subst he
        have HPA : Hid (RS.parse n si (runesOf s) = (0, (st.fin n).2.all)) := by
          show _ = _
          unfold RS.parse
          rw [HRun.out, if_pos rfl, if_pos h0]
        generalize (st.fin n).2 = st2 at *
        obtain ⟨D, av, bv, ov, avs, bvs, hR⟩ := hR2
        have c1 := (cells7 hR.blk).2.1
        have hx1 : w2.cell? ⟨w.heap.size, 0, none⟩ = some (.slice none 0 0) := by simp [World.cell?, hk1]
        have hx2 : w2.cell? ⟨w.heap.size + 1, 0, none⟩ = some (.int .i64 0) := by simp [World.cell?, hk2]
        have hz1 : w2.frozen? ⟨w.heap.size, 0, none⟩ = false := by simp [World.frozen?, hk1]
        have hz2 : w2.frozen? ⟨w.heap.size + 1, 0, none⟩ = false := by simp [World.frozen?, hk2]
        obtain ⟨ap, ac, hae⟩ := owns_slice hR.all.row
        rw [hae] at c1
        have hne : (⟨w.heap.size, 0, none⟩ : Addr) ≠ ⟨w.heap.size + 1, 0, none⟩ := by intro e; simp only [Addr.mk.injEq] at e; omega
        have hx3 : (w2.setCell ⟨w.heap.size, 0, none⟩ (.slice ap avs.length ac)).cell? ⟨w.heap.size + 1, 0, none⟩ = some (.int .i64 0) := by rw [World.cell?_setCell_other _ _ _ _ hne]; exact hx2
        have hy1 : ((w2.setCell ⟨w.heap.size, 0, none⟩ (.slice ap avs.length ac)).setCell ⟨w.heap.size + 1, 0, none⟩ (.int .i64 0)).cell? ⟨w.heap.size, 0, none⟩ = some (.slice ap avs.length ac) := by
          rw [World.cell?_setCell_other _ _ _ _ (fun e => hne e.symm), World.cell?_setCell_same _ _ _ hx1]
        have hy2 : ((w2.setCell ⟨w.heap.size, 0, none⟩ (.slice ap avs.length ac)).setCell ⟨w.heap.size + 1, 0, none⟩ (.int .i64 0)).cell? ⟨w.heap.size + 1, 0, none⟩ = some (.int .i64 0) := by
          rw [World.cell?_setCell_same _ _ _ hx3]
        have hBf : Below w.heap.size w ((w2.setCell ⟨w.heap.size, 0, none⟩ (.slice ap avs.length ac)).setCell ⟨w.heap.size + 1, 0, none⟩ (.int .i64 0)) := ((hBw2.trans (hB2.mono (by omega))).setCell (p := ⟨w.heap.size, 0, none⟩) (Nat.le_refl _) _).setCell (p := ⟨w.heap.size + 1, 0, none⟩) (Nat.le_succ _) _
        have hL : LL ((w2.setCell ⟨w.heap.size, 0, none⟩ (.slice ap avs.length ac)).setCell ⟨w.heap.size + 1, 0, none⟩ (.int .i64 0)) (R + 1) (.slice ap avs.length ac) avs st2.all := by
          have h9 := hR.all
          rw [hae] at h9
          exact ⟨ownsRow_setCell_below (ownsRow_setCell_below h9.row (by show w.heap.size < R + 1; omega) _) (by show w.heap.size + 1 < R + 1; omega) _, h9.all.mono (fun _ _ _ h' => ownsRow_setCell_below (ownsRow_setCell_below h' (by show w.heap.size < R + 1; omega) _) (by show w.heap.size + 1 < R + 1; omega) _)⟩
        have HF : Hid (ParsePost n s w (.returned (.tuple #[.slice ap avs.length ac, .int .i64 0])) ((w2.setCell ⟨w.heap.size, 0, none⟩ (.slice ap avs.length ac)).setCell ⟨w.heap.size + 1, 0, none⟩ (.int .i64 0))) := by
          refine ⟨hBf, _, by rw [HPA.out], ?_⟩
          rw [HPA.out]
          exact hL.ints
        clear hgo hR hL hae hBf hk1 hk2 HEA HBr hB2
        go_wp2
        refine leaves_cons (f := 50) (args := #[.pointer (some ⟨w.heap.size, 0, none⟩), .pointer (some ⟨w.heap.size + 1, 0, none⟩)]) (by simp) (by simp [go_sem]) ?_
        refine (catch_idle ⟨w.heap.size, 0, none⟩ ⟨w.heap.size + 1, 0, none⟩ _).mono ?_
        rintro e u' w'' ⟨rfl, rfl, rfl⟩
        simp [Leaves, settle, results, Try.results30, go_sem, hy1, hy2]
        exact HF.out
      · subst he
        have HPA : Hid (RS.parse n si (runesOf s) = ((st.fin n).1, [])) := by
          show _ = _
          unfold RS.parse
          rw [HRun.out, if_pos rfl, if_neg h0]
        clear hgo HEA HBr h0
        generalize (st.fin n).1 = code at *
        have hx1 : w2.cell? ⟨w.heap.size, 0, none⟩ = some (.slice none 0 0) := by simp [World.cell?, hk1]
        have hx2 : w2.cell? ⟨w.heap.size + 1, 0, none⟩ = some (.int .i64 0) := by simp [World.cell?, hk2]
        have hne : (⟨w.heap.size, 0, none⟩ : Addr) ≠ ⟨w.heap.size + 1, 0, none⟩ := by intro e; simp only [Addr.mk.injEq] at e; omega
        have hy1 : ((w2.setCell ⟨w.heap.size, 0, none⟩ (.slice none 0 0)).setCell ⟨w.heap.size + 1, 0, none⟩ (.int .i64 code)).cell? ⟨w.heap.size, 0, none⟩ = some (.slice none 0 0) := by
          rw [World.cell?_setCell_other _ _ _ _ (fun e => hne e.symm), World.cell?_setCell_same _ _ _ hx1]
        have hy2 : ((w2.setCell ⟨w.heap.size, 0, none⟩ (.slice none 0 0)).setCell ⟨w.heap.size + 1, 0, none⟩ (.int .i64 code)).cell? ⟨w.heap.size + 1, 0, none⟩ = some (.int .i64 code) := by
          rw [World.cell?_setCell_same _ _ _ (by rw [World.cell?_setCell_other _ _ _ _ hne]; exact hx2)]
        have hBf : Below w.heap.size w ((w2.setCell ⟨w.heap.size, 0, none⟩ (.slice none 0 0)).setCell ⟨w.heap.size + 1, 0, none⟩ (.int .i64 code)) := ((hBw2.trans (hB2.mono (by omega))).setCell (p := ⟨w.heap.size, 0, none⟩) (Nat.le_refl _) _).setCell (p := ⟨w.heap.size + 1, 0, none⟩) (Nat.le_succ _) _
        unfold thrown
        go_wp2
        refine leaves_cons (f := 50) (args := #[.pointer (some ⟨w.heap.size, 0, none⟩), .pointer (some ⟨w.heap.size + 1, 0, none⟩)]) (by simp) (by simp [go_sem]) ?_
        refine (catch_panicking ⟨w.heap.size, 0, none⟩ ⟨w.heap.size + 1, 0, none⟩ (.slice none 0 0) (.int .i64 0) code [] w2 hx1 (by simp [World.frozen?, hk1]) hx2 (by simp [World.frozen?, hk2]) hne).mono ?_
        rintro e u' w'' ⟨rfl, rfl, rfl⟩
        have HF : Hid (ParsePost n s w (.returned (.tuple #[.slice none 0 0, .int .i64 code])) ((w2.setCell ⟨w.heap.size, 0, none⟩ (.slice none 0 0)).setCell ⟨w.heap.size + 1, 0, none⟩ (.int .i64 code))) := by
          refine ⟨hBf, _, by rw [HPA.out], ?_⟩
          rw [HPA.out]
          exact ⟨[], Or.inl ⟨rfl, none, 0, rfl⟩, rfl, fun j hj => by simp at hj⟩
        simp [Leaves, settle, results, Try.results30, go_sem, hy1, hy2]
        exact HF.out

end Go.Proofs.Ytgglbafcocbhbaa
