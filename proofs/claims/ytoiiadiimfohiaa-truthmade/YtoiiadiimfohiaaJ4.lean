/- Joined: Name, Meth, TtG, TtJ, SbI, Grp. -/
import Derived.Test.YtoiiadiimfohiaaJ2
import Derived.Lib.RuneCount
import Derived.Lib.DecodeN
import Derived.Test.YtoiiadiimfohiaaJ3
import Derived.Deep.RegionHeld3
import Derived.Deep.QuietTactic
import Derived.Deep.CutRange
import Derived.Test.YtoiiadiimfohiaaJ1
/- Contracts: ofName, Name of package method, at every text. -/
namespace Go.Proofs.Ytoiiadiimfohiaa
open Go.RowKit Go.Lib

/-- May a rune be in a name? -/
def ofn (r : Nat) : Bool := decide (65 ≤ r ∧ r ≤ 90 ∨ 97 ≤ r ∧ r ≤ 122 ∨ 48 ≤ r ∧ r ≤ 57 ∨ r = 32 ∨ (192 ≤ r ∧ r ≤ 382 ∧ r ≠ 215 ∧ r ≠ 247))

set_option maxRecDepth 20000 in
set_option maxHeartbeats 4000000 in
theorem ofName_any (r : Nat) (w : World) (hr : r ≤ 1114111) : Calls Try.prog 102 #[.int .i32 r] w fun e w' => e = .returned (.bool (ofn r)) ∧ w = w' := by
  have hcase : r < 32 ∨ r = 32 ∨ (33 ≤ r ∧ r ≤ 47) ∨ (48 ≤ r ∧ r ≤ 57) ∨ (58 ≤ r ∧ r ≤ 64) ∨ (65 ≤ r ∧ r ≤ 90) ∨ (91 ≤ r ∧ r ≤ 96) ∨ (97 ≤ r ∧ r ≤ 122) ∨ (123 ≤ r ∧ r ≤ 191) ∨ (192 ≤ r ∧ r ≤ 214) ∨ r = 215 ∨ (216 ≤ r ∧ r ≤ 246) ∨ r = 247 ∨ (248 ≤ r ∧ r ≤ 382) ∨ 383 ≤ r := by omega
  rcases hcase with h | h | ⟨h1, h2⟩ | ⟨h1, h2⟩ | ⟨h1, h2⟩ | ⟨h1, h2⟩ | ⟨h1, h2⟩ | ⟨h1, h2⟩ | ⟨h1, h2⟩ | ⟨h1, h2⟩ | h | ⟨h1, h2⟩ | h | ⟨h1, h2⟩ | h
  · have hb : Hid (ofn r = false) := by show _ = _; unfold ofn; exact decide_eq_false (by omega)
    have e32 : ((r : Int) == 32) = false := by rw [beq_eq_false_iff_ne]; omega
    have e215 : ((r : Int) == 215) = false := by rw [beq_eq_false_iff_ne]; omega
    have e247 : ((r : Int) == 247) = false := by rw [beq_eq_false_iff_ne]; omega
    go_enter Try.func102, Try.ntmps102
    go_wp2
    go_ret
    exact ⟨ret_bool (by first | exact hb.out.symm | (rw [hb.out]; exact decide_eq_true (by omega)) | (rw [hb.out]; exact decide_eq_false (by omega))), rfl⟩
  · have hb : Hid (ofn r = true) := by show _ = _; unfold ofn; exact decide_eq_true (by omega)
    subst h
    go_enter Try.func102, Try.ntmps102
    go_wp2
    go_ret
    exact ⟨ret_bool (by first | exact hb.out.symm | (rw [hb.out]; exact decide_eq_true (by omega)) | (rw [hb.out]; exact decide_eq_false (by omega))), rfl⟩
  · have hb : Hid (ofn r = false) := by show _ = _; unfold ofn; exact decide_eq_false (by omega)
    have e32 : ((r : Int) == 32) = false := by rw [beq_eq_false_iff_ne]; omega
    have e215 : ((r : Int) == 215) = false := by rw [beq_eq_false_iff_ne]; omega
    have e247 : ((r : Int) == 247) = false := by rw [beq_eq_false_iff_ne]; omega
    go_enter Try.func102, Try.ntmps102
    go_wp2
    go_ret
    exact ⟨ret_bool (by first | exact hb.out.symm | (rw [hb.out]; exact decide_eq_true (by omega)) | (rw [hb.out]; exact decide_eq_false (by omega))), rfl⟩
  · have hb : Hid (ofn r = true) := by show _ = _; unfold ofn; exact decide_eq_true (by omega)
    have e32 : ((r : Int) == 32) = false := by rw [beq_eq_false_iff_ne]; omega
    have e215 : ((r : Int) == 215) = false := by rw [beq_eq_false_iff_ne]; omega
    have e247 : ((r : Int) == 247) = false := by rw [beq_eq_false_iff_ne]; omega
    go_enter Try.func102, Try.ntmps102
    go_wp2
    go_ret
    exact ⟨ret_bool (by first | exact hb.out.symm | (rw [hb.out]; exact decide_eq_true (by omega)) | (rw [hb.out]; exact decide_eq_false (by omega))), rfl⟩
  · have hb : Hid (ofn r = false) := by show _ = _; unfold ofn; exact decide_eq_false (by omega)
    have e32 : ((r : Int) == 32) = false := by rw [beq_eq_false_iff_ne]; omega
    have e215 : ((r : Int) == 215) = false := by rw [beq_eq_false_iff_ne]; omega
    have e247 : ((r : Int) == 247) = false := by rw [beq_eq_false_iff_ne]; omega
    go_enter Try.func102, Try.ntmps102
    go_wp2
    go_ret
    exact ⟨ret_bool (by first | exact hb.out.symm | (rw [hb.out]; exact decide_eq_true (by omega)) | (rw [hb.out]; exact decide_eq_false (by omega))), rfl⟩
  · have hb : Hid (ofn r = true) := by show _ = _; unfold ofn; exact decide_eq_true (by omega)
    have e32 : ((r : Int) == 32) = false := by rw [beq_eq_false_iff_ne]; omega
    have e215 : ((r : Int) == 215) = false := by rw [beq_eq_false_iff_ne]; omega
    have e247 : ((r : Int) == 247) = false := by rw [beq_eq_false_iff_ne]; omega
    go_enter Try.func102, Try.ntmps102
    go_wp2
    go_ret
    exact ⟨ret_bool (by first | exact hb.out.symm | (rw [hb.out]; exact decide_eq_true (by omega)) | (rw [hb.out]; exact decide_eq_false (by omega))), rfl⟩
  · have hb : Hid (ofn r = false) := by show _ = _; unfold ofn; exact decide_eq_false (by omega)
    have e32 : ((r : Int) == 32) = false := by rw [beq_eq_false_iff_ne]; omega
    have e215 : ((r : Int) == 215) = false := by rw [beq_eq_false_iff_ne]; omega
    have e247 : ((r : Int) == 247) = false := by rw [beq_eq_false_iff_ne]; omega
    go_enter Try.func102, Try.ntmps102
    go_wp2
    go_ret
    exact ⟨ret_bool (by first | exact hb.out.symm | (rw [hb.out]; exact decide_eq_true (by omega)) | (rw [hb.out]; exact decide_eq_false (by omega))), rfl⟩
  · have hb : Hid (ofn r = true) := by show _ = _; unfold ofn; exact decide_eq_true (by omega)
    have e32 : ((r : Int) == 32) = false := by rw [beq_eq_false_iff_ne]; omega
    have e215 : ((r : Int) == 215) = false := by rw [beq_eq_false_iff_ne]; omega
    have e247 : ((r : Int) == 247) = false := by rw [beq_eq_false_iff_ne]; omega
    go_enter Try.func102, Try.ntmps102
    go_wp2
    go_ret
    exact ⟨ret_bool (by first | exact hb.out.symm | (rw [hb.out]; exact decide_eq_true (by omega)) | (rw [hb.out]; exact decide_eq_false (by omega))), rfl⟩
  · have hb : Hid (ofn r = false) := by show _ = _; unfold ofn; exact decide_eq_false (by omega)
    have e32 : ((r : Int) == 32) = false := by rw [beq_eq_false_iff_ne]; omega
    have e215 : ((r : Int) == 215) = false := by rw [beq_eq_false_iff_ne]; omega
    have e247 : ((r : Int) == 247) = false := by rw [beq_eq_false_iff_ne]; omega
    go_enter Try.func102, Try.ntmps102
    go_wp2
    go_ret
    exact ⟨ret_bool (by first | exact hb.out.symm | (rw [hb.out]; exact decide_eq_true (by omega)) | (rw [hb.out]; exact decide_eq_false (by omega))), rfl⟩
  · have hb : Hid (ofn r = true) := by show _ = _; unfold ofn; exact decide_eq_true (by omega)
    have e32 : ((r : Int) == 32) = false := by rw [beq_eq_false_iff_ne]; omega
    have e215 : ((r : Int) == 215) = false := by rw [beq_eq_false_iff_ne]; omega
    have e247 : ((r : Int) == 247) = false := by rw [beq_eq_false_iff_ne]; omega
    go_enter Try.func102, Try.ntmps102
    go_wp2
    go_ret
    exact ⟨ret_bool (by first | exact hb.out.symm | (rw [hb.out]; exact decide_eq_true (by omega)) | (rw [hb.out]; exact decide_eq_false (by omega))), rfl⟩
  · have hb : Hid (ofn r = false) := by show _ = _; unfold ofn; exact decide_eq_false (by omega)
    subst h
    go_enter Try.func102, Try.ntmps102
    go_wp2
    go_ret
    exact ⟨ret_bool (by first | exact hb.out.symm | (rw [hb.out]; exact decide_eq_true (by omega)) | (rw [hb.out]; exact decide_eq_false (by omega))), rfl⟩
  · have hb : Hid (ofn r = true) := by show _ = _; unfold ofn; exact decide_eq_true (by omega)
    have e32 : ((r : Int) == 32) = false := by rw [beq_eq_false_iff_ne]; omega
    have e215 : ((r : Int) == 215) = false := by rw [beq_eq_false_iff_ne]; omega
    have e247 : ((r : Int) == 247) = false := by rw [beq_eq_false_iff_ne]; omega
    go_enter Try.func102, Try.ntmps102
    go_wp2
    go_ret
    exact ⟨ret_bool (by first | exact hb.out.symm | (rw [hb.out]; exact decide_eq_true (by omega)) | (rw [hb.out]; exact decide_eq_false (by omega))), rfl⟩
  · have hb : Hid (ofn r = false) := by show _ = _; unfold ofn; exact decide_eq_false (by omega)
    subst h
    go_enter Try.func102, Try.ntmps102
    go_wp2
    go_ret
    exact ⟨ret_bool (by first | exact hb.out.symm | (rw [hb.out]; exact decide_eq_true (by omega)) | (rw [hb.out]; exact decide_eq_false (by omega))), rfl⟩
  · have hb : Hid (ofn r = true) := by show _ = _; unfold ofn; exact decide_eq_true (by omega)
    have e32 : ((r : Int) == 32) = false := by rw [beq_eq_false_iff_ne]; omega
    have e215 : ((r : Int) == 215) = false := by rw [beq_eq_false_iff_ne]; omega
    have e247 : ((r : Int) == 247) = false := by rw [beq_eq_false_iff_ne]; omega
    go_enter Try.func102, Try.ntmps102
    go_wp2
    go_ret
    exact ⟨ret_bool (by first | exact hb.out.symm | (rw [hb.out]; exact decide_eq_true (by omega)) | (rw [hb.out]; exact decide_eq_false (by omega))), rfl⟩
  · have hb : Hid (ofn r = false) := by show _ = _; unfold ofn; exact decide_eq_false (by omega)
    have e32 : ((r : Int) == 32) = false := by rw [beq_eq_false_iff_ne]; omega
    have e215 : ((r : Int) == 215) = false := by rw [beq_eq_false_iff_ne]; omega
    have e247 : ((r : Int) == 247) = false := by rw [beq_eq_false_iff_ne]; omega
    go_enter Try.func102, Try.ntmps102
    go_wp2
    go_ret
    exact ⟨ret_bool (by first | exact hb.out.symm | (rw [hb.out]; exact decide_eq_true (by omega)) | (rw [hb.out]; exact decide_eq_false (by omega))), rfl⟩

/-- The k-th byte; 0 beyond. -/
def bt (s : ByteArray) (k : Nat) : Nat := ((s.data.toList[k]?).getD 0).toNat

theorem bt_get {s : ByteArray} {k : Nat} (h : k < s.size) : (s[k]'h).toNat = bt s k := by
  have h' : k < s.data.toList.length := by rw [Array.length_toList]; exact h
  unfold bt
  rw [List.getElem?_eq_getElem h', Option.getD_some]
  rfl

theorem bt_lt (s : ByteArray) (k : Nat) : bt s k < 256 := by unfold bt; exact UInt8.toNat_lt _

/-- Is it a name? -/
def nm (s : ByteArray) : Bool := (runesOf s).all ofn && decide (1 ≤ (runesOf s).length ∧ (runesOf s).length ≤ 20 ∧ bt s 0 ≠ 32 ∧ bt s (s.size - 1) ≠ 32)

theorem nm_bad {s : ByteArray} {r : Nat} (h : r ∈ runesOf s) (hr : ofn r = false) : nm s = false := by
  unfold nm
  rw [show (runesOf s).all ofn = false from by rw [List.all_eq_false]; exact ⟨r, h, by simp [hr]⟩]
  rfl

structure NameRel (w wr : World) (s : ByteArray) (pre : List Nat) (pos : Nat) : Prop where
  iter : wr.heap[w.heap.size]? = some (.stringIter s pos)
  rto : RunesTo s pre pos
  all : pre.all ofn = true
  size : w.heap.size < wr.heap.size
  below : Below w.heap.size w wr
set_option maxRecDepth 20000 in
set_option maxHeartbeats 4000000 in
theorem name_any (s : ByteArray) (w : World) (hs : s.size ≤ 9223372036854775807) :
    Calls Try.prog 77 #[.string s] w fun e w' => e = .returned (.bool (nm s)) ∧ Below w.heap.size w w' := by
  go_enter Try.func77, Try.ntmps77
  go_wp2
  go_loopw [3] (fun c wr => ∃ pos pre, c = .int .i64 ((pre.length : Nat) : Int) ∧ NameRel w wr s pre pos) (fun _ wr => s.size - wr.iterPos w.heap.size)
  case atStart => exact ⟨0, [], rfl, ⟨World.iter_heap w s 0, runesTo_start s, rfl, by simp [World.iter], below_iter w s 0⟩⟩
  case round =>
    obtain ⟨pos, pre, rfl, hr⟩ := hrel
    by_cases hp : pos < s.size
    · have hnx : ∀ ty, (Instr.next (.pointer (some ⟨w.heap.size, 0, none⟩)) true ty).run Try.prog wr = .ok (.tuple #[.bool true, .int .i64 (pos : Int), .int .i32 (((Utf8.decode s pos).1 : Nat) : Int)]) (wr.iterAt w.heap.size s (pos + (Utf8.decode s pos).2)) := by
        intro ty
        exact run_next_any_at wr w.heap.size s pos ty hr.iter hp
      have hmem := hr.rto.mem hp
      have HO := hide (ofName_any (Utf8.decode s pos).1 (wr.iterAt w.heap.size s (pos + (Utf8.decode s pos).2)) (decode_le s pos))
      have HIt := hide (iterAt_heap wr w.heap.size s pos (pos + (Utf8.decode s pos).2) hr.iter)
      have HTo := hide (hr.rto.next hp)
      have HI := hide (iterPos_of hr.iter)
      have hbw := hide (below_iterAt hr.below (Nat.le_refl _) s (pos + (Utf8.decode s pos).2))
      have HA := hide hr.all
      have HSz : Hid (w.heap.size < (wr.iterAt w.heap.size s (pos + (Utf8.decode s pos).2)).heap.size) := by show _ < _; rw [iterAt_size]; exact hr.size
      have HW := hide (decode_width_pos s pos hp)
      have hc := hmem.2
      have HM := hide hmem.1
      clear hmem hr
      generalize (Utf8.decode s pos).1 = r at *
      generalize (Utf8.decode s pos).2 = n at *
      cases ho : ofn r with
      | false =>
        have HNM := hide (nm_bad HM.out ho)
        rw [ho] at HO
        clear ho
        go_wp2_with fail
        refine HO.out.mono ?_
        rintro e w' ⟨rfl, rfl⟩
        go_wp2
        go_ret
        exact ⟨ret_bool HNM.out.symm, hbw.out⟩
      | true =>
        rw [ho] at HO
        have HAA : Hid ((pre ++ [r]).all ofn = true) := by show _ = _; rw [List.all_append, HA.out]; simp [ho]
        clear ho
        go_wp2_with fail
        refine HO.out.mono ?_
        rintro e w' ⟨rfl, rfl⟩
        go_wp2
        go_roundw
        case rel => exact ⟨pos + n, pre ++ [r], by rw [List.length_append]; go_num, ⟨HIt.out, HTo.out, HAA.out, HSz.out, hbw.out⟩⟩
        case measure => rw [HI.out, iterPos_of HIt.out]; have := HW.out; omega
    · have hnx := fun ty => run_next_end_at (P := Try.prog) wr w.heap.size s pos ty hr.iter hp
      have HE := hide (hr.rto.done hp)
      have HA := hide hr.all
      have hbw := hr.below
      have hle := runesOf_length s
      rw [HE.out] at hle
      have HNM : Hid (nm s = decide (1 ≤ pre.length ∧ pre.length ≤ 20 ∧ bt s 0 ≠ 32 ∧ bt s (s.size - 1) ≠ 32)) := by
        show _ = _; unfold nm; rw [HE.out, HA.out, Bool.true_and]
      clear hr hp
      generalize pre.length = L at *
      by_cases c1 : 1 ≤ L
      · by_cases c2 : L ≤ 20
        · have hs0 : 0 < s.size := by omega
          have hs1 : s.size - 1 < s.size := by omega
          have hx1 := index_byte s (s.size - 1) hs1 wr
          rw [bt_get hs1] at hx1
          rw [show ((s.size - 1 : Nat) : Int) = (s.size : Int) - 1 from by omega] at hx1
          generalize bt s (s.size - 1) = b1 at *
          have hb0 := bt_get hs0
          generalize hq : (s[0]'hs0).toNat = b0 at *
          by_cases c3 : b0 = 32
          · have hv : Hid (nm s = false) := by show _ = _; rw [HNM.out]; exact decide_eq_false (by omega)
            have hn0 : (((s[0]'hs0).toNat : Int) != 32) = false := by rw [hq, c3]; rfl
            clear c3 hb0 hq
            go_wp2
            go_ret
            exact ⟨ret_bool hv.out.symm, hbw⟩
          · have hn0 : (((s[0]'hs0).toNat : Int) != 32) = true := by rw [hq, bne_iff_ne]; omega
            by_cases c4 : b1 = 32
            · have hv : Hid (nm s = false) := by show _ = _; rw [HNM.out]; exact decide_eq_false (by omega)
              subst c4
              clear c3 hb0 hq
              go_wp2
              go_ret
              exact ⟨ret_bool hv.out.symm, hbw⟩
            · have hv : Hid (nm s = true) := by show _ = _; rw [HNM.out]; exact decide_eq_true (by omega)
              have hn1 : ((b1 : Int) != 32) = true := by rw [bne_iff_ne]; omega
              clear c3 c4 hb0 hq
              go_wp2
              go_ret
              exact ⟨ret_bool hv.out.symm, hbw⟩
        · have hv : Hid (nm s = false) := by show _ = _; rw [HNM.out]; exact decide_eq_false (by omega)
          go_wp2
          go_ret
          exact ⟨ret_bool hv.out.symm, hbw⟩
      · have hv : Hid (nm s = false) := by show _ = _; rw [HNM.out]; exact decide_eq_false (by omega)
        go_wp2
        go_ret
        exact ⟨ret_bool hv.out.symm, hbw⟩

end Go.Proofs.Ytoiiadiimfohiaa

/- Contracts: method.Check. -/
namespace Go.Proofs.Ytoiiadiimfohiaa
open Go.RowKit

/-- A method as a value. -/
abbrev meth (s : ByteArray) (n : Int) (v : Value) : Value := .agg #[.string s, .int .i64 n, v]

set_option maxHeartbeats 400000 in
theorem mmay_yes (n : Int) (w : World) (h1 : 2 ≤ n) (h2 : n ≤ 12) :
    Calls Try.prog 78 #[.int .i64 n] w fun e w' => e = .returned (.bool true) ∧ w = w' := by
  go_enter Try.func78, Try.ntmps78
  go_wp2
  go_ret
  exact ⟨rfl, rfl⟩

set_option maxHeartbeats 400000 in
theorem mmay_no (n : Int) (w : World) (h : n < 2 ∨ 12 < n) :
    Calls Try.prog 78 #[.int .i64 n] w fun e w' => e = .returned (.bool false) ∧ w = w' := by
  rcases h with h | h
  · go_enter Try.func78, Try.ntmps78
    go_wp2
    go_ret
    exact ⟨rfl, rfl⟩
  · have h1 : 2 ≤ n := by omega
    have h2 : decide (n ≤ 12) = false := by simp; omega
    go_enter Try.func78, Try.ntmps78
    go_wp2
    go_ret
    exact ⟨rfl, rfl⟩

/-- Where a method lies. -/
structure Box (w : World) (B : Nat) (s : ByteArray) (n : Int) (v : Value) : Prop where
  c0 : w.cell? ⟨B, 0, none⟩ = some (.string s)
  c1 : w.cell? ⟨B, 1, none⟩ = some (.int .i64 n)
  c2 : w.cell? ⟨B, 2, none⟩ = some v
  lt : B < w.heap.size

theorem Box.start (w : World) (s : ByteArray) (n : Int) (v : Value) (t : TypeId) : Box (w.alloc (.cells #[.string s, .int .i64 n, v] t)) w.heap.size s n v := by
  refine ⟨?_, ?_, ?_, by simp⟩ <;> simp

theorem Box.below {w w' : World} {B : Nat} {s : ByteArray} {n : Int} {v : Value} (h : Box w B s n v) (hb : Below w.heap.size w w') : Box w' B s n v :=
  ⟨(hb.cell (p := ⟨B, 0, none⟩) h.lt).trans h.c0, (hb.cell (p := ⟨B, 1, none⟩) h.lt).trans h.c1, (hb.cell (p := ⟨B, 2, none⟩) h.lt).trans h.c2, Nat.lt_of_lt_of_le h.lt hb.size⟩

set_option maxRecDepth 20000 in
set_option maxHeartbeats 4000000 in
theorem mcheck_name (s : ByteArray) (n : Int) (v : Value) (w : World) (hs : s.size ≤ 9223372036854775807) (hn : nm s = false) :
    Calls Try.prog 59 #[meth s n v] w fun e w' => e = .returned (.int .i64 7) ∧ Below w.heap.size w w' := by
  unfold meth
  have HN := hide (fun W => name_any s W hs)
  rw [hn] at HN
  clear hn
  go_enter Try.func59, Try.ntmps59
  go_wp2_with fail
  refine (HN.out _).mono ?_
  rintro e w1 ⟨rfl, hb1⟩
  have hB : Below w.heap.size w w1 := ((Below.refl _ _).alloc (Nat.le_refl _) _).trans (hb1.mono (by simp))
  clear hb1 HN
  go_wp2
  go_ret
  exact ⟨rfl, hB⟩

set_option maxRecDepth 20000 in
set_option maxHeartbeats 4000000 in
theorem mcheck_ok (s : ByteArray) (n : Nat) (v : Value) (css : List (List Int)) (w : World) (hs : s.size ≤ 9223372036854775807) (hn : nm s = true) (h1 : 2 ≤ n) (h2 : n ≤ 12) (hl1 : 1 ≤ css.length) (hl2 : css.length ≤ 200) (hv : IntsAll w v css)
    (hok : ∀ k, k < css.length → okc n 0 (css.getD k []) = true) :
    Calls Try.prog 59 #[meth s n v] w fun e w' => e = .returned (.int .i64 0) ∧ Below w.heap.size w w' := by
  unfold meth
  have HN := hide (fun W => name_any s W hs)
  rw [hn] at HN
  obtain ⟨b, off, cap, rfl, hb, hc1, hc2, hcell⟩ := hv.cell hl1
  have HC := hide hcell
  have HOK := hide hok
  clear hn hv hok hcell
  go_enter Try.func59, Try.ntmps59
  go_wp2_with fail
  refine (HN.out _).mono ?_
  rintro e w1 ⟨rfl, hb1⟩
  have hB : Below w.heap.size w w1 := ((Below.refl _ _).alloc (Nat.le_refl _) _).trans (hb1.mono (by simp))
  have hx := (Box.start w s n (.slice (some ⟨b, off, none⟩) css.length cap) 24).below hb1
  have g1 := hx.c1
  have g2 := hx.c2
  have HX := hide hx
  clear hb1 HN hx
  go_wp2_with fail
  refine (mmay_yes _ _ (by omega) (by omega)).mono ?_
  rintro e w' ⟨rfl, rfl⟩
  go_wp2
  go_loop [29] (fun i => ∃ k : Nat, k ≤ css.length ∧ i = .int .i64 k) (fun i => css.length - (intOf i).toNat)
  case atStart => exact ⟨0, by omega, rfl⟩
  case round =>
    obtain ⟨k, hk, rfl⟩ := hrel
    by_cases hlt : k < css.length
    · obtain ⟨p, c, hcx, hix⟩ := HC.out k hlt
      have gx := (hB.cell (p := ⟨b, off + k, none⟩) (by exact hb)).trans hcx
      have HCk := hide (pcheck_any n _ _ w1 (by omega) (by omega) (hix.out.below hB))
      rw [show pck n (css.getD k []) = 0 from by unfold pck; rw [if_pos (HOK.out k hlt)]] at HCk
      generalize (css.getD k []).length = L at *
      clear hcx hix
      go_wp2_with fail
      refine HCk.out.mono ?_
      rintro e w' ⟨rfl, rfl⟩
      go_wp2
      go_round
      case rel => exact ⟨k + 1, by omega, by go_num⟩
      case measure => simp [intOf]; omega
    · go_wp2
      go_ret
      exact ⟨rfl, hB⟩

end Go.Proofs.Ytoiiadiimfohiaa

/- Contracts: call.Sign; call.find where none is found. -/
namespace Go.Proofs.Ytoiiadiimfohiaa
open Go.RowKit

set_option maxRecDepth 20000 in
set_option maxHeartbeats 1000000 in
theorem cdigit_any (r : Int) (w : World) : Calls Try.prog 111 #[.int .i32 r] w fun e w' => e = .returned (.bool (decide (48 ≤ r ∧ r ≤ 57))) ∧ w = w' := by
  by_cases h1 : 48 ≤ r
  · by_cases h2 : r ≤ 57
    · rw [decide_eq_true ⟨h1, h2⟩]
      go_enter Try.func111, Try.ntmps111
      go_wp2
      go_ret
      first | exact ⟨rfl, rfl⟩ | exact ⟨by simp; omega, rfl⟩
    · rw [decide_eq_false (fun h => h2 h.2)]
      go_enter Try.func111, Try.ntmps111
      go_wp2
      go_ret
      first | exact ⟨rfl, rfl⟩ | exact ⟨by simp; omega, rfl⟩
  · rw [decide_eq_false (fun h => h1 h.1)]
    go_enter Try.func111, Try.ntmps111
    go_wp2
    go_ret
    first | exact ⟨rfl, rfl⟩ | exact ⟨by simp; omega, rfl⟩

set_option maxRecDepth 20000 in
set_option maxHeartbeats 2000000 in
theorem sign_any (r : Int) (w : World) : Calls Try.prog 94 #[.int .i32 r] w fun e w' => e = .returned (.bool (sgnR r)) ∧ w = w' := by
  have HD := hide (cdigit_any r w)
  by_cases d0 : 48 ≤ r ∧ r ≤ 57
  · have HP : Hid (sgnR r = false) := by unfold sgnR; exact decide_eq_false (by omega)
    have hdg : decide (48 ≤ r ∧ r ≤ 57) = true := decide_eq_true (by omega)
    rw [hdg] at HD
    clear hdg d0
    generalize sgnR r = R at *
    go_enter Try.func94, Try.ntmps94
    go_wp2_with fail
    refine HD.out.mono ?_
    rintro e w' ⟨rfl, rfl⟩
    go_wp2
    go_ret
    exact ⟨ret_bool HP.out.symm, rfl⟩
  by_cases d1 : r = 40
  · have HP : Hid (sgnR r = false) := by unfold sgnR; exact decide_eq_false (by omega)
    have hdg : decide (48 ≤ r ∧ r ≤ 57) = false := decide_eq_false (by omega)
    rw [hdg] at HD
    have e1 : (r == 40) = true := by rw [beq_iff_eq]; omega
    clear hdg d0 d1
    generalize sgnR r = R at *
    go_enter Try.func94, Try.ntmps94
    go_wp2_with fail
    refine HD.out.mono ?_
    rintro e w' ⟨rfl, rfl⟩
    go_wp2
    go_ret
    exact ⟨ret_bool HP.out.symm, rfl⟩
  by_cases d2 : r = 41
  · have HP : Hid (sgnR r = false) := by unfold sgnR; exact decide_eq_false (by omega)
    have hdg : decide (48 ≤ r ∧ r ≤ 57) = false := decide_eq_false (by omega)
    rw [hdg] at HD
    have e1 : (r == 40) = false := by rw [beq_eq_false_iff_ne]; omega
    have e2 : (r == 41) = true := by rw [beq_iff_eq]; omega
    clear hdg d0 d1 d2
    generalize sgnR r = R at *
    go_enter Try.func94, Try.ntmps94
    go_wp2_with fail
    refine HD.out.mono ?_
    rintro e w' ⟨rfl, rfl⟩
    go_wp2
    go_ret
    exact ⟨ret_bool HP.out.symm, rfl⟩
  by_cases d3 : 127 ≤ r ∧ r ≤ 160
  · have HP : Hid (sgnR r = false) := by unfold sgnR; exact decide_eq_false (by omega)
    have hdg : decide (48 ≤ r ∧ r ≤ 57) = false := decide_eq_false (by omega)
    rw [hdg] at HD
    have e1 : (r == 40) = false := by rw [beq_eq_false_iff_ne]; omega
    have e2 : (r == 41) = false := by rw [beq_eq_false_iff_ne]; omega
    have e3 : 127 ≤ r := by omega
    have e4 : r ≤ 160 := by omega
    clear hdg d0 d1 d2 d3
    generalize sgnR r = R at *
    go_enter Try.func94, Try.ntmps94
    go_wp2_with fail
    refine HD.out.mono ?_
    rintro e w' ⟨rfl, rfl⟩
    go_wp2
    go_ret
    exact ⟨ret_bool HP.out.symm, rfl⟩
  by_cases d4 : r < 33
  · have HP : Hid (sgnR r = false) := by unfold sgnR; exact decide_eq_false (by omega)
    have hdg : decide (48 ≤ r ∧ r ≤ 57) = false := decide_eq_false (by omega)
    rw [hdg] at HD
    have e1 : (r == 40) = false := by rw [beq_eq_false_iff_ne]; omega
    have e2 : (r == 41) = false := by rw [beq_eq_false_iff_ne]; omega
    have e3 : ¬ 127 ≤ r := by omega
    have e5 : ¬ 33 ≤ r := by omega
    clear hdg d0 d1 d2 d3 d4
    generalize sgnR r = R at *
    go_enter Try.func94, Try.ntmps94
    go_wp2_with fail
    refine HD.out.mono ?_
    rintro e w' ⟨rfl, rfl⟩
    go_wp2
    go_ret
    exact ⟨ret_bool HP.out.symm, rfl⟩
  by_cases d5 : 12287 < r
  · have HP : Hid (sgnR r = false) := by unfold sgnR; exact decide_eq_false (by omega)
    have hdg : decide (48 ≤ r ∧ r ≤ 57) = false := decide_eq_false (by omega)
    rw [hdg] at HD
    have e1 : (r == 40) = false := by rw [beq_eq_false_iff_ne]; omega
    have e2 : (r == 41) = false := by rw [beq_eq_false_iff_ne]; omega
    have e3 : 127 ≤ r := by omega
    have e4 : ¬ r ≤ 160 := by omega
    have e5 : 33 ≤ r := by omega
    have e6 : ¬ r ≤ 12287 := by omega
    have e7 : decide (r ≤ 12287) = false := decide_eq_false e6
    have E7 := hide e7
    clear hdg d0 d1 d2 d3 d4 d5
    generalize sgnR r = R at *
    go_enter Try.func94, Try.ntmps94
    go_wp2_with fail
    refine HD.out.mono ?_
    rintro e w' ⟨rfl, rfl⟩
    go_wp2
    go_ret
    first | exact ⟨ret_bool HP.out.symm, rfl⟩ | exact ⟨ret_bool (E7.out.trans HP.out.symm), rfl⟩
  by_cases d6 : 127 ≤ r
  · have HP : Hid (sgnR r = true) := by unfold sgnR; exact decide_eq_true (by omega)
    have hdg : decide (48 ≤ r ∧ r ≤ 57) = false := decide_eq_false (by omega)
    rw [hdg] at HD
    have e1 : (r == 40) = false := by rw [beq_eq_false_iff_ne]; omega
    have e2 : (r == 41) = false := by rw [beq_eq_false_iff_ne]; omega
    have e3 : 127 ≤ r := by omega
    have e4 : ¬ r ≤ 160 := by omega
    have e5 : 33 ≤ r := by omega
    have e6 : r ≤ 12287 := by omega
    clear hdg d0 d1 d2 d3 d4 d5 d6
    generalize sgnR r = R at *
    go_enter Try.func94, Try.ntmps94
    go_wp2_with fail
    refine HD.out.mono ?_
    rintro e w' ⟨rfl, rfl⟩
    go_wp2
    go_ret
    exact ⟨ret_bool HP.out.symm, rfl⟩
  have HP : Hid (sgnR r = true) := by unfold sgnR; exact decide_eq_true (by omega)
  have hdg : decide (48 ≤ r ∧ r ≤ 57) = false := decide_eq_false (by omega)
  rw [hdg] at HD
  have e1 : (r == 40) = false := by rw [beq_eq_false_iff_ne]; omega
  have e2 : (r == 41) = false := by rw [beq_eq_false_iff_ne]; omega
  have e3 : ¬ 127 ≤ r := by omega
  have e5 : 33 ≤ r := by omega
  have e6 : r ≤ 12287 := by omega
  clear hdg d0 d1 d2 d3 d4 d5 d6
  generalize sgnR r = R at *
  go_enter Try.func94, Try.ntmps94
  go_wp2_with fail
  refine HD.out.mono ?_
  rintro e w' ⟨rfl, rfl⟩
  go_wp2
  go_ret
  exact ⟨ret_bool HP.out.symm, rfl⟩

set_option maxRecDepth 20000 in
set_option maxHeartbeats 1000000 in
theorem isSign_ok (r s : Int) (u : Value) (B : Nat) (w : World) (hB : w.cell? ⟨B, 0, none⟩ = some (.int .i32 s)) (hb : B < w.heap.size) (hne : r ≠ s) :
    Calls Try.prog 113 #[.agg #[.int .i32 r, u], .pointer (some ⟨B, 0, none⟩)] w fun e w' => e = .returned (.bool false) ∧ Below w.heap.size w w' := by
  have hne' : (r == s) = false := by rw [beq_eq_false_iff_ne]; exact hne
  have hB1 : Below w.heap.size w (w.alloc (.cells #[.int .i32 r, u] 47)) := (Below.refl _ _).alloc (Nat.le_refl _) _
  have g1 : (w.alloc (.cells #[.int .i32 r, u] 47)).cell? ⟨B, 0, none⟩ = some (.int .i32 s) := (hB1.cell (p := ⟨B, 0, none⟩) hb).trans hB
  have g2 : (w.alloc (.cells #[.int .i32 r, u] 47)).cell? ⟨w.heap.size, 0, none⟩ = some (.int .i32 r) := by
    have h9 := heap_alloc_new w (.cells #[.int .i32 r, u] 47)
    unfold World.cell?
    simp only [h9]
    rfl
  clear hB
  go_enter Try.func113, Try.ntmps113
  go_wp2
  go_ret
  exact ⟨rfl, hB1⟩

set_option maxRecDepth 20000 in
set_option maxHeartbeats 1000000 in
theorem indexSign_none (s : Int) (B : Nat) (b off m cap : Nat) (w : World) (hB : w.cell? ⟨B, 0, none⟩ = some (.int .i32 s)) (hb : B < w.heap.size) (hbl : b < w.heap.size)
    (hcell : ∀ k, k < m → ∃ r u, w.cell? ⟨b, off + k * 2, none⟩ = some (.int .i32 r) ∧ w.cell? ⟨b, off + k * 2 + 1, none⟩ = some u ∧ r ≠ s ∧ u.oneCell' = true) (hm3 : m ≤ 1000) :
    Calls Try.prog 112 #[.slice (some ⟨b, off, none⟩) m cap, .func (.func 113) #[] #[.pointer (some ⟨B, 0, none⟩)]] w fun e w' => e = .returned (.int .i64 (-1)) ∧ Below w.heap.size w w' := by
  have HC := hide hcell
  have HB := hide hB
  clear hcell hB
  go_enter Try.func112, Try.ntmps112
  go_wp2
  go_loopw [8] (fun i wr => ∃ k : Nat, k ≤ m ∧ i = .int .i64 k ∧ Below w.heap.size w wr) (fun i _ => m - (intOf i).toNat)
  case atStart => exact ⟨0, by omega, rfl, Below.refl _ _⟩
  case round =>
    obtain ⟨k, hk, rfl, hbw⟩ := hrel
    have hbs := hbw.size
    by_cases hlt : k < m
    · obtain ⟨r, u, a1, a2, a3, a4⟩ := HC.out k hlt
      have g1 : wr.cell? ⟨b, off + k * 2, none⟩ = some (.int .i32 r) := (hbw.cell (by exact hbl)).trans a1
      have g2 : wr.cell? ⟨b, off + k * 2 + 1, none⟩ = some u := (hbw.cell (p := ⟨b, off + k * 2 + 1, none⟩) (by exact hbl)).trans a2
      have HK := hide (isSign_ok r s u B wr ((hbw.cell (p := ⟨B, 0, none⟩) hb).trans HB.out) (by omega) a3)
      clear a1 a2 a3
      go_wp2_with fail
      refine HK.out.mono ?_
      rintro e w2 ⟨rfl, hb2⟩
      have hB2 : Below w.heap.size w w2 := hbw.trans (hb2.mono hbs)
      clear hb2
      go_wp2
      go_roundw
      case rel => exact ⟨k + 1, by omega, by go_num, hB2⟩
      case measure => simp [intOf]; omega
    · go_wp2
      go_ret
      exact ⟨rfl, hbw⟩

set_option maxRecDepth 20000 in
set_option maxHeartbeats 1000000 in
theorem find_none (s : Int) (b off m cap : Nat) (w : World) (hbl : b < w.heap.size)
    (hcell : ∀ k, k < m → ∃ r u, w.cell? ⟨b, off + k * 2, none⟩ = some (.int .i32 r) ∧ w.cell? ⟨b, off + k * 2 + 1, none⟩ = some u ∧ r ≠ s ∧ u.oneCell' = true) (hm3 : m ≤ 1000) :
    Calls Try.prog 95 #[.slice (some ⟨b, off, none⟩) m cap, .int .i32 s] w fun e w' => e = .returned (.int .i64 (-1)) ∧ Below w.heap.size w w' := by
  have hmf : ∀ (fn : Fn) (first cap : Array Value) (w : World), (Instr.makeFunc fn first cap).run Try.prog w = .ok (.func fn first cap) w := fun _ _ _ _ => rfl
  have hB1 : Below w.heap.size w (w.alloc (.cells #[.int .i32 s] 21)) := (Below.refl _ _).alloc (Nat.le_refl _) _
  have h9 := heap_alloc_new w (.cells #[.int .i32 s] 21)
  have HI := hide (indexSign_none s w.heap.size b off m cap (w.alloc (.cells #[.int .i32 s] 21)) (by unfold World.cell?; simp only [h9]; rfl) (by simp) (by simp; omega) (fun k hk => by
    obtain ⟨r, u, a1, a2, a3⟩ := hcell k hk
    exact ⟨r, u, (hB1.cell (p := ⟨b, off + k * 2, none⟩) hbl).trans a1, (hB1.cell (p := ⟨b, off + k * 2 + 1, none⟩) hbl).trans a2, a3⟩) hm3)
  clear hcell h9
  go_enter Try.func95, Try.ntmps95
  go_wp2_with fail
  refine HI.out.mono ?_
  rintro e w2 ⟨rfl, hb2⟩
  have hB2 : Below w.heap.size w w2 := hB1.trans (hb2.mono (by simp))
  clear hb2 hB1
  go_wp2
  go_ret
  exact ⟨rfl, hB2⟩

set_option maxRecDepth 20000 in
set_option maxHeartbeats 2000000 in
theorem checkOne_ok (sn : ByteArray) (n : Int) (vp : Option Addr) (k vc : Nat) (s : Int) (cv : Value) (css : List (List Int)) (b off m cap : Nat) (w : World) (h1 : 1 ≤ n) (h2 : n ≤ 12) (hs1 : sgnR s = true) (hbl : b < w.heap.size)
    (hcell : ∀ k, k < m → ∃ r u, w.cell? ⟨b, off + k * 2, none⟩ = some (.int .i32 r) ∧ w.cell? ⟨b, off + k * 2 + 1, none⟩ = some u ∧ r ≠ s ∧ u.oneCell' = true) (hm3 : m ≤ 1000)
    (hcv : IntsAll w cv css) (hl : css.length ≤ k) (hok : ∀ j, j < css.length → okc n 0 (css.getD j []) = true) :
    Calls Try.prog 69 #[meth sn n (.slice vp k vc), .slice (some ⟨b, off, none⟩) m cap, .agg #[.int .i32 s, cv]] w fun e w' => e = .returned (.int .i64 0) ∧ Below w.heap.size w w' := by
  obtain ⟨cp, cc, rfl⟩ := hcv.len
  have hBW : Below w.heap.size w ((w.alloc (.cells #[.string sn, .int .i64 n, .slice vp k vc] 24)).alloc (.cells #[.int .i32 s, .slice cp css.length cc] 47)) := ((Below.refl _ _).alloc (Nat.le_refl _) _).alloc (by simp) _
  have hbox := ((Box.start w sn n (.slice vp k vc) 24).below ((Below.refl _ _).alloc (Nat.le_refl _) (.cells #[.int .i32 s, .slice cp css.length cc] 47)))
  have h9 := heap_alloc_new (w.alloc (.cells #[.string sn, .int .i64 n, .slice vp k vc] 24)) (.cells #[.int .i32 s, .slice cp css.length cc] 47)
  rw [show (w.alloc (.cells #[.string sn, .int .i64 n, .slice vp k vc] 24)).heap.size = w.heap.size + 1 from by simp] at h9
  have c0 : ((w.alloc (.cells #[.string sn, .int .i64 n, .slice vp k vc] 24)).alloc (.cells #[.int .i32 s, .slice cp css.length cc] 47)).cell? ⟨w.heap.size + 1, 0, none⟩ = some (.int .i32 s) := by
    unfold World.cell?; simp only [h9]; rfl
  have c1 : ((w.alloc (.cells #[.string sn, .int .i64 n, .slice vp k vc] 24)).alloc (.cells #[.int .i32 s, .slice cp css.length cc] 47)).cell? ⟨w.heap.size + 1, 1, none⟩ = some (.slice cp css.length cc) := by
    unfold World.cell?; simp only [h9]; rfl
  have HSG := hide (fun W => sign_any s W)
  rw [hs1] at HSG
  have HFD := hide (fun W (hb : Below w.heap.size w W) => find_none s b off m cap W (Nat.lt_of_lt_of_le hbl hb.size) (fun k hk => by
    obtain ⟨r, u, a1, a2, a3⟩ := hcell k hk
    exact ⟨r, u, (hb.cell (p := ⟨b, off + k * 2, none⟩) hbl).trans a1, (hb.cell (p := ⟨b, off + k * 2 + 1, none⟩) hbl).trans a2, a3⟩) hm3)
  have HCV := hide hcv
  have HOK := hide hok
  have HBX := hide hbox
  clear hcell hcv hok h9 hbox
  unfold meth
  go_enter Try.func69, Try.ntmps69
  go_wp2_with fail
  refine (HSG.out _).mono ?_
  rintro e w' ⟨rfl, rfl⟩
  go_wp2_with fail
  refine (HFD.out _ hBW).mono ?_
  rintro e w2 ⟨rfl, hb2⟩
  have hB2 : Below w.heap.size w w2 := hBW.trans (hb2.mono hBW.size)
  have d1 : w2.cell? ⟨w.heap.size + 1, 1, none⟩ = some (.slice cp css.length cc) := (hb2.cell (p := ⟨w.heap.size + 1, 1, none⟩) (by simp)).trans c1
  have hx2 := HBX.out.below hb2
  have e1 := hx2.c1
  have e2 := hx2.c2
  have hgt : ¬ (((k : Nat) : Int) < ((css.length : Nat) : Int)) := by omega
  have hgd : decide (((k : Nat) : Int) < ((css.length : Nat) : Int)) = false := decide_eq_false hgt
  have hgn : decide (k < css.length) = false := decide_eq_false (by omega)
  have HB2 := hide hB2
  have HE1 := hide e1
  clear c0 c1 hb2 HSG HFD hBW HBX hx2 hB2 hl hgt
  go_wp2
  go_loopw [32] (fun i wr => ∃ j : Nat, j ≤ css.length ∧ i = .int .i64 j ∧ Hid (Below w.heap.size w wr) ∧ Hid (wr.cell? ⟨w.heap.size, 1, none⟩ = some (.int .i64 n))) (fun i _ => css.length - (intOf i).toNat)
  case atStart => exact ⟨0, by omega, rfl, HB2, HE1⟩
  case round =>
    clear e1 HB2 HE1 d1 e2
    obtain ⟨j, hj, rfl, hbw, hen⟩ := hrel
    have hB2 := hbw.out
    have e1 := hen.out
    by_cases hlt : j < css.length
    · obtain ⟨b3, off3, cap3, he, hb3, hlc3, hcm3, hcell3⟩ := (HCV.out.below hB2).cell (by omega)
      simp only [Value.slice.injEq] at he
      obtain ⟨rfl, he2, rfl⟩ := he
      clear he2
      obtain ⟨q, c, hce, hint⟩ := hcell3 j hlt
      have HPC := hide (pcheck_any n _ _ _ h1 h2 hint.out)
      rw [show pck n (css.getD j []) = 0 from by unfold pck; rw [if_pos (HOK.out j hlt)]] at HPC
      clear hint hcell3
      generalize (css.getD j []).length = pl at hce HPC
      go_wp2_with fail
      refine HPC.out.mono ?_
      rintro e w' ⟨rfl, rfl⟩
      go_wp2
      go_roundw
      case rel => exact ⟨j + 1, by omega, by go_num, hbw, hen⟩
      case measure => simp [intOf]; omega
    · go_wp2
      go_ret
      exact ⟨rfl, hB2⟩

end Go.Proofs.Ytoiiadiimfohiaa

/- Contract: call.Check, where all may be. -/
namespace Go.Proofs.Ytoiiadiimfohiaa
open Go.RowKit

theorem below_drewJ (w : World) : Below w.heap.size w w.drew := (Below.refl _ _).drew

/-- What calls must be. -/
structure CallsOk (n : Int) (k : Nat) (cs : List (Int × List (List Int))) : Prop where
  sign : ∀ j, j < cs.length → sgnR (cs.getD j (0, [])).1 = true
  dist : ∀ i j, i < j → j < cs.length → (cs.getD i (0, [])).1 ≠ (cs.getD j (0, [])).1
  few : ∀ j, j < cs.length → (cs.getD j (0, [])).2.length ≤ k
  ok : ∀ j, j < cs.length → ∀ q, q < (cs.getD j (0, [])).2.length → okc n 0 ((cs.getD j (0, [])).2.getD q []) = true

set_option maxRecDepth 20000 in
set_option maxHeartbeats 4000000 in
theorem ccheck_ok (s : ByteArray) (n : Nat) (vp : Option Addr) (vc : Nat) (css : List (List Int)) (cv : Value) (cs : List (Int × List (List Int))) (w : World) (hs : s.size ≤ 9223372036854775807) (hn : nm s = true) (h1 : 2 ≤ n) (h2 : n ≤ 12) (hl1 : 1 ≤ css.length) (hl2 : css.length ≤ 200)
    (hv : IntsAll w (.slice vp css.length vc) css) (hok : ∀ k, k < css.length → okc n 0 (css.getD k []) = true) (hcv : CallsAt w cv cs) (hco : CallsOk n css.length cs) (hc1 : 1 ≤ cs.length) (hc2 : cs.length ≤ 8) :
    Calls Try.prog 46 #[meth s n (.slice vp css.length vc), cv] w fun e w' => e = .returned (.int .i64 0) ∧ Below w.heap.size w w' := by
  have hB0 : Below w.heap.size w (w.alloc (.cells #[.string s, .int .i64 n, .slice vp css.length vc] 24)) := (Below.refl _ _).alloc (Nat.le_refl _) _
  have HMC := hide (mcheck_ok s n (.slice vp css.length vc) css (w.alloc (.cells #[.string s, .int .i64 n, .slice vp css.length vc] 24)) hs hn h1 h2 hl1 hl2 (hv.below hB0) hok)
  have hbox := Box.start w s n (.slice vp css.length vc) 24
  obtain ⟨b, off, cap, rfl, hb, hlc, hcm, hcell⟩ := hcv
  have HC := hide hcell
  have HCO := hide hco
  have HBX := hide hbox
  clear hn hv hok hco hcell hbox
  generalize css.length = K at *
  unfold meth at HMC
  unfold meth
  go_enter Try.func46, Try.ntmps46
  go_wp2_with fail
  refine HMC.out.mono ?_
  rintro e w1 ⟨rfl, hb1⟩
  have hB1 : Below w.heap.size w w1 := hB0.trans (hb1.mono (by simp))
  have HX1 := hide (HBX.out.below hb1)
  clear HMC HBX hb1 hB0
  go_wp2
  go_loopw [24] (fun i wr => ∃ j : Nat, j ≤ cs.length ∧ i = .int .i64 j ∧ Hid (Box wr w.heap.size s n (.slice vp K vc)) ∧ Below w.heap.size w wr) (fun i _ => cs.length - (intOf i).toNat)
  case atStart => exact ⟨0, by omega, rfl, HX1, hB1⟩
  case round =>
    clear HX1 hB1
    obtain ⟨j, hj, rfl, hX, hbw⟩ := hrel
    have hbs := hbw.size
    by_cases hlt : j < cs.length
    · obtain ⟨u, a1, a2, a3⟩ := HC.out j hlt
      have g1 : wr.cell? ⟨b, off + j * 2, none⟩ = some (.int .i32 (cs.getD j (0, [])).1) := (hbw.cell (by exact hb)).trans a1
      have g2 : wr.cell? ⟨b, off + j * 2 + 1, none⟩ = some u := (hbw.cell (p := ⟨b, off + j * 2 + 1, none⟩) (by exact hb)).trans a2
      obtain ⟨up, uc, rfl⟩ := a3.len
      have HCK := hide (fun W (hW : Below w.heap.size w W) => checkOne_ok s n vp K vc (cs.getD j (0, [])).1 (.slice up (cs.getD j (0, [])).2.length uc) (cs.getD j (0, [])).2 b off j cap W (by omega) (by omega) (HCO.out.sign j hlt) (Nat.lt_of_lt_of_le hb hW.size) (fun i hi => by
        obtain ⟨u', b1, b2, b3⟩ := HC.out i (by omega)
        obtain ⟨p', c', e'⟩ := b3.len
        exact ⟨_, u', (hW.cell (p := ⟨b, off + i * 2, none⟩) hb).trans b1, (hW.cell (p := ⟨b, off + i * 2 + 1, none⟩) hb).trans b2, HCO.out.dist i j hi hlt, by rw [e']; rfl⟩) (by omega) (a3.below hW) (HCO.out.few j hlt) (HCO.out.ok j hlt))
      clear a1 a2 a3
      generalize (cs.getD j (0, [])).1 = sg at *
      generalize (cs.getD j (0, [])).2.length = ul at *
      go_upto_region 9 with fail
      have hXA := hX.out.below ((Below.refl wr.heap.size wr).alloc (Nat.le_refl _) (.cells #[.int .i32 sg, .slice up ul uc] 47))
      have h9 := heap_alloc_new wr (.cells #[.int .i32 sg, .slice up ul uc] 47)
      have hBA : Below w.heap.size w (wr.alloc (.cells #[.int .i32 sg, .slice up ul uc] 47)) := hbw.alloc hbs _
      have hRA : wr.heap.size < (wr.alloc (.cells #[.int .i32 sg, .slice up ul uc] 47)).heap.size := by simp
      have d0 : (wr.alloc (.cells #[.int .i32 sg, .slice up ul uc] 47)).cell? ⟨wr.heap.size, 0, none⟩ = some (.int .i32 sg) := by unfold World.cell?; simp only [h9]; rfl
      have d1 : (wr.alloc (.cells #[.int .i32 sg, .slice up ul uc] 47)).cell? ⟨wr.heap.size, 1, none⟩ = some (.slice up ul uc) := by unfold World.cell?; simp only [h9]; rfl
      have b0 := hXA.c0
      have b1 := hXA.c1
      have b2 := hXA.c2
      have hbl := hXA.lt
      have HXA := hide hXA
      clear h9 g1 g2 hX hXA
      generalize (wr.alloc (.cells #[.int .i32 sg, .slice up ul uc] 47)) = WA at *
      generalize wr.heap.size = RA at *
      refine wp_region_held_drew (S := fun W' => Below WA.heap.size WA W') (by kernel_rfl) (below_drewJ WA) (fun hS => ?_)
      refine wpAnyH_take (i := 0) (v := .agg #[.string s, .int .i64 (n : Int), .slice vp K vc]) rfl (by kernel_rfl) (by kernel_rfl) (by kernel_rfl) (fun _ _ _ h => h) (Or.inl ⟨by kernel_rfl, fun w' hS' => by have q0 := (Below.cell hS' (p := ⟨w.heap.size, 0, none⟩) (by exact hbl)).trans b0; have q1 := (Below.cell hS' (p := ⟨w.heap.size, 1, none⟩) (by exact hbl)).trans b1; have q2 := (Below.cell hS' (p := ⟨w.heap.size, 2, none⟩) (by exact hbl)).trans b2; clear hS'; go_simp⟩) hS ?_
      refine wpAnyH_take (i := 1) (v := .slice (some ⟨b, off, none⟩) cs.length cap) rfl (by kernel_rfl) (by kernel_rfl) (by kernel_rfl) (fun _ _ _ h => h) (Or.inl ⟨by kernel_rfl, fun w' hS' => by clear hS'; go_simp⟩) hS ?_
      refine wpAnyH_take (i := 2) (v := .int .i64 (j : Int)) rfl (by kernel_rfl) (by kernel_rfl) (by kernel_rfl) (fun _ _ _ h => h) (Or.inl ⟨by kernel_rfl, fun w' hS' => by clear hS'; go_simp⟩) hS ?_
      refine wpAnyH_take (i := 3) (v := .slice (some ⟨b, off, none⟩) j cap) rfl (by kernel_rfl) (by kernel_rfl) (by kernel_rfl) (fun _ _ _ h => h) (Or.inl ⟨by kernel_rfl, fun w' hS' => by clear hS'; go_simp; intro h0; exact absurd h0 (by omega)⟩) hS ?_
      refine wpAnyH_take (i := 4) (v := .agg #[.int .i32 sg, .slice up ul uc]) rfl (by kernel_rfl) (by kernel_rfl) (by kernel_rfl) (fun _ _ _ h => h) (Or.inl ⟨by kernel_rfl, fun w' hS' => by have q0 := (Below.cell hS' (p := ⟨RA, 0, none⟩) (by exact hRA)).trans d0; have q1 := (Below.cell hS' (p := ⟨RA, 1, none⟩) (by exact hRA)).trans d1; clear hS'; go_simp⟩) hS ?_
      refine wpAnyH_ready (rs := [5]) (by kernel_rfl) (by simp) ?_
      refine AllReadyH.cons rfl (fun K hK => ?_) AllReadyH.nil
      go_simp
      have hS0 := below_drewJ WA
      refine (HCK.out WA.drew (hBA.trans (hS0.mono hBA.size))).mono ?_
      rintro ex wo ⟨rfl, hbo⟩
      have hSo : Below WA.heap.size WA wo := hS0.trans (hbo.mono hS0.size)
      refine hK.out _ _ hSo (fun hS => ?_)
      clear hK
      refine wpAnyH_take (i := 6) (v := .int .i64 0) rfl (by kernel_rfl) (by kernel_rfl) (by kernel_rfl) (fun _ _ _ h => h) (Or.inl ⟨by kernel_rfl, fun w' hS' => by clear hS'; go_simp⟩) hS ?_
      refine wpAnyH_done (by kernel_rfl) ?_ _
      have HXo := hide (HXA.out.below hSo)
      have hBo : Below w.heap.size w wo := hBA.trans (hSo.mono hBA.size)
      clear hSo hbo hS0 HCK HXA
      go_wp2
      go_roundw
      case rel => exact ⟨j + 1, by omega, by go_num, HXo, hBo⟩
      case measure => simp [intOf]; omega
    · go_wp2
      go_ret
      exact ⟨rfl, hbw⟩

end Go.Proofs.Ytoiiadiimfohiaa

/- Contract: the answer's CallsMay, at calls that may be. -/
namespace Go.Proofs.Ytoiiadiimfohiaa
open Go.RowKit
set_option maxRecDepth 20000
set_option linter.unusedVariables false

theorem pc_ok {n : Nat} {x : List Int} (h1 : 1 ≤ n) (h12 : n ≤ 12) (h : okc n 0 x = true) : pc n x = 0 := by
  unfold pc pck
  rw [if_pos (by omega), if_pos h]

set_option maxHeartbeats 16000000 in
theorem rcalls_ok (s : ByteArray) (n : Nat) (vp : Option Addr) (vc : Nat) (X : List (List Int)) (cv : Value) (cs : List (Int × List (List Int))) (w : World) (hs : s.size ≤ 1048576) (hn : isN (arunes s) = true) (h1 : 2 ≤ n) (h2 : n ≤ 12) (hl1 : 1 ≤ X.length) (hl2 : X.length ≤ 200)
    (hv : IntsAll w (.slice vp X.length vc) X) (hX : ∀ k, k < X.length → okc n 0 (X.getD k []) = true) (hcv : CallsAt w cv cs) (hco : CallsOk n X.length cs) (hc1 : 1 ≤ cs.length) (hc2 : cs.length ≤ 8) :
    Calls Try.prog 24 #[.agg #[.string s, .int .i64 n, .slice vp X.length vc], cv] w fun e w' => e = .returned (.int .i64 0) ∧ Below w.heap.size w w' := by
  obtain ⟨m, hm⟩ : ∃ m, Hid (X.length = m) := ⟨_, rfl⟩
  have HB0 := hide ((Below.refl w.heap.size w).alloc (Nat.le_refl _) (mbox s n (.slice vp X.length vc)))
  have HMM := hide (rmay_ok s n vp vc X (w.alloc (mbox s n (.slice vp X.length vc))) hs hn h1 h2 hl1 hl2 (hv.below HB0.out) (fun x hx => by
    obtain ⟨k, hk, e⟩ := List.getElem_of_mem hx
    have := hX k hk
    rw [List.getD_eq_getElem?_getD, List.getElem?_eq_getElem hk] at this
    subst e
    exact pc_ok (by omega) h2 this))
  rw [hm.out] at HB0 HMM hl1 hl2 ⊢
  obtain ⟨b, off, cap, rfl, hbl, hcc1, hcc2, hcr⟩ := hcv
  obtain ⟨C, hC⟩ : ∃ C, Hid (cs.length = C) := ⟨_, rfl⟩
  have HCR := hide hcr
  have HCO := hide hco
  rw [hC.out] at hc1 hc2 hcc1 ⊢
  obtain ⟨d0, d1, d2⟩ := mbox_cells w s n (.slice vp m vc)
  clear hcr hco hv hX hn
  go_enter Try.func24, Try.ntmps24
  go_wp2_with fail
  refine HMM.out.mono ?_
  rintro e w1 ⟨rfl, hb1⟩
  have k1 : w1.cell? ⟨w.heap.size, 1, none⟩ = some (.int .i64 n) := by rw [hb1.cell (p := ⟨w.heap.size, 1, none⟩) (by simp)]; exact d1
  have k2 : w1.cell? ⟨w.heap.size, 2, none⟩ = some (.slice vp m vc) := by rw [hb1.cell (p := ⟨w.heap.size, 2, none⟩) (by simp)]; exact d2
  have HB1 := hide (HB0.out.trans (hb1.mono HB0.out.size))
  clear hb1 HB0 HMM d0 d1 d2
  have g3 : ¬ (C : Int) < 1 := by omega
  have g4 : ¬ 8 < (C : Int) := by omega
  go_wp2
  go_loopw [6] (fun i wr => ∃ k : Nat, k ≤ C ∧ i = .int .i64 k ∧ Hid (Below w.heap.size w wr) ∧ wr.cell? ⟨w.heap.size, 1, none⟩ = some (.int .i64 n) ∧ wr.cell? ⟨w.heap.size, 2, none⟩ = some (.slice vp m vc)) (fun i _ => C - (intOf i).toNat)
  case atStart => exact ⟨0, by omega, rfl, HB1, k1, k2⟩
  case round =>
    obtain ⟨k, hk, rfl, hbw, k1, k2⟩ := hrel
    clear HB1
    by_cases hlt : k < C
    · have hkc : k < cs.length := by rw [hC.out]; exact hlt
      obtain ⟨u, hcs, hcu, hcI⟩ := HCR.out k hkc
      have hsg := HCO.out.sign k hkc
      have hfew := HCO.out.few k hkc
      obtain ⟨up, uc, rfl⟩ := hcI.len
      obtain ⟨Y, hY⟩ : ∃ Y, Hid ((cs.getD k (0, [])).2 = Y) := ⟨_, rfl⟩
      have HOK := hide (fun q (hq : q < Y.length) => (by rw [← hY.out] at hq ⊢; exact pc_ok (by omega) h2 (HCO.out.ok k hkc q hq) : pc n (Y.getD q []) = 0))
      have HDI := hide (fun j (hj : j < k) => HCO.out.dist j k hj hkc)
      rw [hY.out] at hcI hcu hfew
      rw [hm.out] at hfew
      obtain ⟨sg, hsg9⟩ : ∃ sg, Hid ((cs.getD k (0, [])).1 = sg) := ⟨_, rfl⟩
      rw [hsg9.out] at hcs hsg HDI
      have HYI := hide (fun (W : World) (hW : Below w.heap.size w W) => hcI.below hW)
      obtain ⟨N, hN⟩ : ∃ N, Hid (Y.length = N) := ⟨_, rfl⟩
      rw [hN.out] at hcu hfew HYI
      have HS := hide (fun W => signMay_any sg W)
      rw [hsg] at HS
      have hcs' := (hbw.out.cell (p := ⟨b, off + k * 2, none⟩) hbl).trans hcs
      clear hcI hsg hY
      go_wp2_with fail
      refine (HS.out _).mono ?_
      rintro e w2 ⟨rfl, rfl⟩
      clear hcs'
      go_wp2
      go_loopw [8] (fun i wr => ∃ j : Nat, j ≤ k ∧ i = .int .i64 j ∧ Hid (Below w.heap.size w wr) ∧ wr.cell? ⟨w.heap.size, 1, none⟩ = some (.int .i64 n) ∧ wr.cell? ⟨w.heap.size, 2, none⟩ = some (.slice vp m vc)) (fun i _ => k - (intOf i).toNat)
      case atStart => exact ⟨0, by omega, rfl, hbw, k1, k2⟩
      case round =>
        obtain ⟨j, hj, rfl, hbw2, l1, l2⟩ := hrel
        clear hbw k1 k2
        by_cases hjk : j < k
        · have hjc : j < cs.length := by omega
          obtain ⟨u2, hcs2, _, _⟩ := HCR.out j hjc
          have hne := HDI.out j hjk
          have a1 := (hbw2.out.cell (p := ⟨b, off + j * 2, none⟩) hbl).trans hcs2
          have a2 := (hbw2.out.cell (p := ⟨b, off + k * 2, none⟩) hbl).trans hcs
          generalize (cs.getD j (0, [])).1 = sj at *
          have hb9 : (sj == sg) = false := by rw [beq_eq_false_iff_ne]; exact hne
          go_upto_region 15 with fail
          go_quiet (fail)
          have hB3 := hide (below_drewN hbw2.out nq)
          have n1 : (_ : World).cell? ⟨w.heap.size, 1, none⟩ = some (.int .i64 n) := (show (World.drewN _ nq).cell? ⟨w.heap.size, 1, none⟩ = some (.int .i64 n) from l1)
          have n2 : (_ : World).cell? ⟨w.heap.size, 2, none⟩ = some (.slice vp m vc) := (show (World.drewN _ nq).cell? ⟨w.heap.size, 2, none⟩ = some (.slice vp m vc) from l2)
          clear a1 a2 l1 l2 hbw2
          go_wp2
          go_roundw
          case rel => exact ⟨j + 1, by omega, by go_num, hB3, n1, n2⟩
          case measure => simp [intOf]; omega
        · have a3 := (hbw2.out.cell (p := ⟨b, off + k * 2 + 1, none⟩) hbl).trans hcu
          have g9 : ¬ (m : Int) < (N : Int) := by omega
          go_upto_region 17 with fail
          go_quiet (fail)
          have hB3 := hide (below_drewN hbw2.out nq)
          have n1 : (_ : World).cell? ⟨w.heap.size, 1, none⟩ = some (.int .i64 n) := (show (World.drewN _ nq).cell? ⟨w.heap.size, 1, none⟩ = some (.int .i64 n) from l1)
          have n2 : (_ : World).cell? ⟨w.heap.size, 2, none⟩ = some (.slice vp m vc) := (show (World.drewN _ nq).cell? ⟨w.heap.size, 2, none⟩ = some (.slice vp m vc) from l2)
          clear a3 l1 l2 hbw2
          go_wp2
          go_loopw [9] (fun i wr => ∃ q : Nat, q ≤ N ∧ i = .int .i64 q ∧ Hid (Below w.heap.size w wr) ∧ wr.cell? ⟨w.heap.size, 1, none⟩ = some (.int .i64 n) ∧ wr.cell? ⟨w.heap.size, 2, none⟩ = some (.slice vp m vc)) (fun i _ => N - (intOf i).toNat)
          case atStart => exact ⟨0, by omega, rfl, hB3, n1, n2⟩
          case round =>
            obtain ⟨q, hq, rfl, hbw3, l1, l2⟩ := hrel
            clear hB3 n1 n2
            have a3 := (hbw3.out.cell (p := ⟨b, off + k * 2 + 1, none⟩) hbl).trans hcu
            by_cases hqN : q < N
            · have hqY : q < Y.length := by rw [hN.out]; exact hqN
              obtain ⟨yb, yo, ycap, hye, hyb, hyc1, hyc2, hycell⟩ := (HYI.out w (Below.refl _ _)).cell (by omega)
              rw [hN.out] at hye hyc1 hycell
              injection hye with e1 _ e3
              subst e1; subst e3
              obtain ⟨xp, xc, hxc, hxI⟩ := hycell q hqN
              have a4 := (hbw3.out.cell (p := ⟨yb, yo + q, none⟩) hyb).trans hxc
              have hz := HOK.out q hqY
              have HC := hide (fun (W : World) (hW : Below w.heap.size w W) => changeMay_all n (.slice xp (Y.getD q []).length xc) (Y.getD q []) W (hxI.out.below hW))
              rw [hz] at HC
              generalize (Y.getD q []).length = pl at *
              have HC2 : ∀ W : World, Below w.heap.size w W → Calls Try.prog 36 #[.int .i64 n, .slice xp pl xc] W fun e w' => e = .returned (.int .i64 0) ∧ W = w' := HC.out
              clear HC hz hxc hxI hycell
              go_upto_region 22 with fail
              go_quiet ((go_at_call 36; exact Calls.quiet_of_same ((HC2 _ (below_drewN hbw3.out _)).mono (fun e wq h => ⟨h.1, h.2.symm⟩))))
              have hB4 := hide (below_drewN hbw3.out nq)
              have p1 : (_ : World).cell? ⟨w.heap.size, 1, none⟩ = some (.int .i64 n) := (show (World.drewN _ nq).cell? ⟨w.heap.size, 1, none⟩ = some (.int .i64 n) from l1)
              have p2 : (_ : World).cell? ⟨w.heap.size, 2, none⟩ = some (.slice vp m vc) := (show (World.drewN _ nq).cell? ⟨w.heap.size, 2, none⟩ = some (.slice vp m vc) from l2)
              clear a3 a4 l1 l2 hbw3 HC2
              go_wp2
              go_roundw
              case rel => exact ⟨q + 1, by omega, by go_num, hB4, p1, p2⟩
              case measure => simp [intOf]; omega
            · have hqe : q = N := by omega
              go_wp2
              go_roundw
              case rel => exact ⟨k + 1, by omega, by go_num, hbw3, l1, l2⟩
              case measure => simp [intOf]; omega
    · go_wp2
      go_ret
      exact ⟨rfl, hbw.out⟩

end Go.Proofs.Ytoiiadiimfohiaa

/- Plain: rows of twelve bells as a group that acts on bells; what some rows generate. -/
namespace Go.Proofs.Ytoiiadiimfohiaa

/-- Rows of twelve bells. -/
structure Pm where
  l : List Int
  len : l.length = 12
  row : isRow l

namespace Pm

/-- Which bell a row has in a place. -/
def act (x : Pm) (b : Nat) : Nat := if b < 12 then nx x.l b else b

theorem act_lt (x : Pm) {b : Nat} (h : b < 12) : x.act b < 12 := by
  unfold act; rw [if_pos h]
  have := nx_lt x.row (x := b) (by rw [x.len]; exact h)
  rw [x.len] at this; exact this

theorem act_ge (x : Pm) {b : Nat} (h : ¬ b < 12) : x.act b = b := by unfold act; rw [if_neg h]

theorem act_inj (x : Pm) {a b : Nat} (h : x.act a = x.act b) : a = b := by
  by_cases ha : a < 12
  · by_cases hb : b < 12
    · unfold act at h; rw [if_pos ha, if_pos hb] at h
      exact nx_inj x.row (by rw [x.len]; exact ha) (by rw [x.len]; exact hb) h
    · have := x.act_lt ha; rw [h, x.act_ge hb] at this; exact absurd this hb
  · by_cases hb : b < 12
    · have := x.act_lt hb; rw [← h, x.act_ge ha] at this; exact absurd this ha
    · rw [x.act_ge ha, x.act_ge hb] at h; exact h

theorem getD_act (x : Pm) {b : Nat} (h : b < 12) : x.l.getD b 0 = ((x.act b : Nat) : Int) := by
  unfold act; rw [if_pos h]
  have := x.row.at (j := b) (by rw [x.len]; exact h)
  unfold nx; omega

theorem ext' {x y : Pm} (h : ∀ b, b < 12 → x.act b = y.act b) : x = y := by
  have e : x.l = y.l := ext_getD (by rw [x.len, y.len]) (fun j hj => by
    rw [x.len] at hj
    rw [x.getD_act hj, y.getD_act hj, h j hj])
  cases x; cases y; cases e; rfl

theorem eq_of_l {x y : Pm} (e : x.l = y.l) : x = y := by cases x; cases y; cases e; rfl

instance : Mul Pm := ⟨fun x y => ⟨by_ x.l y.l, by rw [by_length]; exact y.len, isRow_by x.row y.row (by rw [x.len, y.len])⟩⟩
instance : One Pm := ⟨⟨rnd 12, rnd_length 12, isRow_rnd 12⟩⟩

theorem mul_l (x y : Pm) : (x * y).l = by_ x.l y.l := rfl
theorem one_l : (1 : Pm).l = rnd 12 := rfl

theorem act_mul (x y : Pm) (b : Nat) : (x * y).act b = x.act (y.act b) := by
  by_cases h : b < 12
  · have h2 := y.act_lt h
    have e1 : y.act b = nx y.l b := by unfold act; rw [if_pos h]
    have e2 : (x * y).act b = nx (x * y).l b := by unfold act; rw [if_pos h]
    have e3 : x.act (y.act b) = nx x.l (y.act b) := by unfold act; rw [if_pos (by exact h2)]
    rw [e2, e3, e1, mul_l, nx_by (by rw [y.len]; exact h)]
  · rw [act_ge _ h, act_ge _ h, act_ge _ h]

theorem act_one (b : Nat) : (1 : Pm).act b = b := by
  by_cases h : b < 12
  · unfold act; rw [if_pos h, one_l]
    have := rnd_get (n := 12) h
    unfold nx; rw [this]; omega
  · exact act_ge _ h

theorem mul_assoc (x y z : Pm) : x * y * z = x * (y * z) := ext' (fun b _ => by rw [act_mul, act_mul, act_mul, act_mul])
theorem one_mul (x : Pm) : 1 * x = x := ext' (fun b _ => by rw [act_mul, act_one])
theorem mul_one (x : Pm) : x * 1 = x := ext' (fun b _ => by rw [act_mul, act_one])

open Classical in
noncomputable def invl (x : Pm) : List Int := (List.range 12).map (fun i => if h : i < 12 then ((Classical.choose (isRow_onto x.row (i := i) (by rw [x.len]; exact h)) : Nat) : Int) else 0)

theorem invl_undoes (x : Pm) : Undoes x.invl x.l := by
  refine ⟨by rw [x.len]; simp [invl], fun j hj => ?_⟩
  have hj' : j < 12 := by rw [← x.len]; exact hj
  have h1 := x.row.at hj
  rw [x.len] at h1
  obtain ⟨m, hm⟩ := Int.eq_ofNat_of_zero_le h1.1
  have hm12 : m < 12 := by omega
  rw [hm]
  have e : x.invl.getD m 0 = ((Classical.choose (isRow_onto x.row (i := m) (by rw [x.len]; exact hm12)) : Nat) : Int) := by
    simp [invl, List.getD, hm12]
  have hs := Classical.choose_spec (isRow_onto x.row (i := m) (by rw [x.len]; exact hm12))
  rw [Int.toNat_natCast, e]
  have := x.row.inj hs.1 hj (by rw [hs.2]; exact hm.symm)
  omega

noncomputable instance : Inv Pm := ⟨fun x => ⟨x.invl, by rw [(invl_undoes x).1]; exact x.len, isRow_undoes x.row (invl_undoes x)⟩⟩

theorem inv_l (x : Pm) : (x⁻¹).l = x.invl := rfl

theorem act_undoes {x z : Pm} (h : Undoes z.l x.l) (b : Nat) : z.act (x.act b) = b := by
  by_cases hb : b < 12
  · have h2 := x.act_lt hb
    have h3 := h.2 b (by rw [x.len]; exact hb)
    unfold act at h2 ⊢
    rw [if_pos hb] at h2 ⊢
    rw [if_pos h2]
    unfold nx at h2 ⊢
    omega
  · rw [act_ge _ hb, act_ge _ hb]

theorem inv_act (x : Pm) (b : Nat) : x⁻¹.act (x.act b) = b := act_undoes (x.invl_undoes) b

theorem act_inv (x : Pm) (b : Nat) : x.act (x⁻¹.act b) = b := by
  apply x⁻¹.act_inj
  rw [inv_act]

theorem inv_mul (x : Pm) : x⁻¹ * x = 1 := ext' (fun b _ => by rw [act_mul, inv_act, act_one])
theorem mul_inv (x : Pm) : x * x⁻¹ = 1 := ext' (fun b _ => by rw [act_mul, act_inv, act_one])
theorem inv_mul_cancel (x y : Pm) : x⁻¹ * (x * y) = y := by rw [← mul_assoc, inv_mul, one_mul]
theorem mul_inv_cancel (x y : Pm) : x * (x⁻¹ * y) = y := by rw [← mul_assoc, mul_inv, one_mul]
theorem mul_cancel {x y z : Pm} (h : x * y = x * z) : y = z := by rw [← inv_mul_cancel x y, h, inv_mul_cancel]
theorem eq_inv_of {x y : Pm} (h : x * y = 1) : y = x⁻¹ := by rw [← inv_mul_cancel x y, h, mul_one]
theorem inv_one : (1 : Pm)⁻¹ = 1 := (eq_inv_of (one_mul 1)).symm
theorem inv_inv (x : Pm) : x⁻¹⁻¹ = x := (eq_inv_of (inv_mul x)).symm
theorem inv_prod (x y : Pm) : (x * y)⁻¹ = y⁻¹ * x⁻¹ := (eq_inv_of (by rw [mul_assoc, ← mul_assoc y, mul_inv, one_mul, mul_inv])).symm

theorem undoes_eq {x : Pm} {zs : List Int} (h : Undoes zs x.l) : zs = (x⁻¹).l := by
  have h1 : isRow zs := isRow_undoes x.row h
  have h2 : zs.length = 12 := by rw [h.1, x.len]
  have e : (⟨zs, h2, h1⟩ : Pm) = x⁻¹ := by
    apply eq_inv_of
    refine ext' (fun b _ => ?_)
    have h3 : (⟨zs, h2, h1⟩ : Pm) * x = 1 := ext' (fun b _ => by rw [act_mul, act_one]; exact act_undoes (x := x) (z := ⟨zs, h2, h1⟩) h b)
    have h4 : x = (⟨zs, h2, h1⟩ : Pm)⁻¹ := eq_inv_of h3
    rw [h4, inv_mul]
  rw [← e]

/-! powers -/
def pow (x : Pm) : Nat → Pm
  | 0 => 1
  | n + 1 => x * x.pow n

theorem act_pow (x : Pm) (n : Nat) {b : Nat} (hb : b < 12) : (x.pow n).act b = it x.l n b := by
  induction n with
  | zero => exact act_one b
  | succ n ih =>
    show (x * x.pow n).act b = _
    have h12 := it_lt x.row (x := b) (by rw [x.len]; exact hb) n
    rw [x.len] at h12
    rw [act_mul, ih]
    show (if it x.l n b < 12 then nx x.l (it x.l n b) else _) = nx x.l (it x.l n b)
    rw [if_pos h12]

theorem dvd_fct {m n : Nat} (h1 : 1 ≤ m) (h2 : m ≤ n) : m ∣ fct n := by
  induction n with
  | zero => omega
  | succ n ih =>
    show m ∣ (n + 1) * fct n
    by_cases e : m = n + 1
    · subst e; exact Nat.dvd_mul_right _ _
    · exact Nat.dvd_trans (ih (by omega)) (Nat.dvd_mul_left _ _)

theorem it_mult {r : List Int} {x p : Nat} (h : it r p x = x) (d : Nat) : it r (p * d) x = x := by
  induction d with
  | zero => rfl
  | succ d ih => rw [Nat.mul_succ, it_add, h, ih]

theorem pow_all (x : Pm) : x.pow (fct 12) = 1 := ext' (fun b hb => by
  have hp := per_spec x.row (x := b) (by rw [x.len]; exact hb)
  rw [x.len] at hp
  obtain ⟨d, hd⟩ := dvd_fct hp.1 hp.2.1
  rw [act_pow x _ hb, hd, it_mult hp.2.2.1, act_one])

theorem inv_pow (x : Pm) : x⁻¹ = x.pow (fct 12 - 1) := by
  symm
  apply eq_inv_of
  show x.pow (fct 12 - 1 + 1) = 1
  rw [show fct 12 - 1 + 1 = fct 12 from by decide]
  exact pow_all x

end Pm

/-! what rows generate -/

inductive Gen (S : Pm → Prop) : Pm → Prop
  | one : Gen S 1
  | mul {s x : Pm} : S s → Gen S x → Gen S (s * x)

structure Sub (H : Pm → Prop) : Prop where
  one : H 1
  mul : ∀ {x y}, H x → H y → H (x * y)
  inv : ∀ {x}, H x → H x⁻¹

theorem Gen.of {S : Pm → Prop} {s : Pm} (h : S s) : Gen S s := by
  have := Gen.mul h Gen.one; rwa [Pm.mul_one] at this

theorem Gen.mul' {S : Pm → Prop} {x y : Pm} (hx : Gen S x) (hy : Gen S y) : Gen S (x * y) := by
  induction hx with
  | one => rw [Pm.one_mul]; exact hy
  | mul hs _ ih => rw [Pm.mul_assoc]; exact Gen.mul hs ih

theorem Gen.pow {S : Pm → Prop} {x : Pm} (hx : Gen S x) (n : Nat) : Gen S (x.pow n) := by
  induction n with
  | zero => exact Gen.one
  | succ n ih => exact Gen.mul' hx ih

theorem Gen.inv {S : Pm → Prop} {x : Pm} (hx : Gen S x) : Gen S x⁻¹ := by rw [Pm.inv_pow]; exact hx.pow _

theorem Gen.sub (S : Pm → Prop) : Sub (Gen S) := ⟨Gen.one, Gen.mul', Gen.inv⟩

theorem Gen.least {S H : Pm → Prop} (hH : Sub H) (h : ∀ s, S s → H s) {x : Pm} (hx : Gen S x) : H x := by
  induction hx with
  | one => exact hH.one
  | mul hs _ ih => exact hH.mul (h _ hs) ih

theorem Gen.mono {S T : Pm → Prop} (h : ∀ s, S s → T s) {x : Pm} (hx : Gen S x) : Gen T x := hx.least (Gen.sub T) (fun s hs => Gen.of (h s hs))

theorem Sub.and {H K : Pm → Prop} (h : Sub H) (k : Sub K) : Sub (fun x => H x ∧ K x) :=
  ⟨⟨h.one, k.one⟩, fun hx hy => ⟨h.mul hx.1 hy.1, k.mul hx.2 hy.2⟩, fun hx => ⟨h.inv hx.1, k.inv hx.2⟩⟩

/-- A row leaves some bells in their places. -/
def Fixes (F : Nat → Prop) (x : Pm) : Prop := ∀ b, F b → x.act b = b

theorem fixes_sub (F : Nat → Prop) : Sub (Fixes F) :=
  ⟨fun b _ => Pm.act_one b, fun {x y} hx hy b hb => by rw [Pm.act_mul, hy b hb, hx b hb], fun {x} hx b hb => by have := hx b hb; rw [← this, Pm.inv_act, this]⟩

theorem fixes_all {F : Nat → Prop} (h : ∀ b, b < 12 → F b) {x : Pm} (hx : Fixes F x) : x = 1 := Pm.ext' (fun b hb => by rw [hx b (h b hb), Pm.act_one])

/-! rows of fewer bells -/

open Classical in
noncomputable def pad (l : List Int) : Pm := if h : l.length ≤ 12 ∧ isRow l then ⟨l ++ (rnd 12).drop l.length, by rw [List.length_append, List.length_drop, rnd_length]; omega, by
    obtain ⟨h1, h2⟩ := h
    constructor
    · intro y hy
      rw [List.length_append, List.length_drop, rnd_length]
      rcases List.mem_append.1 hy with hy | hy
      · have := h2.1 y hy; omega
      · have := (isRow_rnd 12).1 y (List.mem_of_mem_drop hy); rw [rnd_length] at this; omega
    · rw [List.nodup_append]
      refine ⟨h2.2, (isRow_rnd 12).2.sublist (List.drop_sublist _ _), ?_⟩
      intro a ha b hb e
      have h3 := h2.1 a ha
      rw [List.mem_iff_getElem] at hb
      obtain ⟨i, hi, rfl⟩ := hb
      rw [List.getElem_drop] at e
      have h4 : (rnd 12)[l.length + i]'(by rw [List.length_drop] at hi; omega) = ((l.length + i : Nat) : Int) := by simp [rnd]
      rw [h4] at e
      omega⟩ else 1

theorem pad_l {l : List Int} (h1 : l.length ≤ 12) (h2 : isRow l) : (pad l).l = l ++ (rnd 12).drop l.length := by
  unfold pad; rw [dif_pos ⟨h1, h2⟩]

theorem pad_act {l : List Int} (h1 : l.length ≤ 12) (h2 : isRow l) (b : Nat) : (pad l).act b = if b < l.length then nx l b else b := by
  by_cases hb : b < 12
  · unfold Pm.act; rw [if_pos hb, pad_l h1 h2]
    unfold nx
    by_cases hl : b < l.length
    · rw [if_pos hl]; simp [List.getD, List.getElem?_append_left hl]
    · rw [if_neg hl]
      simp only [List.getD]
      rw [List.getElem?_append_right (by omega), List.getElem?_drop, show l.length + (b - l.length) = b from by omega]
      have := rnd_get (n := 12) hb
      simp only [List.getD] at this
      rw [this]; omega
  · rw [Pm.act_ge _ hb, if_neg (by omega)]

theorem pad_by {a b : List Int} (h1 : a.length ≤ 12) (h2 : isRow a) (h3 : isRow b) (h4 : b.length = a.length) : pad (by_ a b) = pad a * pad b := by
  have hr := isRow_by h2 h3 h4
  refine Pm.ext' (fun x _ => ?_)
  rw [Pm.act_mul, pad_act (by rw [by_length]; omega) hr, pad_act (by omega) h3, pad_act h1 h2, by_length]
  by_cases hx : x < b.length
  · have := nx_lt h3 hx
    rw [if_pos hx, if_pos hx, if_pos (by omega), nx_by hx]
  · rw [if_neg hx, if_neg hx, if_neg (by omega)]

theorem pad_rnd {n : Nat} (h : n ≤ 12) : pad (rnd n) = 1 := by
  refine Pm.ext' (fun x _ => ?_)
  rw [pad_act (by rw [rnd_length]; exact h) (isRow_rnd n), Pm.act_one, rnd_length]
  split
  · rename_i hx
    unfold nx; rw [rnd_get hx]; omega
  · rfl

theorem pad_undoes {zs a : List Int} (h1 : a.length ≤ 12) (h2 : isRow a) (h : Undoes zs a) : pad zs = (pad a)⁻¹ := by
  apply Pm.eq_inv_of
  rw [← pad_by h1 h2 (isRow_undoes h2 h) h.1, by_undoes h2 h, pad_rnd h1]

theorem pad_inj {a b : List Int} (h1 : a.length ≤ 12) (ha : isRow a) (hb : isRow b) (hl : b.length = a.length) (h : pad a = pad b) : a = b := by
  refine ext_getD hl.symm (fun j hj => ?_)
  have h3 : (pad a).act j = (pad b).act j := by rw [h]
  rw [pad_act h1 ha, pad_act (by omega) hb, if_pos hj, if_pos (by omega)] at h3
  have h4 := ha.at hj
  have h5 := hb.at (j := j) (by omega)
  unfold nx at h3; omega

/-- The first n bells of a row that leaves the rest. -/
def cut (n : Nat) (x : Pm) : List Int := x.l.take n

theorem cut_length {n : Nat} (h : n ≤ 12) (x : Pm) : (cut n x).length = n := by unfold cut; rw [List.length_take, x.len]; omega

theorem cut_get {n j : Nat} (x : Pm) (h : n ≤ 12) (hj : j < n) : (cut n x).getD j 0 = ((x.act j : Nat) : Int) := by
  rw [← x.getD_act (by omega)]
  unfold cut
  simp [List.getD, hj]

theorem fix_lt {n : Nat} {x : Pm} (hf : Fixes (fun b => n ≤ b) x) {b : Nat} (hb : b < n) : x.act b < n := by
  rcases Nat.lt_or_ge (x.act b) n with h | h
  · exact h
  · have := hf _ h
    have := x.act_inj this
    omega

theorem cut_row {n : Nat} (h : n ≤ 12) {x : Pm} (hf : Fixes (fun b => n ≤ b) x) : isRow (cut n x) := by
  constructor
  · intro y hy
    rw [cut_length h]
    obtain ⟨i, hi, rfl⟩ := List.getElem_of_mem hy
    have hi' : i < n := by rw [cut_length h] at hi; exact hi
    have := cut_get x h hi'
    simp only [List.getD, List.getElem?_eq_getElem hi, Option.getD_some] at this
    rw [this]
    have := fix_lt hf hi'
    omega
  · exact x.row.2.sublist (List.take_sublist _ _)

theorem pad_cut {n : Nat} (h : n ≤ 12) {x : Pm} (hf : Fixes (fun b => n ≤ b) x) : pad (cut n x) = x := by
  refine Pm.ext' (fun b hb => ?_)
  rw [pad_act (by rw [cut_length h]; exact h) (cut_row h hf), cut_length h]
  split
  · rename_i hn
    unfold nx; rw [cut_get x h hn]; omega
  · rename_i hn
    exact (hf b (by show n ≤ b; omega)).symm

theorem pad_fixes {n : Nat} {l : List Int} (h : n ≤ 12) (hl : l.length = n) (hr : isRow l) : Fixes (fun b => n ≤ b) (pad l) := by
  intro b hb
  have hb : n ≤ b := hb
  rw [pad_act (by omega) hr, if_neg (by omega)]

theorem cut_pad {n : Nat} {l : List Int} (h : n ≤ 12) (hl : l.length = n) (hr : isRow l) : cut n (pad l) = l := by
  unfold cut
  rw [pad_l (by omega) hr, ← hl, List.take_left']
  rfl

end Go.Proofs.Ytoiiadiimfohiaa
