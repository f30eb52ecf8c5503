/- Joined: Name, RefE, RefF, Til, I6, Chng, ChRow, Meth, PickB, Pick, Raw. -/
import Derived.Test.YtoiiadiimfohiaaJ6
import Derived.Lib.RuneCount
import Derived.Lib.DecodeN
import Derived.Test.YtoiiadiimfohiaaJ3
import Derived.Test.YtoiiadiimfohiaaJ5
import Derived.Test.YtoiiadiimfohiaaJ0
import Derived.Test.YtoiiadiimfohiaaJ1
/- Contracts: ofName, Name of package method, at every text. -/
namespace Go.Proofs.Ytoiiadiimfohiaa
open Go.RowKit Go.Lib

/-- May a rune be in a name? -/
def ofn (r : Nat) : Bool := decide (65 ≤ r ∧ r ≤ 90 ∨ 97 ≤ r ∧ r ≤ 122 ∨ 48 ≤ r ∧ r ≤ 57 ∨ r = 32 ∨ (192 ≤ r ∧ r ≤ 382 ∧ r ≠ 215 ∧ r ≠ 247))

set_option maxRecDepth 20000 in
set_option maxHeartbeats 4000000 in
theorem ofName_any (r : Nat) (w : World) (hr : r ≤ 1114111) : Calls Try.prog 102 #[.int .i32 r] w fun e w' => e = .returned (.bool (ofn r)) ∧ w = w' := by
  have hcase : r < 32 ∨ r = 32 ∨ (33 ≤ r ∧ r ≤ 47) ∨ (48 ≤ r ∧ r ≤ 57) ∨ (58 ≤ r ∧ r ≤ 64) ∨ (65 ≤ r ∧ r ≤ 90) ∨ (91 ≤ r ∧ r ≤ 96) ∨ (97 ≤ r ∧ r ≤ 122) ∨ (123 ≤ r ∧ r ≤ 191) ∨ (192 ≤ r ∧ r ≤ 214) ∨ r = 215 ∨ (216 ≤ r ∧ r ≤ 246) ∨ r = 247 ∨ (248 ≤ r ∧ r ≤ 382) ∨ 383 ≤ r := by omega
  rcases hcase with h | h | ⟨h1, h2⟩ | ⟨h1, h2⟩ | ⟨h1, h2⟩ | ⟨h1, h2⟩ | ⟨h1, h2⟩ | ⟨h1, h2⟩ | ⟨h1, h2⟩ | ⟨h1, h2⟩ | h | ⟨h1, h2⟩ | h | ⟨h1, h2⟩ | h
  · have hb : Hid (ofn r = false) := by show _ = _; unfold ofn; exact decide_eq_false (by omega)
    have e32 : ((r : Int) == 32) = false := by rw [beq_eq_false_iff_ne]; omega
    have e215 : ((r : Int) == 215) = false := by rw [beq_eq_false_iff_ne]; omega
    have e247 : ((r : Int) == 247) = false := by rw [beq_eq_false_iff_ne]; omega
    go_enter Try.func102, Try.ntmps102
    go_wp2
    go_ret
    exact ⟨ret_bool (by first | exact hb.out.symm | (rw [hb.out]; exact decide_eq_true (by omega)) | (rw [hb.out]; exact decide_eq_false (by omega))), rfl⟩
  · have hb : Hid (ofn r = true) := by show _ = _; unfold ofn; exact decide_eq_true (by omega)
    subst h
    go_enter Try.func102, Try.ntmps102
    go_wp2
    go_ret
    exact ⟨ret_bool (by first | exact hb.out.symm | (rw [hb.out]; exact decide_eq_true (by omega)) | (rw [hb.out]; exact decide_eq_false (by omega))), rfl⟩
  · have hb : Hid (ofn r = false) := by show _ = _; unfold ofn; exact decide_eq_false (by omega)
    have e32 : ((r : Int) == 32) = false := by rw [beq_eq_false_iff_ne]; omega
    have e215 : ((r : Int) == 215) = false := by rw [beq_eq_false_iff_ne]; omega
    have e247 : ((r : Int) == 247) = false := by rw [beq_eq_false_iff_ne]; omega
    go_enter Try.func102, Try.ntmps102
    go_wp2
    go_ret
    exact ⟨ret_bool (by first | exact hb.out.symm | (rw [hb.out]; exact decide_eq_true (by omega)) | (rw [hb.out]; exact decide_eq_false (by omega))), rfl⟩
  · have hb : Hid (ofn r = true) := by show _ = _; unfold ofn; exact decide_eq_true (by omega)
    have e32 : ((r : Int) == 32) = false := by rw [beq_eq_false_iff_ne]; omega
    have e215 : ((r : Int) == 215) = false := by rw [beq_eq_false_iff_ne]; omega
    have e247 : ((r : Int) == 247) = false := by rw [beq_eq_false_iff_ne]; omega
    go_enter Try.func102, Try.ntmps102
    go_wp2
    go_ret
    exact ⟨ret_bool (by first | exact hb.out.symm | (rw [hb.out]; exact decide_eq_true (by omega)) | (rw [hb.out]; exact decide_eq_false (by omega))), rfl⟩
  · have hb : Hid (ofn r = false) := by show _ = _; unfold ofn; exact decide_eq_false (by omega)
    have e32 : ((r : Int) == 32) = false := by rw [beq_eq_false_iff_ne]; omega
    have e215 : ((r : Int) == 215) = false := by rw [beq_eq_false_iff_ne]; omega
    have e247 : ((r : Int) == 247) = false := by rw [beq_eq_false_iff_ne]; omega
    go_enter Try.func102, Try.ntmps102
    go_wp2
    go_ret
    exact ⟨ret_bool (by first | exact hb.out.symm | (rw [hb.out]; exact decide_eq_true (by omega)) | (rw [hb.out]; exact decide_eq_false (by omega))), rfl⟩
  · have hb : Hid (ofn r = true) := by show _ = _; unfold ofn; exact decide_eq_true (by omega)
    have e32 : ((r : Int) == 32) = false := by rw [beq_eq_false_iff_ne]; omega
    have e215 : ((r : Int) == 215) = false := by rw [beq_eq_false_iff_ne]; omega
    have e247 : ((r : Int) == 247) = false := by rw [beq_eq_false_iff_ne]; omega
    go_enter Try.func102, Try.ntmps102
    go_wp2
    go_ret
    exact ⟨ret_bool (by first | exact hb.out.symm | (rw [hb.out]; exact decide_eq_true (by omega)) | (rw [hb.out]; exact decide_eq_false (by omega))), rfl⟩
  · have hb : Hid (ofn r = false) := by show _ = _; unfold ofn; exact decide_eq_false (by omega)
    have e32 : ((r : Int) == 32) = false := by rw [beq_eq_false_iff_ne]; omega
    have e215 : ((r : Int) == 215) = false := by rw [beq_eq_false_iff_ne]; omega
    have e247 : ((r : Int) == 247) = false := by rw [beq_eq_false_iff_ne]; omega
    go_enter Try.func102, Try.ntmps102
    go_wp2
    go_ret
    exact ⟨ret_bool (by first | exact hb.out.symm | (rw [hb.out]; exact decide_eq_true (by omega)) | (rw [hb.out]; exact decide_eq_false (by omega))), rfl⟩
  · have hb : Hid (ofn r = true) := by show _ = _; unfold ofn; exact decide_eq_true (by omega)
    have e32 : ((r : Int) == 32) = false := by rw [beq_eq_false_iff_ne]; omega
    have e215 : ((r : Int) == 215) = false := by rw [beq_eq_false_iff_ne]; omega
    have e247 : ((r : Int) == 247) = false := by rw [beq_eq_false_iff_ne]; omega
    go_enter Try.func102, Try.ntmps102
    go_wp2
    go_ret
    exact ⟨ret_bool (by first | exact hb.out.symm | (rw [hb.out]; exact decide_eq_true (by omega)) | (rw [hb.out]; exact decide_eq_false (by omega))), rfl⟩
  · have hb : Hid (ofn r = false) := by show _ = _; unfold ofn; exact decide_eq_false (by omega)
    have e32 : ((r : Int) == 32) = false := by rw [beq_eq_false_iff_ne]; omega
    have e215 : ((r : Int) == 215) = false := by rw [beq_eq_false_iff_ne]; omega
    have e247 : ((r : Int) == 247) = false := by rw [beq_eq_false_iff_ne]; omega
    go_enter Try.func102, Try.ntmps102
    go_wp2
    go_ret
    exact ⟨ret_bool (by first | exact hb.out.symm | (rw [hb.out]; exact decide_eq_true (by omega)) | (rw [hb.out]; exact decide_eq_false (by omega))), rfl⟩
  · have hb : Hid (ofn r = true) := by show _ = _; unfold ofn; exact decide_eq_true (by omega)
    have e32 : ((r : Int) == 32) = false := by rw [beq_eq_false_iff_ne]; omega
    have e215 : ((r : Int) == 215) = false := by rw [beq_eq_false_iff_ne]; omega
    have e247 : ((r : Int) == 247) = false := by rw [beq_eq_false_iff_ne]; omega
    go_enter Try.func102, Try.ntmps102
    go_wp2
    go_ret
    exact ⟨ret_bool (by first | exact hb.out.symm | (rw [hb.out]; exact decide_eq_true (by omega)) | (rw [hb.out]; exact decide_eq_false (by omega))), rfl⟩
  · have hb : Hid (ofn r = false) := by show _ = _; unfold ofn; exact decide_eq_false (by omega)
    subst h
    go_enter Try.func102, Try.ntmps102
    go_wp2
    go_ret
    exact ⟨ret_bool (by first | exact hb.out.symm | (rw [hb.out]; exact decide_eq_true (by omega)) | (rw [hb.out]; exact decide_eq_false (by omega))), rfl⟩
  · have hb : Hid (ofn r = true) := by show _ = _; unfold ofn; exact decide_eq_true (by omega)
    have e32 : ((r : Int) == 32) = false := by rw [beq_eq_false_iff_ne]; omega
    have e215 : ((r : Int) == 215) = false := by rw [beq_eq_false_iff_ne]; omega
    have e247 : ((r : Int) == 247) = false := by rw [beq_eq_false_iff_ne]; omega
    go_enter Try.func102, Try.ntmps102
    go_wp2
    go_ret
    exact ⟨ret_bool (by first | exact hb.out.symm | (rw [hb.out]; exact decide_eq_true (by omega)) | (rw [hb.out]; exact decide_eq_false (by omega))), rfl⟩
  · have hb : Hid (ofn r = false) := by show _ = _; unfold ofn; exact decide_eq_false (by omega)
    subst h
    go_enter Try.func102, Try.ntmps102
    go_wp2
    go_ret
    exact ⟨ret_bool (by first | exact hb.out.symm | (rw [hb.out]; exact decide_eq_true (by omega)) | (rw [hb.out]; exact decide_eq_false (by omega))), rfl⟩
  · have hb : Hid (ofn r = true) := by show _ = _; unfold ofn; exact decide_eq_true (by omega)
    have e32 : ((r : Int) == 32) = false := by rw [beq_eq_false_iff_ne]; omega
    have e215 : ((r : Int) == 215) = false := by rw [beq_eq_false_iff_ne]; omega
    have e247 : ((r : Int) == 247) = false := by rw [beq_eq_false_iff_ne]; omega
    go_enter Try.func102, Try.ntmps102
    go_wp2
    go_ret
    exact ⟨ret_bool (by first | exact hb.out.symm | (rw [hb.out]; exact decide_eq_true (by omega)) | (rw [hb.out]; exact decide_eq_false (by omega))), rfl⟩
  · have hb : Hid (ofn r = false) := by show _ = _; unfold ofn; exact decide_eq_false (by omega)
    have e32 : ((r : Int) == 32) = false := by rw [beq_eq_false_iff_ne]; omega
    have e215 : ((r : Int) == 215) = false := by rw [beq_eq_false_iff_ne]; omega
    have e247 : ((r : Int) == 247) = false := by rw [beq_eq_false_iff_ne]; omega
    go_enter Try.func102, Try.ntmps102
    go_wp2
    go_ret
    exact ⟨ret_bool (by first | exact hb.out.symm | (rw [hb.out]; exact decide_eq_true (by omega)) | (rw [hb.out]; exact decide_eq_false (by omega))), rfl⟩

/-- The k-th byte; 0 beyond. -/
def bt (s : ByteArray) (k : Nat) : Nat := ((s.data.toList[k]?).getD 0).toNat

theorem bt_get {s : ByteArray} {k : Nat} (h : k < s.size) : (s[k]'h).toNat = bt s k := by
  have h' : k < s.data.toList.length := by rw [Array.length_toList]; exact h
  unfold bt
  rw [List.getElem?_eq_getElem h', Option.getD_some]
  rfl

theorem bt_lt (s : ByteArray) (k : Nat) : bt s k < 256 := by unfold bt; exact UInt8.toNat_lt _

/-- Is it a name? -/
def nm (s : ByteArray) : Bool := (runesOf s).all ofn && decide (1 ≤ (runesOf s).length ∧ (runesOf s).length ≤ 20 ∧ bt s 0 ≠ 32 ∧ bt s (s.size - 1) ≠ 32)

theorem nm_bad {s : ByteArray} {r : Nat} (h : r ∈ runesOf s) (hr : ofn r = false) : nm s = false := by
  unfold nm
  rw [show (runesOf s).all ofn = false from by rw [List.all_eq_false]; exact ⟨r, h, by simp [hr]⟩]
  rfl

structure NameRel (w wr : World) (s : ByteArray) (pre : List Nat) (pos : Nat) : Prop where
  iter : wr.heap[w.heap.size]? = some (.stringIter s pos)
  rto : RunesTo s pre pos
  all : pre.all ofn = true
  size : w.heap.size < wr.heap.size
  below : Below w.heap.size w wr
set_option maxRecDepth 20000 in
set_option maxHeartbeats 4000000 in
theorem name_any (s : ByteArray) (w : World) (hs : s.size ≤ 9223372036854775807) :
    Calls Try.prog 77 #[.string s] w fun e w' => e = .returned (.bool (nm s)) ∧ Below w.heap.size w w' := by
  go_enter Try.func77, Try.ntmps77
  go_wp2
  go_loopw [3] (fun c wr => ∃ pos pre, c = .int .i64 ((pre.length : Nat) : Int) ∧ NameRel w wr s pre pos) (fun _ wr => s.size - wr.iterPos w.heap.size)
  case atStart => exact ⟨0, [], rfl, ⟨World.iter_heap w s 0, runesTo_start s, rfl, by simp [World.iter], below_iter w s 0⟩⟩
  case round =>
    obtain ⟨pos, pre, rfl, hr⟩ := hrel
    by_cases hp : pos < s.size
    · have hnx : ∀ ty, (Instr.next (.pointer (some ⟨w.heap.size, 0, none⟩)) true ty).run Try.prog wr = .ok (.tuple #[.bool true, .int .i64 (pos : Int), .int .i32 (((Utf8.decode s pos).1 : Nat) : Int)]) (wr.iterAt w.heap.size s (pos + (Utf8.decode s pos).2)) := by
        intro ty
        exact run_next_any_at wr w.heap.size s pos ty hr.iter hp
      have hmem := hr.rto.mem hp
      have HO := hide (ofName_any (Utf8.decode s pos).1 (wr.iterAt w.heap.size s (pos + (Utf8.decode s pos).2)) (decode_le s pos))
      have HIt := hide (iterAt_heap wr w.heap.size s pos (pos + (Utf8.decode s pos).2) hr.iter)
      have HTo := hide (hr.rto.next hp)
      have HI := hide (iterPos_of hr.iter)
      have hbw := hide (below_iterAt hr.below (Nat.le_refl _) s (pos + (Utf8.decode s pos).2))
      have HA := hide hr.all
      have HSz : Hid (w.heap.size < (wr.iterAt w.heap.size s (pos + (Utf8.decode s pos).2)).heap.size) := by show _ < _; rw [iterAt_size]; exact hr.size
      have HW := hide (decode_width_pos s pos hp)
      have hc := hmem.2
      have HM := hide hmem.1
      clear hmem hr
      generalize (Utf8.decode s pos).1 = r at *
      generalize (Utf8.decode s pos).2 = n at *
      cases ho : ofn r with
      | false =>
        have HNM := hide (nm_bad HM.out ho)
        rw [ho] at HO
        clear ho
        go_wp2_with fail
        refine HO.out.mono ?_
        rintro e w' ⟨rfl, rfl⟩
        go_wp2
        go_ret
        exact ⟨ret_bool HNM.out.symm, hbw.out⟩
      | true =>
        rw [ho] at HO
        have HAA : Hid ((pre ++ [r]).all ofn = true) := by show _ = _; rw [List.all_append, HA.out]; simp [ho]
        clear ho
        go_wp2_with fail
        refine HO.out.mono ?_
        rintro e w' ⟨rfl, rfl⟩
        go_wp2
        go_roundw
        case rel => exact ⟨pos + n, pre ++ [r], by rw [List.length_append]; go_num, ⟨HIt.out, HTo.out, HAA.out, HSz.out, hbw.out⟩⟩
        case measure => rw [HI.out, iterPos_of HIt.out]; have := HW.out; omega
    · have hnx := fun ty => run_next_end_at (P := Try.prog) wr w.heap.size s pos ty hr.iter hp
      have HE := hide (hr.rto.done hp)
      have HA := hide hr.all
      have hbw := hr.below
      have hle := runesOf_length s
      rw [HE.out] at hle
      have HNM : Hid (nm s = decide (1 ≤ pre.length ∧ pre.length ≤ 20 ∧ bt s 0 ≠ 32 ∧ bt s (s.size - 1) ≠ 32)) := by
        show _ = _; unfold nm; rw [HE.out, HA.out, Bool.true_and]
      clear hr hp
      generalize pre.length = L at *
      by_cases c1 : 1 ≤ L
      · by_cases c2 : L ≤ 20
        · have hs0 : 0 < s.size := by omega
          have hs1 : s.size - 1 < s.size := by omega
          have hx1 := index_byte s (s.size - 1) hs1 wr
          rw [bt_get hs1] at hx1
          rw [show ((s.size - 1 : Nat) : Int) = (s.size : Int) - 1 from by omega] at hx1
          generalize bt s (s.size - 1) = b1 at *
          have hb0 := bt_get hs0
          generalize hq : (s[0]'hs0).toNat = b0 at *
          by_cases c3 : b0 = 32
          · have hv : Hid (nm s = false) := by show _ = _; rw [HNM.out]; exact decide_eq_false (by omega)
            have hn0 : (((s[0]'hs0).toNat : Int) != 32) = false := by rw [hq, c3]; rfl
            clear c3 hb0 hq
            go_wp2
            go_ret
            exact ⟨ret_bool hv.out.symm, hbw⟩
          · have hn0 : (((s[0]'hs0).toNat : Int) != 32) = true := by rw [hq, bne_iff_ne]; omega
            by_cases c4 : b1 = 32
            · have hv : Hid (nm s = false) := by show _ = _; rw [HNM.out]; exact decide_eq_false (by omega)
              subst c4
              clear c3 hb0 hq
              go_wp2
              go_ret
              exact ⟨ret_bool hv.out.symm, hbw⟩
            · have hv : Hid (nm s = true) := by show _ = _; rw [HNM.out]; exact decide_eq_true (by omega)
              have hn1 : ((b1 : Int) != 32) = true := by rw [bne_iff_ne]; omega
              clear c3 c4 hb0 hq
              go_wp2
              go_ret
              exact ⟨ret_bool hv.out.symm, hbw⟩
        · have hv : Hid (nm s = false) := by show _ = _; rw [HNM.out]; exact decide_eq_false (by omega)
          go_wp2
          go_ret
          exact ⟨ret_bool hv.out.symm, hbw⟩
      · have hv : Hid (nm s = false) := by show _ = _; rw [HNM.out]; exact decide_eq_false (by omega)
        go_wp2
        go_ret
        exact ⟨ret_bool hv.out.symm, hbw⟩

end Go.Proofs.Ytoiiadiimfohiaa

/- Contract of the answer's Cycles. -/
namespace Go.Proofs.Ytoiiadiimfohiaa
open Go.RowKit
set_option maxRecDepth 20000

/-- Is x the least of the first k bells of its cycle? -/
def lst (a : List Int) (x : Nat) : Nat → Bool
  | 0 => true
  | 1 => true
  | k + 2 => lst a x (k + 1) && decide (x < it a (k + 1) x)

theorem lst_succ {a : List Int} {x k : Nat} (h : 1 ≤ k) : lst a x (k + 1) = (lst a x k && decide (x < it a k x)) := by
  match k, h with
  | k + 1, _ => rfl

theorem lst_true {a : List Int} {x k : Nat} : lst a x k = true ↔ ∀ i, 1 ≤ i → i < k → x < it a i x := by
  induction k with
  | zero => exact ⟨fun _ i h1 h2 => by omega, fun _ => rfl⟩
  | succ k ih =>
    by_cases hk : 1 ≤ k
    · rw [lst_succ hk, Bool.and_eq_true, ih, decide_eq_true_iff]
      constructor
      · rintro ⟨h1, h2⟩ i hi hik
        by_cases e : i = k
        · subst e; exact h2
        · exact h1 i hi (by omega)
      · intro h
        exact ⟨fun i hi hik => h i hi (by omega), h k hk (by omega)⟩
    · have e : k = 0 := by omega
      subst e
      exact ⟨fun _ i h1 h2 => by omega, fun _ => rfl⟩

theorem flat_backs {r : List Int} (hr : isRow r) {k x : Nat} (hk : k ≤ r.length) (hx : x < r.length) (i : Nat) (h : ((it r i x : Nat) : Int) ∈ (cycsTo r k).flatten) : (x : Int) ∈ (cycsTo r k).flatten := by
  induction i with
  | zero => exact h
  | succ i ih => exact ih (flat_back hr hk (it_lt hr hx i) h)

theorem lst_flat {a : List Int} (hr : isRow a) {x : Nat} (hx : x < a.length) : lst a x (per a x) = true ↔ ¬ (x : Int) ∈ (cycsTo a x).flatten := by
  rw [lst_true]
  constructor
  · intro h hm
    obtain ⟨c, hc, hm⟩ := List.mem_flatten.1 hm
    obtain ⟨y, hy, rfl⟩ := cyc_form hc
    obtain ⟨i, hi, e⟩ := mem_orb.1 hm
    have e' : x = it a i y := by omega
    obtain ⟨_, _, p3, _⟩ := per_spec hr (show y < a.length by omega)
    obtain ⟨q1, _, q3, _⟩ := per_spec hr hx
    have hj : it a (per a y - i) x = y := by rw [e', ← it_add, show per a y - i + i = per a y from by omega, p3]
    -- y is one of the bells of x's own cycle
    have hmod : ∀ n, it a n x = it a (n % per a x) x := by
      intro n
      have key : ∀ d, it a (per a x * d) x = x := by
        intro d
        induction d with
        | zero => rfl
        | succ d ih => rw [Nat.mul_succ, it_add, q3, ih]
      have : n = n % per a x + per a x * (n / per a x) := by rw [Nat.mod_add_div]
      rw [this, it_add, key, Nat.add_mul_mod_self_left, Nat.mod_mod]
    rw [hmod] at hj
    have hlt := Nat.mod_lt (per a y - i) q1
    by_cases h0 : (per a y - i) % per a x = 0
    · rw [h0] at hj
      have : x = y := hj
      omega
    · have := h _ (by omega) hlt
      omega
  · intro hn i h1 h2
    rcases Nat.lt_trichotomy x (it a i x) with h | h | h
    · exact h
    · exact absurd h.symm ((per_spec hr hx).2.2.2 i h1 h2)
    · exact absurd (flat_backs hr (by omega) hx i (flat_all hr x (by omega) (it a i x) h)) hn

theorem owns_len1 {w : World} {base e n : Nat} {v : Value} {xs : List Value} (h : w.ownsRow base e 1 v n xs) (hn : 1 ≤ n) : ∃ g cap, v = .slice (some ⟨g, 0, none⟩) n cap := by
  obtain ⟨g, cap, e, _⟩ := owns_form h hn
  exact ⟨g, cap, e⟩

end Go.Proofs.Ytoiiadiimfohiaa

/- Contract of the answer's Order; the least common multiple of the cycles is the order. -/
namespace Go.Proofs.Ytoiiadiimfohiaa
open Go.RowKit
set_option maxRecDepth 20000

theorem it_succ' (r : List Int) (n x : Nat) : it r (n + 1) x = it r n (nx r x) := it_add r n 1 x

/-- The row, taken n times. -/
def pw (r : List Int) (n : Nat) : List Int := (List.range r.length).map (fun i => ((it r n i : Nat) : Int))

theorem pw_length (r : List Int) (n : Nat) : (pw r n).length = r.length := by simp [pw]

theorem pw_get {r : List Int} {n i : Nat} (h : i < r.length) : (pw r n).getD i 0 = ((it r n i : Nat) : Int) := by simp [pw, List.getD, h]

theorem pw_one {r : List Int} (hr : isRow r) : pw r 1 = r := by
  refine ext_getD (pw_length r 1) (fun i hi => ?_)
  rw [pw_length] at hi
  rw [pw_get hi]
  have := hr.at hi
  show ((nx r i : Nat) : Int) = _
  unfold nx; omega

theorem pw_succ {r : List Int} (hr : isRow r) (n : Nat) : by_ (pw r n) r = pw r (n + 1) := by
  refine ext_getD (by rw [by_length, pw_length]) (fun i hi => ?_)
  rw [by_length] at hi
  rw [by_get hi, pw_get hi]
  show (pw r n).getD (nx r i) 0 = _
  rw [pw_get (nx_lt hr hi), it_succ']

theorem isRow_pw {r : List Int} (hr : isRow r) (n : Nat) : isRow (pw r n) := by
  constructor
  · intro y hy
    obtain ⟨i, hi, rfl⟩ := List.mem_map.1 hy
    have := it_lt hr (List.mem_range.1 hi) n
    rw [pw_length]; omega
  · rw [List.nodup_iff_pairwise_ne]
    unfold pw
    rw [List.pairwise_map]
    refine List.Pairwise.imp_of_mem ?_ (List.pairwise_lt_range (n := r.length))
    intro i j hi hj hij e
    have := it_inj hr (List.mem_range.1 hi) (List.mem_range.1 hj) n (by omega)
    omega

theorem pw_rnd {r : List Int} {n : Nat} : pw r n = rnd r.length ↔ ∀ x, x < r.length → it r n x = x := by
  constructor
  · intro h x hx
    have h1 := pw_get (r := r) (n := n) hx
    rw [h, rnd_get hx] at h1
    omega
  · intro h
    exact eq_rnd (pw_length r n) (fun j hj => by rw [pw_get hj, h j hj])

theorem it_mul {r : List Int} {x p : Nat} (h : it r p x = x) (d : Nat) : it r (p * d) x = x := by
  induction d with
  | zero => rfl
  | succ d ih => rw [Nat.mul_succ, it_add, h, ih]

theorem per_dvd {r : List Int} (hr : isRow r) {x n : Nat} (hx : x < r.length) : it r n x = x ↔ per r x ∣ n := by
  obtain ⟨q1, _, q3, q4⟩ := per_spec hr hx
  constructor
  · intro h
    have e : n = n % per r x + per r x * (n / per r x) := by rw [Nat.mod_add_div]
    rw [e, it_add, it_mul q3] at h
    have hlt := Nat.mod_lt n q1
    by_cases h0 : n % per r x = 0
    · exact Nat.dvd_of_mod_eq_zero h0
    · exact absurd h (q4 _ (by omega) hlt)
  · rintro ⟨d, rfl⟩
    exact it_mul q3 d

theorem ordTo_dvd (xss : List (List Int)) (n j : Nat) (hj : j ≤ xss.length) : ordTo xss j ∣ n ↔ ∀ i, i < j → (xss.getD i []).length ∣ n := by
  induction j with
  | zero => exact ⟨fun _ i h => by omega, fun _ => Nat.one_dvd n⟩
  | succ j ih =>
    show Nat.lcm (ordTo xss j) (xss.getD j []).length ∣ n ↔ _
    rw [Nat.lcm_dvd_iff, ih (by omega)]
    constructor
    · rintro ⟨h1, h2⟩ i hi
      by_cases e : i = j
      · subst e; exact h2
      · exact h1 i (by omega)
    · intro h
      exact ⟨fun i hi => h i (by omega), h j (by omega)⟩

/-- How often the row must be taken, by its cycles. -/
def ord (r : List Int) : Nat := ordTo (cycsTo r r.length) (cycsTo r r.length).length

theorem ord_pw {r : List Int} (hr : isRow r) (n : Nat) : pw r n = rnd r.length ↔ ord r ∣ n := by
  rw [pw_rnd]
  unfold ord
  rw [ordTo_dvd _ _ _ (Nat.le_refl _)]
  constructor
  · intro h i hi
    have hc : (cycsTo r r.length).getD i [] ∈ cycsTo r r.length := by
      rw [show (cycsTo r r.length).getD i [] = (cycsTo r r.length)[i] from by simp [List.getD, List.getElem?_eq_getElem hi]]
      exact List.getElem_mem hi
    obtain ⟨y, hy, e⟩ := cyc_form hc
    rw [e, orb_length]
    exact (per_dvd hr hy).1 (h y hy)
  · intro h x hx
    obtain ⟨c, hc, hm⟩ := List.mem_flatten.1 (flat_all hr r.length (Nat.le_refl _) x hx)
    obtain ⟨i, hi, e⟩ := List.getElem_of_mem hc
    have hd := h i hi
    rw [show (cycsTo r r.length).getD i [] = c from by simp [List.getD, List.getElem?_eq_getElem hi, e]] at hd
    obtain ⟨y, hy, rfl⟩ := cyc_form hc
    rw [orb_length] at hd
    obtain ⟨j, _, e2⟩ := mem_orb.1 hm
    have e3 : x = it r j y := by omega
    rw [e3, ← it_add, Nat.add_comm, it_add, (per_dvd hr hy).2 hd]

theorem ord_pos {r : List Int} (hr : isRow r) (h12 : r.length ≤ 12) : 1 ≤ ord r ∧ ord r ≤ 1000000000000000 := by
  have hall := cycsTo_len hr r.length (Nat.le_refl _)
  have hbd := ordTo_bound (xss := cycsTo r r.length) (fun x hx => by have := hall x hx; omega) (cycsTo r r.length).length (Nat.le_refl _)
  have hl := cycsTo_length r r.length
  have hpw : 12 ^ (cycsTo r r.length).length ≤ 12 ^ 12 := Nat.pow_le_pow_right (by decide) (by omega)
  have h3 : 12 ^ 12 ≤ 1000000000000000 := by decide
  exact ⟨hbd.1, by unfold ord; omega⟩

theorem dis_row {r : List Int} (hr : isRow r) {i j : Nat} (hi : i < r.length) (hj : j < i) : dis (nx r) i j = if r.getD i 0 < r.getD j 0 then 1 else 0 := by
  have h1 := hr.at hi
  have h2 := hr.at (show j < r.length by omega)
  unfold dis
  rw [decide_eq_false (by omega : ¬ i < j)]
  unfold nx
  by_cases h : r.getD i 0 < r.getD j 0
  · rw [if_pos h, decide_eq_true (by omega)]; rfl
  · rw [if_neg h, decide_eq_false (by omega)]; rfl

theorem S_le {n : Nat} {f : Nat → Nat} {c : Nat} (h : ∀ i, i < n → f i ≤ c) : S n f ≤ n * c := by
  induction n with
  | zero => exact Nat.zero_le _
  | succ n ih =>
    have h1 := ih (fun i hi => h i (by omega))
    have h2 := h n (by omega)
    show S n f + f n ≤ (n + 1) * c
    rw [Nat.add_mul, Nat.one_mul]; omega

theorem dis_le (p : Nat → Nat) (i j : Nat) : dis p i j ≤ 1 := by unfold dis ne; split <;> omega

theorem ret_io {o : Int} {a b : Bool} (h : a = b) : Ending.returned (.tuple #[.int .i64 o, .bool a]) = Ending.returned (.tuple #[.int .i64 o, .bool b]) := by rw [h]

end Go.Proofs.Ytoiiadiimfohiaa

/- Plain: changes as tilings of the places by single places and pairs; their rows undo themselves, and are odd as their pairs are. -/
namespace Go.Proofs.Ytoiiadiimfohiaa
open Go.RowKit

/-- How many places a tiling covers (the last tile first; true: a place that is made, false: a pair). -/
def tsz : List Bool → Nat
  | [] => 0
  | true :: t => tsz t + 1
  | false :: t => tsz t + 2

/-- The places that are made. -/
def tpl : List Bool → List Int
  | [] => []
  | true :: t => tpl t ++ [((tsz t + 1 : Nat) : Int)]
  | false :: t => tpl t

/-- The row. -/
def trow : List Bool → List Int
  | [] => []
  | true :: t => trow t ++ [((tsz t : Nat) : Int)]
  | false :: t => trow t ++ [((tsz t + 1 : Nat) : Int), ((tsz t : Nat) : Int)]

/-- How many pairs. -/
def tpr : List Bool → Nat
  | [] => 0
  | true :: t => tpr t
  | false :: t => tpr t + 1

theorem trow_length : ∀ t, (trow t).length = tsz t
  | [] => rfl
  | true :: t => by simp [trow, tsz, trow_length t]
  | false :: t => by simp [trow, tsz, trow_length t]

theorem tpl_length : ∀ t, (tpl t).length + 2 * tpr t = tsz t
  | [] => rfl
  | true :: t => by have := tpl_length t; simp [tpl, tsz, tpr]; omega
  | false :: t => by have := tpl_length t; simp [tpl, tsz, tpr]; omega

theorem tpl_bound : ∀ t, ∀ y ∈ tpl t, 1 ≤ y ∧ y ≤ (tsz t : Nat)
  | [], y, h => by simp [tpl] at h
  | true :: t, y, h => by
    simp only [tpl, List.mem_append, List.mem_singleton] at h
    rcases h with h | h
    · have := tpl_bound t y h; simp only [tsz]; omega
    · simp only [tsz]; omega
  | false :: t, y, h => by have := tpl_bound t y h; simp only [tsz]; omega

theorem trow_mem : ∀ t, ∀ y ∈ trow t, 0 ≤ y ∧ y < (tsz t : Nat)
  | [], y, h => by simp [trow] at h
  | true :: t, y, h => by
    simp only [trow, List.mem_append, List.mem_singleton] at h
    rcases h with h | h
    · have := trow_mem t y h; simp only [tsz]; omega
    · simp only [tsz]; omega
  | false :: t, y, h => by
    simp only [trow, List.mem_append, List.mem_cons, List.not_mem_nil, or_false] at h
    rcases h with h | h | h
    · have := trow_mem t y h; simp only [tsz]; omega
    · simp only [tsz]; omega
    · simp only [tsz]; omega

theorem trow_nodup : ∀ t, (trow t).Nodup
  | [] => by simp [trow]
  | true :: t => by
    simp only [trow]
    refine List.nodup_append.2 ⟨trow_nodup t, by simp, fun a ha b hb => ?_⟩
    simp only [List.mem_singleton] at hb
    have := trow_mem t a ha
    omega
  | false :: t => by
    simp only [trow]
    refine List.nodup_append.2 ⟨trow_nodup t, by simp; omega, fun a ha b hb => ?_⟩
    simp only [List.mem_cons, List.not_mem_nil, or_false] at hb
    have := trow_mem t a ha
    omega

theorem trow_row (t : List Bool) : isRow (trow t) := ⟨fun y hy => by rw [trow_length]; exact trow_mem t y hy, trow_nodup t⟩

theorem by_append_left {a x b : List Int} (h : ∀ y ∈ b, 0 ≤ y ∧ y < (a.length : Nat)) : by_ (a ++ x) b = by_ a b := by
  unfold by_
  apply List.map_congr_left
  intro y hy
  have := h y hy
  simp only [List.getD]
  rw [List.getElem?_append_left (by omega)]

theorem trow_twice : ∀ t, by_ (trow t) (trow t) = rnd (tsz t)
  | [] => rfl
  | true :: t => by
    have ih := trow_twice t
    have hm : ∀ y ∈ trow t, 0 ≤ y ∧ y < ((trow t).length : Nat) := fun y hy => by rw [trow_length]; exact trow_mem t y hy
    show by_ (trow t ++ [((tsz t : Nat) : Int)]) (trow t ++ [((tsz t : Nat) : Int)]) = rnd (tsz t + 1)
    rw [show by_ (trow t ++ [((tsz t : Nat) : Int)]) (trow t ++ [((tsz t : Nat) : Int)]) = by_ (trow t ++ [((tsz t : Nat) : Int)]) (trow t) ++ by_ (trow t ++ [((tsz t : Nat) : Int)]) [((tsz t : Nat) : Int)] from List.map_append, by_append_left hm, ih, rnd_snoc]
    simp [by_, List.getD, trow_length]
  | false :: t => by
    have ih := trow_twice t
    have hm : ∀ y ∈ trow t, 0 ≤ y ∧ y < ((trow t).length : Nat) := fun y hy => by rw [trow_length]; exact trow_mem t y hy
    show by_ (trow t ++ [((tsz t + 1 : Nat) : Int), ((tsz t : Nat) : Int)]) (trow t ++ [((tsz t + 1 : Nat) : Int), ((tsz t : Nat) : Int)]) = rnd (tsz t + 1 + 1)
    rw [show by_ (trow t ++ [((tsz t + 1 : Nat) : Int), ((tsz t : Nat) : Int)]) (trow t ++ [((tsz t + 1 : Nat) : Int), ((tsz t : Nat) : Int)]) = by_ (trow t ++ [((tsz t + 1 : Nat) : Int), ((tsz t : Nat) : Int)]) (trow t) ++ by_ (trow t ++ [((tsz t + 1 : Nat) : Int), ((tsz t : Nat) : Int)]) [((tsz t + 1 : Nat) : Int), ((tsz t : Nat) : Int)] from List.map_append, by_append_left hm, ih, rnd_snoc, rnd_snoc]
    have h1 : (trow t ++ [((tsz t + 1 : Nat) : Int), ((tsz t : Nat) : Int)]).getD (tsz t + 1) 0 = ((tsz t : Nat) : Int) := by
      simp only [List.getD]; rw [List.getElem?_append_right (by rw [trow_length]; omega), trow_length, show tsz t + 1 - tsz t = 1 from by omega]; rfl
    have h2 : (trow t ++ [((tsz t + 1 : Nat) : Int), ((tsz t : Nat) : Int)]).getD (tsz t) 0 = ((tsz t + 1 : Nat) : Int) := by
      simp only [List.getD]; rw [List.getElem?_append_right (by rw [trow_length]; omega), trow_length, show tsz t - tsz t = 0 from by omega]; rfl
    simp only [by_, List.map_cons, List.map_nil, Int.toNat_natCast, h1, h2, List.append_assoc, List.singleton_append]

theorem nx_append_left {a x : List Int} {i : Nat} (h : i < a.length) : nx (a ++ x) i = nx a i := by
  unfold nx; simp only [List.getD]; rw [List.getElem?_append_left h]

theorem nx_trow_lt (t : List Bool) {i : Nat} (h : i < tsz t) : nx (trow t) i < tsz t := by
  have := nx_lt (trow_row t) (x := i) (by rw [trow_length]; exact h)
  rwa [trow_length] at this

theorem dis_zero {p : Nat → Nat} {i j : Nat} (h : j < i) (hp : p j < p i) : dis p i j = 0 := by
  unfold dis ne; rw [decide_eq_false (by omega), decide_eq_false (by omega)]; rfl

theorem dis_one {p : Nat → Nat} {i j : Nat} (h : j < i) (hp : p i < p j) : dis p i j = 1 := by
  unfold dis ne; rw [decide_eq_false (by omega), decide_eq_true hp]; rfl

theorem trow_inv : ∀ t, inv (tsz t) (nx (trow t)) = tpr t
  | [] => rfl
  | true :: t => by
    have ih := trow_inv t
    have e : ∀ i, i < tsz t → nx (trow (true :: t)) i = nx (trow t) i := fun i hi => nx_append_left (by rw [trow_length]; exact hi)
    have es : nx (trow (true :: t)) (tsz t) = tsz t := by
      show nx (trow t ++ [((tsz t : Nat) : Int)]) (tsz t) = tsz t
      unfold nx; simp only [List.getD]; rw [List.getElem?_append_right (by rw [trow_length]; omega), trow_length, Nat.sub_self]; rfl
    show inv (tsz t) (nx (trow (true :: t))) + S (tsz t) (fun j => dis (nx (trow (true :: t))) (tsz t) j) = tpr t
    rw [inv_congr e, ih, S_congr (g := fun _ => 0) (fun j hj => dis_zero hj (by rw [es, e j hj]; exact nx_trow_lt t hj)), S_zero]
    rfl
  | false :: t => by
    have ih := trow_inv t
    have e : ∀ i, i < tsz t → nx (trow (false :: t)) i = nx (trow t) i := fun i hi => nx_append_left (by rw [trow_length]; exact hi)
    have es : nx (trow (false :: t)) (tsz t) = tsz t + 1 := by
      show nx (trow t ++ [((tsz t + 1 : Nat) : Int), ((tsz t : Nat) : Int)]) (tsz t) = tsz t + 1
      unfold nx; simp only [List.getD]; rw [List.getElem?_append_right (by rw [trow_length]; omega), trow_length, Nat.sub_self]; rfl
    have et : nx (trow (false :: t)) (tsz t + 1) = tsz t := by
      show nx (trow t ++ [((tsz t + 1 : Nat) : Int), ((tsz t : Nat) : Int)]) (tsz t + 1) = tsz t
      unfold nx; simp only [List.getD]; rw [List.getElem?_append_right (by rw [trow_length]; omega), trow_length, show tsz t + 1 - tsz t = 1 from by omega]; rfl
    show inv (tsz t) (nx (trow (false :: t))) + S (tsz t) (fun j => dis (nx (trow (false :: t))) (tsz t) j) + (S (tsz t) (fun j => dis (nx (trow (false :: t))) (tsz t + 1) j) + dis (nx (trow (false :: t))) (tsz t + 1) (tsz t)) = tpr t + 1
    rw [inv_congr e, ih, S_congr (g := fun _ => 0) (fun j hj => dis_zero hj (by rw [es, e j hj]; have := nx_trow_lt t hj; omega)), S_zero,
      S_congr (g := fun _ => 0) (fun j hj => dis_zero (by omega) (by rw [et, e j hj]; exact nx_trow_lt t hj)), S_zero, dis_one (by omega) (by rw [et, es]; omega)]

theorem trow_odd (t : List Bool) : odd (trow t) = decide (tpr t % 2 = 1) := by
  have h := odd_inv (trow_row t)
  rw [trow_length, trow_inv] at h
  cases e : odd (trow t) <;> rw [e] at h <;> simp at h ⊢ <;> omega

theorem ord_le_two {r : List Int} (hr : isRow r) (h : by_ r r = rnd r.length) : ord r ≤ 2 := by
  have h2 : pw r 2 = rnd r.length := by rw [← pw_succ hr 1, pw_one hr, h]
  exact Nat.le_of_dvd (by decide) ((ord_pw hr 2).1 h2)

/-- The last place that is made, or 0. -/
def tlast : List Bool → Nat
  | [] => 0
  | true :: t => tsz t + 1
  | false :: t => tlast t

theorem tlast_ok : ∀ t, tlast t ≤ tsz t ∧ (tsz t - tlast t) % 2 = 0
  | [] => by decide
  | true :: t => by simp [tlast, tsz]
  | false :: t => by have := tlast_ok t; simp only [tlast, tsz]; omega

/-- May places be a change of n, behind a last one? -/
def okc (n last : Int) : List Int → Bool
  | [] => decide ((n - last) % 2 = 0)
  | p :: ps => decide (last < p ∧ p ≤ n ∧ (p - last - 1) % 2 = 0) && okc n p ps

theorem tsz_rep (t : List Bool) : ∀ m, tsz (List.replicate m false ++ t) = tsz t + 2 * m
  | 0 => by simp
  | m + 1 => by simp only [List.replicate_succ, List.cons_append, tsz, tsz_rep t m]; omega

theorem tpl_rep (t : List Bool) : ∀ m, tpl (List.replicate m false ++ t) = tpl t
  | 0 => by simp
  | m + 1 => by simp only [List.replicate_succ, List.cons_append, tpl, tpl_rep t m]

theorem okc_til (n : Nat) : ∀ (ps : List Int) (t : List Bool), tsz t ≤ n → okc n (tsz t : Nat) ps = true → ∃ t', tsz t' = n ∧ tpl t' = tpl t ++ ps
  | [], t, h, ho => by
    simp only [okc, decide_eq_true_eq] at ho
    exact ⟨List.replicate ((n - tsz t) / 2) false ++ t, by rw [tsz_rep]; omega, by rw [tpl_rep, List.append_nil]⟩
  | p :: ps, t, h, ho => by
    simp only [okc, Bool.and_eq_true, decide_eq_true_eq] at ho
    obtain ⟨⟨h1, h2, h3⟩, h4⟩ := ho
    obtain ⟨q, rfl⟩ := Int.eq_ofNat_of_zero_le (show 0 ≤ p by omega)
    have hs : tsz (true :: (List.replicate ((q - tsz t - 1) / 2) false ++ t)) = q := by simp only [tsz, tsz_rep]; omega
    obtain ⟨t', e1, e2⟩ := okc_til n ps (true :: (List.replicate ((q - tsz t - 1) / 2) false ++ t)) (by rw [hs]; omega) (by rw [hs]; exact h4)
    refine ⟨t', e1, ?_⟩
    rw [e2]
    simp only [tpl, tpl_rep, tsz_rep, List.append_assoc, List.singleton_append]
    rw [show tsz t + 2 * ((q - tsz t - 1) / 2) + 1 = q from by omega]

theorem til_okc (n : Nat) : ∀ (t : List Bool) (ps : List Int), tsz t ≤ n → okc n (tlast t : Nat) ps = true → okc n 0 (tpl t ++ ps) = true
  | [], ps, _, h => h
  | true :: t, ps, hn, h => by
    have hl := tlast_ok t
    simp only [tsz] at hn
    simp only [tpl, List.append_assoc, List.singleton_append]
    refine til_okc n t _ (by omega) ?_
    simp only [okc, Bool.and_eq_true, decide_eq_true_eq]
    exact ⟨by omega, h⟩
  | false :: t, ps, hn, h => til_okc n t ps (by simp only [tsz] at hn; omega) h

theorem okc_self (t : List Bool) : okc (tsz t : Nat) 0 (tpl t) = true := by
  have h := til_okc (tsz t) t [] (Nat.le_refl _) (by have := tlast_ok t; simp only [okc, decide_eq_true_eq]; omega)
  rwa [List.append_nil] at h

theorem okc_iff (n : Nat) (ps : List Int) : okc n 0 ps = true ↔ ∃ t, tsz t = n ∧ tpl t = ps := by
  constructor
  · intro h
    obtain ⟨t, e1, e2⟩ := okc_til n ps [] (Nat.zero_le _) h
    exact ⟨t, e1, by rw [e2]; rfl⟩
  · rintro ⟨t, rfl, rfl⟩
    exact okc_self t

theorem tsz_mono (s : List Bool) : ∀ u, tsz s ≤ tsz (u ++ s)
  | [] => Nat.le_refl _
  | true :: u => by have := tsz_mono s u; simp only [List.cons_append, tsz]; omega
  | false :: u => by have := tsz_mono s u; simp only [List.cons_append, tsz]; omega

theorem tpl_above (s : List Bool) : ∀ u, ∀ y ∈ tpl (u ++ s), y ∈ tpl s ∨ (tsz s : Int) < y
  | [], y, h => Or.inl h
  | true :: u, y, h => by
    simp only [List.cons_append, tpl, List.mem_append, List.mem_singleton] at h
    rcases h with h | h
    · exact tpl_above s u y h
    · have := tsz_mono s u; right; omega
  | false :: u, y, h => tpl_above s u y h

theorem tpl_sub (s : List Bool) : ∀ u, ∀ y ∈ tpl s, y ∈ tpl (u ++ s)
  | [], _, h => h
  | true :: u, y, h => by simp only [List.cons_append, tpl, List.mem_append]; exact Or.inl (tpl_sub s u y h)
  | false :: u, y, h => tpl_sub s u y h

theorem mem_next (u s : List Bool) (b : Bool) : ((tsz s : Nat) : Int) + 1 ∈ tpl (u ++ b :: s) ↔ b = true := by
  constructor
  · intro h
    cases b with
    | true => rfl
    | false =>
      rcases tpl_above (false :: s) u _ h with h | h
      · have := tpl_bound s _ h; omega
      · simp only [tsz] at h; omega
  · rintro rfl
    exact tpl_sub _ u _ (by simp [tpl])

theorem til_whole {s : List Bool} : ∀ {u : List Bool}, tsz (u ++ s) ≤ tsz s → u = []
  | [], _ => rfl
  | true :: u, h => by have := tsz_mono s u; simp only [List.cons_append, tsz] at h; omega
  | false :: u, h => by have := tsz_mono s u; simp only [List.cons_append, tsz] at h; omega

/-- The next tile of one that is not whole. -/
theorem til_next {u s : List Bool} (h : tsz s < tsz (u ++ s)) : ∃ u' b, u = u' ++ [b] ∧ u ++ s = u' ++ b :: s := by
  rcases List.eq_nil_or_concat u with rfl | ⟨u', b, rfl⟩
  · exact absurd h (Nat.lt_irrefl _)
  · exact ⟨u', b, by simp, by simp⟩

theorem trow_ones : ∀ n, trow (List.replicate n true) = rnd n ∧ tsz (List.replicate n true) = n ∧ tpr (List.replicate n true) = 0
  | 0 => ⟨rfl, rfl, rfl⟩
  | n + 1 => by
    obtain ⟨h1, h2, h3⟩ := trow_ones n
    refine ⟨?_, ?_, ?_⟩
    · rw [List.replicate_succ, trow, h1, h2, rnd_snoc]
    · rw [List.replicate_succ, tsz, h2]
    · rw [List.replicate_succ, tpr, h3]

theorem odd_rnd (n : Nat) : odd (rnd n) = false := by
  rw [← (trow_ones n).1, trow_odd, (trow_ones n).2.2]; rfl

end Go.Proofs.Ytoiiadiimfohiaa

/- A number that an int may be. -/
namespace Go.Proofs.Ytoiiadiimfohiaa
open Go.RowKit


end Go.Proofs.Ytoiiadiimfohiaa

/- Contracts: pairs, mayCount and Check of place; slices.Index, slices.Contains; Row; ChangeOf. -/
namespace Go.Proofs.Ytoiiadiimfohiaa
open Go.RowKit

set_option maxHeartbeats 400000 in
theorem pmay_yes (n : Int) (w : World) (h1 : 1 ≤ n) (h2 : n ≤ 12) :
    Calls Try.prog 103 #[.int .i64 n] w fun e w' => e = .returned (.bool true) ∧ w = w' := by
  go_enter Try.func103, Try.ntmps103
  go_wp2
  go_ret
  exact ⟨rfl, rfl⟩

set_option maxHeartbeats 400000 in
theorem pmay_no (n : Int) (w : World) (h : n < 1 ∨ 12 < n) :
    Calls Try.prog 103 #[.int .i64 n] w fun e w' => e = .returned (.bool false) ∧ w = w' := by
  rcases h with h | h
  · go_enter Try.func103, Try.ntmps103
    go_wp2
    go_ret
    exact ⟨rfl, rfl⟩
  · have h1 : 1 ≤ n := by omega
    have h2 : decide (n ≤ 12) = false := by simp; omega
    go_enter Try.func103, Try.ntmps103
    go_wp2
    go_ret
    exact ⟨rfl, rfl⟩

set_option maxHeartbeats 400000 in
theorem pairs_any (x : Int) (w : World) (h1 : 0 ≤ x) (h2 : x ≤ 9223372036854775807) :
    Calls Try.prog 104 #[.int .i64 x] w fun e w' => e = .returned (.bool (decide (x % 2 = 0))) ∧ w = w' := by
  go_enter Try.func104, Try.ntmps104
  go_wp2
  go_ret
  exact ⟨ret_bool (by rw [Bool.eq_iff_iff]; simp), rfl⟩

theorem drop_cons (xs : List Int) {k : Nat} (h : k < xs.length) : xs.drop k = xs[k]?.getD 0 :: xs.drop (k + 1) := by
  rw [List.drop_eq_getElem_cons h]; simp [List.getElem?_eq_getElem h]

/-- What Check says of places of n bells. -/
def pck (n : Int) (ps : List Int) : Int := if okc n 0 ps = true then 0 else 6

theorem pck_range (n : Int) (ps : List Int) : pck n ps = 0 ∨ pck n ps = 6 := by unfold pck; split <;> simp

set_option maxHeartbeats 2000000 in
theorem pcheck_any (n : Int) (v : Value) (ps : List Int) (w : World) (h1 : 1 ≤ n) (h2 : n ≤ 12) (i1 : Ints w v ps) :
    Calls Try.prog 79 #[.int .i64 n, v] w fun e w' => e = .returned (.int .i64 (pck n ps)) ∧ w = w' := by
  rcases i1 with ⟨rfl, p, c, rfl⟩ | ⟨b, off, cap, rfl, h0, hc, hm, hb, hcell⟩
  · go_enter Try.func79, Try.ntmps79
    go_wp2_with fail
    refine (pmay_yes _ _ h1 h2).mono ?_
    rintro e w' ⟨rfl, rfl⟩
    go_wp2
    go_loop [5, 13] (fun l i => l = .int .i64 0 ∧ i = .int .i64 0) (fun _ _ => 0)
    case atStart => exact ⟨rfl, rfl⟩
    case round =>
      obtain ⟨rfl, rfl⟩ := hrel
      by_cases he : n % 2 = 0
      · have hp : Hid (pck n [] = 0) := by show _ = _; unfold pck okc; rw [if_pos (by simp; omega)]
        go_wp2_with fail
        refine (pairs_any _ _ (by omega) (by omega)).mono ?_
        rintro e w' ⟨rfl, rfl⟩
        rw [decide_eq_true (by omega)]
        go_wp2
        go_ret
        exact ⟨ret_int hp.out.symm, rfl⟩
      · have hp : Hid (pck n [] = 6) := by show _ = _; unfold pck okc; rw [if_neg (by simp; omega)]
        go_wp2_with fail
        refine (pairs_any _ _ (by omega) (by omega)).mono ?_
        rintro e w' ⟨rfl, rfl⟩
        rw [decide_eq_false (by omega)]
        go_wp2
        go_ret
        exact ⟨ret_int hp.out.symm, rfl⟩
  · go_enter Try.func79, Try.ntmps79
    go_wp2_with fail
    refine (pmay_yes _ _ h1 h2).mono ?_
    rintro e w' ⟨rfl, rfl⟩
    go_wp2
    go_loop [5, 13] (fun l i => ∃ (k : Nat) (L : Int), k ≤ ps.length ∧ i = .int .i64 k ∧ l = .int .i64 L ∧ 0 ≤ L ∧ L ≤ n ∧ Hid (okc n 0 ps = okc n L (ps.drop k))) (fun _ i => ps.length - (intOf i).toNat)
    case atStart => exact ⟨0, 0, by omega, rfl, rfl, by omega, by omega, rfl⟩
    case round =>
      obtain ⟨k, L, hk, rfl, rfl, hL0, hLn, hok⟩ := hrel
      by_cases hlt : k < ps.length
      · obtain ⟨y, hy, hcx⟩ := cellAt hcell hlt
        have HD : Hid (okc n 0 ps = (decide (L < y ∧ y ≤ n ∧ (y - L - 1) % 2 = 0) && okc n y (ps.drop (k + 1)))) := by
          show _ = _; rw [hok.out, drop_cons ps hlt, hy.out]; rfl
        clear hcell hok
        by_cases c1 : y ≤ L
        · have hp : Hid (pck n ps = 6) := by show _ = _; unfold pck; rw [HD.out, decide_eq_false (by omega)]; rfl
          go_wp2_with fail
          go_ret
          exact ⟨ret_int hp.out.symm, rfl⟩
        · by_cases c2 : n < y
          · have hp : Hid (pck n ps = 6) := by show _ = _; unfold pck; rw [HD.out, decide_eq_false (by omega)]; rfl
            have c3 : L < y := by omega
            clear c1
            go_wp2_with fail
            go_ret
            exact ⟨ret_int hp.out.symm, rfl⟩
          · have c3 : L < y := by omega
            have c4 : y ≤ n := by omega
            clear c1 c2
            by_cases c5 : (y - L - 1) % 2 = 0
            · have HN : Hid (okc n 0 ps = okc n y (ps.drop (k + 1))) := by show _ = _; rw [HD.out, decide_eq_true (by omega)]; rfl
              have D5 : decide ((y - L - 1) % 2 = 0) = true := decide_eq_true c5
              clear c5
              go_wp2_with fail
              refine (pairs_any _ _ (by omega) (by omega)).mono ?_
              rintro e w' ⟨rfl, rfl⟩
              rw [D5]
              go_wp2
              go_round
              case rel => exact ⟨k + 1, y, by omega, by go_num, rfl, by omega, by omega, HN⟩
              case measure => simp [intOf]; omega
            · have hp : Hid (pck n ps = 6) := by show _ = _; unfold pck; rw [HD.out, decide_eq_false (by omega)]; rfl
              have D5 : decide ((y - L - 1) % 2 = 0) = false := decide_eq_false c5
              clear c5
              go_wp2_with fail
              refine (pairs_any _ _ (by omega) (by omega)).mono ?_
              rintro e w' ⟨rfl, rfl⟩
              rw [D5]
              go_wp2
              go_ret
              exact ⟨ret_int hp.out.symm, rfl⟩
      · have HE : Hid (okc n 0 ps = decide ((n - L) % 2 = 0)) := by show _ = _; rw [hok.out, List.drop_of_length_le (by omega)]; rfl
        clear hcell hok
        by_cases c5 : (n - L) % 2 = 0
        · have hp : Hid (pck n ps = 0) := by show _ = _; unfold pck; rw [HE.out, decide_eq_true c5]; rfl
          have D5 : decide ((n - L) % 2 = 0) = true := decide_eq_true c5
          clear c5
          go_wp2_with fail
          refine (pairs_any _ _ (by omega) (by omega)).mono ?_
          rintro e w' ⟨rfl, rfl⟩
          rw [D5]
          go_wp2
          go_ret
          exact ⟨ret_int hp.out.symm, rfl⟩
        · have hp : Hid (pck n ps = 6) := by show _ = _; unfold pck; rw [HE.out, decide_eq_false c5]; rfl
          have D5 : decide ((n - L) % 2 = 0) = false := decide_eq_false c5
          clear c5
          go_wp2_with fail
          refine (pairs_any _ _ (by omega) (by omega)).mono ?_
          rintro e w' ⟨rfl, rfl⟩
          rw [D5]
          go_wp2
          go_ret
          exact ⟨ret_int hp.out.symm, rfl⟩

theorem pck_til {t : List Bool} {n : Nat} (h : tsz t = n) : pck n (tpl t) = 0 := by unfold pck; rw [if_pos (by rw [← h]; exact okc_self t)]

set_option maxHeartbeats 400000 in
theorem pcheck_count (n : Int) (v : Value) (w : World) (h : n < 1 ∨ 12 < n) :
    Calls Try.prog 79 #[.int .i64 n, v] w fun e w' => e = .returned (.int .i64 1) ∧ w = w' := by
  go_enter Try.func79, Try.ntmps79
  go_wp2_with fail
  refine (pmay_no _ _ h).mono ?_
  rintro e w' ⟨rfl, rfl⟩
  go_wp2
  go_ret
  exact ⟨rfl, rfl⟩

/-- Where a number is first; -1: nowhere. -/
def idx (x : Int) : List Int → Nat → Int
  | [], _ => -1
  | y :: ys, k => if x = y then (k : Int) else idx x ys (k + 1)

theorem idx_mem (x : Int) : ∀ (ys : List Int) (k : Nat), decide (idx x ys k ≥ 0) = decide (x ∈ ys)
  | [], _ => by simp [idx]
  | y :: ys, k => by
    unfold idx
    by_cases h : x = y
    · rw [if_pos h]; simp [h]
    · rw [if_neg h, idx_mem x ys (k + 1)]; simp [h]

set_option maxHeartbeats 1000000 in
theorem index_any (v : Value) (xs : List Int) (x : Int) (w : World) (h : Ints w v xs) :
    Calls Try.prog 105 #[v, .int .i64 x] w fun e w' => e = .returned (.int .i64 (idx x xs 0)) ∧ w = w' := by
  rcases h with ⟨rfl, p, c, rfl⟩ | ⟨b, off, cap, rfl, h0, hc, hm, hb, hcell⟩
  · go_enter Try.func105, Try.ntmps105
    go_wp2
    go_loop [8] (fun i => i = .int .i64 0) (fun _ => 0)
    case atStart => rfl
    case round =>
      subst hrel
      go_wp2
      go_ret
      exact ⟨rfl, rfl⟩
  · go_enter Try.func105, Try.ntmps105
    go_wp2
    go_loop [8] (fun i => ∃ k : Nat, k ≤ xs.length ∧ i = .int .i64 k ∧ Hid (idx x xs 0 = idx x (xs.drop k) k)) (fun i => xs.length - (intOf i).toNat)
    case atStart => exact ⟨0, by omega, rfl, rfl⟩
    case round =>
      obtain ⟨k, hk, rfl, hi⟩ := hrel
      by_cases hlt : k < xs.length
      · obtain ⟨y, hy, hcx⟩ := cellAt hcell hlt
        have HD : Hid (idx x xs 0 = if x = y then (k : Int) else idx x (xs.drop (k + 1)) (k + 1)) := by show _ = _; rw [hi.out, drop_cons xs hlt, hy.out]; rfl
        clear hcell hi
        by_cases hxy : x = y
        · have hp : Hid (idx x xs 0 = k) := by show _ = _; rw [HD.out, if_pos hxy]
          subst hxy
          go_wp2
          go_ret
          exact ⟨ret_int hp.out.symm, rfl⟩
        · have hp : Hid (idx x xs 0 = idx x (xs.drop (k + 1)) (k + 1)) := by show _ = _; rw [HD.out, if_neg hxy]
          have hne : (x == y) = false := by simpa using hxy
          clear hxy
          go_wp2
          go_round
          case rel => exact ⟨k + 1, by omega, by go_num, hp⟩
          case measure => simp [intOf]; omega
      · have hp : Hid (idx x xs 0 = -1) := by show _ = _; rw [hi.out, List.drop_of_length_le (by omega)]; rfl
        clear hcell hi
        go_wp2
        go_ret
        exact ⟨ret_int hp.out.symm, rfl⟩

set_option maxHeartbeats 400000 in
theorem contains_any (v : Value) (xs : List Int) (x : Int) (w : World) (h : Ints w v xs) :
    Calls Try.prog 80 #[v, .int .i64 x] w fun e w' => e = .returned (.bool (decide (x ∈ xs))) ∧ w = w' := by
  have HI := hide (index_any v xs x w h)
  have HM := hide (idx_mem x xs 0)
  clear h
  generalize idx x xs 0 = k at *
  go_enter Try.func80, Try.ntmps80
  go_wp2_with fail
  refine HI.out.mono ?_
  rintro e w' ⟨rfl, rfl⟩
  go_wp2
  go_ret
  exact ⟨ret_bool HM.out, rfl⟩

end Go.Proofs.Ytoiiadiimfohiaa

/- Contracts: place.Row, ChangeOf. -/
namespace Go.Proofs.Ytoiiadiimfohiaa
open Go.RowKit

/-- A row that is changed up to a tile. -/
def Upto (n : Nat) (s : List Bool) (zs : List Int) : Prop := zs.length = n ∧ ∀ j, j < n → zs.getD j 0 = if j < tsz s then (trow s).getD j 0 else (j : Int)

theorem upto_start (n : Nat) : Upto n [] (rnd n) := ⟨rnd_length n, fun j hj => by rw [rnd_get hj, if_neg (by simp [tsz])]⟩

theorem upto_end {n : Nat} {t : List Bool} {zs : List Int} (h : Upto n t zs) (ht : tsz t = n) : zs = trow t :=
  ext_getD (by rw [h.1, trow_length, ht]) (fun j hj => by rw [h.2 j (by rw [← h.1]; exact hj), if_pos (by rw [ht, ← h.1]; exact hj)])

theorem trow_get_old {b : Bool} {s : List Bool} {j : Nat} (h : j < tsz s) : (trow (b :: s)).getD j 0 = (trow s).getD j 0 := by
  have hl : j < (trow s).length := by rw [trow_length]; exact h
  cases b <;> simp only [trow, List.getD] <;> rw [List.getElem?_append_left hl]

theorem trow_get_one (s : List Bool) : (trow (true :: s)).getD (tsz s) 0 = (tsz s : Nat) := by
  simp only [trow, List.getD]; rw [List.getElem?_append_right (by rw [trow_length]; omega), trow_length, Nat.sub_self]; rfl

theorem trow_get_fst (s : List Bool) : (trow (false :: s)).getD (tsz s) 0 = ((tsz s + 1 : Nat) : Int) := by
  simp only [trow, List.getD]; rw [List.getElem?_append_right (by rw [trow_length]; omega), trow_length, Nat.sub_self]; rfl

theorem trow_get_snd (s : List Bool) : (trow (false :: s)).getD (tsz s + 1) 0 = (tsz s : Nat) := by
  simp only [trow, List.getD]; rw [List.getElem?_append_right (by rw [trow_length]; omega), trow_length, show tsz s + 1 - tsz s = 1 from by omega]; rfl

theorem upto_one {n : Nat} {s : List Bool} {zs : List Int} (h : Upto n s zs) : Upto n (true :: s) zs := by
  have e : tsz (true :: s) = tsz s + 1 := rfl
  refine ⟨h.1, fun j hj => ?_⟩
  rw [h.2 j hj]
  by_cases h1 : j < tsz s
  · rw [if_pos h1, if_pos (by omega), trow_get_old h1]
  · by_cases h2 : j = tsz s
    · subst h2; rw [if_neg h1, if_pos (by omega), trow_get_one]
    · rw [if_neg h1, if_neg (by omega)]

theorem upto_two {n : Nat} {s : List Bool} {zs : List Int} (h : Upto n s zs) (hn : tsz s + 2 ≤ n) : Upto n (false :: s) ((zs.set (tsz s) ((tsz s + 1 : Nat) : Int)).set (tsz s + 1) (tsz s : Nat)) := by
  have e : tsz (false :: s) = tsz s + 2 := rfl
  refine ⟨by simp [h.1], fun j hj => ?_⟩
  rw [getD_set (by simp [h.1]; omega), getD_set (by rw [h.1]; omega), h.2 j hj]
  by_cases h1 : tsz s + 1 = j
  · subst h1; rw [if_pos rfl, if_pos (by omega), trow_get_snd]
  · rw [if_neg h1]
    by_cases h2 : tsz s = j
    · subst h2; rw [if_pos rfl, if_pos (by omega), trow_get_fst]
    · rw [if_neg h2]
      by_cases h3 : j < tsz s
      · rw [if_pos h3, if_pos (by omega), trow_get_old h3]
      · rw [if_neg h3, if_neg (by omega)]

theorem upto_at {n : Nat} {s : List Bool} {zs : List Int} (h : Upto n s zs) {j : Nat} (hj : j < n) (hs : tsz s ≤ j) : zs[j]?.getD 0 = (j : Int) := by
  have := h.2 j hj
  rw [if_neg (by omega)] at this
  exact this

set_option maxHeartbeats 4000000 in
theorem prow_ok (t : List Bool) (n : Nat) (v : Value) (w : World) (hn : tsz t = n) (h1 : 1 ≤ n) (h2 : n ≤ 12) (i1 : Ints w v (tpl t)) :
    Calls Try.prog 60 #[.int .i64 n, v] w fun e w' => ∃ v', e = .returned (.tuple #[v', .int .i64 0]) ∧ w'.ownsRow w.heap.size 3 1 v' n ((trow t).map (Value.int .i64)) ∧ Below w.heap.size w w' := by
  have HC := hide (pcheck_any n v (tpl t) w (by omega) (by omega) i1)
  rw [pck_til hn] at HC
  have HI := hide i1
  have HT := hide hn
  clear i1 hn
  go_enter Try.func60, Try.ntmps60
  go_wp2_with fail
  refine HC.out.mono ?_
  rintro e w' ⟨rfl, rfl⟩
  clear HC
  go_wp2_with fail
  refine (rounds_ok n w h1 h2).mono ?_
  rintro e w0 ⟨v', rfl, hown0, hb0⟩
  obtain ⟨g, cap, rfl, hg1, hg2, hcap, hcap2⟩ := owns_form hown0 h1
  go_wp2
  go_loopw [9] (fun i wr => ∃ (u s : List Bool) (zs : List Int), Hid (t = u ++ s) ∧ Hid (Upto n s zs) ∧ tsz s ≤ n ∧ i = .int .i64 (tsz s : Nat) ∧ wr.ownsRow w.heap.size 3 1 (.slice (some ⟨g, 0, none⟩) n cap) n (zs.map (Value.int .i64)) ∧ Below w.heap.size w wr) (fun i _ => n - (intOf i).toNat)
  case atStart => exact ⟨t, [], rnd n, by show _ = _; simp, upto_start n, Nat.zero_le _, rfl, hown0, hb0⟩
  case round =>
    obtain ⟨u, s, zs, hus, hup, hsn, rfl, hown, hbw⟩ := hrel
    clear hown0 hb0
    by_cases hlt : tsz s < n
    · obtain ⟨u', b, hu, hus'⟩ := til_next (u := u) (s := s) (by rw [← hus.out, HT.out]; exact hlt)
      have HU : Hid (t = u' ++ b :: s) := by show _ = _; rw [hus.out, hus']
      have HCo := hide (contains_any v (tpl t) ((tsz s : Nat) + 1) wr (HI.out.below hbw))
      have hm := mem_next u' s b
      rw [← HU.out] at hm
      have hsz : tsz (b :: s) ≤ n := by have := tsz_mono (b :: s) u'; rw [← HU.out, HT.out] at this; exact this
      clear hu hus' hus
      cases b with
      | true =>
        rw [decide_eq_true (hm.2 rfl)] at HCo
        have HZ := hide (upto_one hup.out)
        clear hm hup
        simp only [tsz] at hsz
        go_wp2_with fail
        refine HCo.out.mono ?_
        rintro e w' ⟨rfl, rfl⟩
        go_wp2
        go_roundw
        case rel => exact ⟨u', true :: s, zs, HU, HZ, hsz, by simp only [tsz]; go_num, hown, hbw⟩
        case measure => simp [intOf]; omega
      | false =>
        rw [decide_eq_false (by rw [hm]; decide)] at HCo
        simp only [tsz] at hsz
        have HZ := hide (upto_two hup.out hsz)
        have hl1 : tsz s < n := by omega
        have hl2 : tsz s + 1 < n := by omega
        obtain ⟨y, hy, hcx, hfx⟩ := owns_cellAt hown hl1
        obtain ⟨z, hz, hcz, hfz⟩ := owns_cellAt hown hl2
        have hyv : y = ((tsz s : Nat) : Int) := by rw [← hy.out]; exact upto_at hup.out hl1 (Nat.le_refl _)
        have hzv : z = ((tsz s + 1 : Nat) : Int) := by rw [← hz.out]; exact upto_at hup.out hl2 (by omega)
        clear hm hup hy hz
        have hown1 := owns_set_int (m := tsz s) hown z
        have hown2 := owns_set_int (m := tsz s + 1) hown1 y
        rw [hzv, hyv] at hown2
        have HOW := hide hown2
        generalize hS : tsz s = S' at *
        subst hyv hzv
        clear hown1 hown2
        go_wp2_with fail
        refine HCo.out.mono ?_
        rintro e w' ⟨rfl, rfl⟩
        go_wp2
        go_region
        all_goals
          go_wp2
          go_roundw
          case rel => exact ⟨u', false :: s, _, HU, HZ, by simp only [tsz]; omega, by simp only [tsz]; go_num, HOW.out, ((hbw.setCell (p := ⟨g, S', none⟩) hg1 _).setCell (p := ⟨g, S' + 1, none⟩) hg1 _).drew⟩
          case measure => simp [intOf]; omega
    · have hs : tsz s = n := by omega
      have hu : u = [] := til_whole (by rw [← hus.out, HT.out, hs]; exact Nat.le_refl _)
      have hts : t = s := by rw [hus.out, hu, List.nil_append]
      have hzt : zs = trow t := by rw [hts]; exact upto_end hup.out hs
      have HOW := hide hown
      rw [hzt] at HOW
      clear hown hup hus hzt hts hu
      go_wp2
      go_ret2
      exact ⟨_, rfl, HOW.out, hbw⟩

end Go.Proofs.Ytoiiadiimfohiaa

/- Contracts: method.Check. -/
namespace Go.Proofs.Ytoiiadiimfohiaa
open Go.RowKit

/-- A method as a value. -/
abbrev meth (s : ByteArray) (n : Int) (v : Value) : Value := .agg #[.string s, .int .i64 n, v]

set_option maxHeartbeats 400000 in
theorem mmay_yes (n : Int) (w : World) (h1 : 2 ≤ n) (h2 : n ≤ 12) :
    Calls Try.prog 78 #[.int .i64 n] w fun e w' => e = .returned (.bool true) ∧ w = w' := by
  go_enter Try.func78, Try.ntmps78
  go_wp2
  go_ret
  exact ⟨rfl, rfl⟩

set_option maxHeartbeats 400000 in
theorem mmay_no (n : Int) (w : World) (h : n < 2 ∨ 12 < n) :
    Calls Try.prog 78 #[.int .i64 n] w fun e w' => e = .returned (.bool false) ∧ w = w' := by
  rcases h with h | h
  · go_enter Try.func78, Try.ntmps78
    go_wp2
    go_ret
    exact ⟨rfl, rfl⟩
  · have h1 : 2 ≤ n := by omega
    have h2 : decide (n ≤ 12) = false := by simp; omega
    go_enter Try.func78, Try.ntmps78
    go_wp2
    go_ret
    exact ⟨rfl, rfl⟩

/-- Where a method lies. -/
structure Box (w : World) (B : Nat) (s : ByteArray) (n : Int) (v : Value) : Prop where
  c0 : w.cell? ⟨B, 0, none⟩ = some (.string s)
  c1 : w.cell? ⟨B, 1, none⟩ = some (.int .i64 n)
  c2 : w.cell? ⟨B, 2, none⟩ = some v
  lt : B < w.heap.size

theorem Box.start (w : World) (s : ByteArray) (n : Int) (v : Value) (t : TypeId) : Box (w.alloc (.cells #[.string s, .int .i64 n, v] t)) w.heap.size s n v := by
  refine ⟨?_, ?_, ?_, by simp⟩ <;> simp

theorem Box.below {w w' : World} {B : Nat} {s : ByteArray} {n : Int} {v : Value} (h : Box w B s n v) (hb : Below w.heap.size w w') : Box w' B s n v :=
  ⟨(hb.cell (p := ⟨B, 0, none⟩) h.lt).trans h.c0, (hb.cell (p := ⟨B, 1, none⟩) h.lt).trans h.c1, (hb.cell (p := ⟨B, 2, none⟩) h.lt).trans h.c2, Nat.lt_of_lt_of_le h.lt hb.size⟩

set_option maxRecDepth 20000 in
set_option maxHeartbeats 4000000 in
theorem mcheck_name (s : ByteArray) (n : Int) (v : Value) (w : World) (hs : s.size ≤ 9223372036854775807) (hn : nm s = false) :
    Calls Try.prog 59 #[meth s n v] w fun e w' => e = .returned (.int .i64 7) ∧ Below w.heap.size w w' := by
  unfold meth
  have HN := hide (fun W => name_any s W hs)
  rw [hn] at HN
  clear hn
  go_enter Try.func59, Try.ntmps59
  go_wp2_with fail
  refine (HN.out _).mono ?_
  rintro e w1 ⟨rfl, hb1⟩
  have hB : Below w.heap.size w w1 := ((Below.refl _ _).alloc (Nat.le_refl _) _).trans (hb1.mono (by simp))
  clear hb1 HN
  go_wp2
  go_ret
  exact ⟨rfl, hB⟩

set_option maxRecDepth 20000 in
set_option maxHeartbeats 4000000 in
theorem mcheck_ok (s : ByteArray) (n : Nat) (v : Value) (css : List (List Int)) (w : World) (hs : s.size ≤ 9223372036854775807) (hn : nm s = true) (h1 : 2 ≤ n) (h2 : n ≤ 12) (hl1 : 1 ≤ css.length) (hl2 : css.length ≤ 200) (hv : IntsAll w v css)
    (hok : ∀ k, k < css.length → okc n 0 (css.getD k []) = true) :
    Calls Try.prog 59 #[meth s n v] w fun e w' => e = .returned (.int .i64 0) ∧ Below w.heap.size w w' := by
  unfold meth
  have HN := hide (fun W => name_any s W hs)
  rw [hn] at HN
  obtain ⟨b, off, cap, rfl, hb, hc1, hc2, hcell⟩ := hv.cell hl1
  have HC := hide hcell
  have HOK := hide hok
  clear hn hv hok hcell
  go_enter Try.func59, Try.ntmps59
  go_wp2_with fail
  refine (HN.out _).mono ?_
  rintro e w1 ⟨rfl, hb1⟩
  have hB : Below w.heap.size w w1 := ((Below.refl _ _).alloc (Nat.le_refl _) _).trans (hb1.mono (by simp))
  have hx := (Box.start w s n (.slice (some ⟨b, off, none⟩) css.length cap) 24).below hb1
  have g1 := hx.c1
  have g2 := hx.c2
  have HX := hide hx
  clear hb1 HN hx
  go_wp2_with fail
  refine (mmay_yes _ _ (by omega) (by omega)).mono ?_
  rintro e w' ⟨rfl, rfl⟩
  go_wp2
  go_loop [29] (fun i => ∃ k : Nat, k ≤ css.length ∧ i = .int .i64 k) (fun i => css.length - (intOf i).toNat)
  case atStart => exact ⟨0, by omega, rfl⟩
  case round =>
    obtain ⟨k, hk, rfl⟩ := hrel
    by_cases hlt : k < css.length
    · obtain ⟨p, c, hcx, hix⟩ := HC.out k hlt
      have gx := (hB.cell (p := ⟨b, off + k, none⟩) (by exact hb)).trans hcx
      have HCk := hide (pcheck_any n _ _ w1 (by omega) (by omega) (hix.out.below hB))
      rw [show pck n (css.getD k []) = 0 from by unfold pck; rw [if_pos (HOK.out k hlt)]] at HCk
      generalize (css.getD k []).length = L at *
      clear hcx hix
      go_wp2_with fail
      refine HCk.out.mono ?_
      rintro e w' ⟨rfl, rfl⟩
      go_wp2
      go_round
      case rel => exact ⟨k + 1, by omega, by go_num⟩
      case measure => simp [intOf]; omega
    · go_wp2
      go_ret
      exact ⟨rfl, hB⟩

end Go.Proofs.Ytoiiadiimfohiaa

/- Contract: Pick. -/
namespace Go.Proofs.Ytoiiadiimfohiaa
open Go.RowKit

set_option maxHeartbeats 400000 in
theorem pick_any (c n : Int) (w : World) (h1 : -9223372036854775808 ≤ c) (h2 : c ≤ 9223372036854775807) (h3 : 0 < n) (h4 : n ≤ 9223372036854775807) :
    Calls Try.prog 18 #[.int .i64 c, .int .i64 n] w fun e w' => ∃ k : Int, 0 ≤ k ∧ k < n ∧ e = .returned (.int .i64 k) ∧ w = w' := by
  by_cases h : c < 0
  · go_enter Try.func18, Try.ntmps18
    go_wp2
    go_ret
    refine ⟨_, ?_, ?_, rfl, rfl⟩
    · rw [← Int.neg_tmod]; exact Int.tmod_nonneg _ (by omega)
    · rw [← Int.neg_tmod]; exact Int.tmod_lt_of_pos _ h3
  · go_enter Try.func18, Try.ntmps18
    go_wp2
    go_ret
    refine ⟨_, ?_, ?_, rfl, rfl⟩
    · exact Int.emod_nonneg _ (by omega)
    · exact Int.emod_lt_of_pos _ h3

/-- Which of n things a raw number speaks of. -/
def pk (c n : Int) : Int := (if c < 0 then -(c + 1) else c) % n

theorem pk_range (c : Int) {n : Int} (h : 0 < n) : 0 ≤ pk c n ∧ pk c n < n := ⟨Int.emod_nonneg _ (by omega), Int.emod_lt_of_pos _ h⟩

set_option maxHeartbeats 400000 in
theorem pick_det (c n : Int) (w : World) (h1 : -9223372036854775808 ≤ c) (h2 : c ≤ 9223372036854775807) (h3 : 0 < n) (h4 : n ≤ 9223372036854775807) :
    Calls Try.prog 18 #[.int .i64 c, .int .i64 n] w fun e w' => e = .returned (.int .i64 (pk c n)) ∧ w = w' := by
  by_cases h : c < 0
  · have HP : Hid (pk c n = (-(c + 1)) % n) := by show _ = _; unfold pk; rw [if_pos h]
    go_enter Try.func18, Try.ntmps18
    go_wp2
    go_ret
    refine ⟨ret_int ?_, rfl⟩
    rw [HP.out, ← Int.neg_tmod, Int.tmod_eq_emod_of_nonneg (by omega)]
  · have HP : Hid (pk c n = c % n) := by show _ = _; unfold pk; rw [if_neg h]
    go_enter Try.func18, Try.ntmps18
    go_wp2
    go_ret
    exact ⟨ret_int HP.out.symm, rfl⟩

end Go.Proofs.Ytoiiadiimfohiaa

/- Pick: see PickB. -/
namespace Go.Proofs.Ytoiiadiimfohiaa
end Go.Proofs.Ytoiiadiimfohiaa

/- Contract: Raw. -/
namespace Go.Proofs.Ytoiiadiimfohiaa
open Go.RowKit

theorem wrap_I64 (x : Int) : I64 (wrap64 x) := by
  unfold I64 wrap64
  omega

set_option maxRecDepth 20000 in
set_option maxHeartbeats 400000 in
theorem raw_any (v : Value) (xs : List Int) (k : Nat) (w : World) (h : Ints w v xs) (hx : ∀ x, x ∈ xs → I64 x) (hk : k ≤ 1000000) :
    Calls Try.prog 45 #[v, .int .i64 k] w fun e w' => ∃ x, I64 x ∧ e = .returned (.int .i64 x) ∧ w = w' := by
  rcases h with ⟨rfl, p, c, rfl⟩ | ⟨b, off, cap, rfl, h0, hc, hm, hb, hcell⟩
  · go_enter Try.func45, Try.ntmps45
    go_wp2
    go_ret
    exact ⟨0, ⟨by omega, by omega⟩, rfl, rfl⟩
  · have hml : k % xs.length < xs.length := Nat.mod_lt _ h0
    have hme : (k : Int) % (xs.length : Int) = ((k % xs.length : Nat) : Int) := (Int.natCast_emod k xs.length).symm
    obtain ⟨x, hxe, hcx⟩ := cellAt hcell hml
    have hxm : I64 x := hx x (by rw [← hxe.out, List.getElem?_eq_getElem hml]; exact List.getElem_mem hml)
    have hne : ((xs.length : Int) == 0) = false := by rw [beq_eq_false_iff_ne]; omega
    generalize k % xs.length = m at *
    have HX := hide hx
    clear hcell hx hxe
    go_enter Try.func45, Try.ntmps45
    go_wp2
    go_ret
    exact ⟨x, hxm, rfl, rfl⟩

end Go.Proofs.Ytoiiadiimfohiaa
