/- Joined: Name, ChRow, Meth, Pick, Raw, ChOf, LL, RowAt, Lead, TrF. -/
import Derived.Test.YthbhoohdniamaaaJ5
import Derived.Lib.RuneCount
import Derived.Lib.DecodeN
import Derived.Test.YthbhoohdniamaaaJ2
import Derived.Test.YthbhoohdniamaaaJ4
/- Contracts: ofName, Name of package method, at every text. -/
namespace Go.Proofs.Ythbhoohdniamaaa
open Go.RowKit Go.Lib

/-- May a rune be in a name? -/
def ofn (r : Nat) : Bool := decide (65 ≤ r ∧ r ≤ 90 ∨ 97 ≤ r ∧ r ≤ 122 ∨ 48 ≤ r ∧ r ≤ 57 ∨ r = 32 ∨ (192 ≤ r ∧ r ≤ 382 ∧ r ≠ 215 ∧ r ≠ 247))

set_option maxRecDepth 20000 in
set_option maxHeartbeats 4000000 in
theorem ofName_any (r : Nat) (w : World) (hr : r ≤ 1114111) : Calls Try.prog 103 #[.int .i32 r] w fun e w' => e = .returned (.bool (ofn r)) ∧ w = w' := by
  have hcase : r < 32 ∨ r = 32 ∨ (33 ≤ r ∧ r ≤ 47) ∨ (48 ≤ r ∧ r ≤ 57) ∨ (58 ≤ r ∧ r ≤ 64) ∨ (65 ≤ r ∧ r ≤ 90) ∨ (91 ≤ r ∧ r ≤ 96) ∨ (97 ≤ r ∧ r ≤ 122) ∨ (123 ≤ r ∧ r ≤ 191) ∨ (192 ≤ r ∧ r ≤ 214) ∨ r = 215 ∨ (216 ≤ r ∧ r ≤ 246) ∨ r = 247 ∨ (248 ≤ r ∧ r ≤ 382) ∨ 383 ≤ r := by omega
  rcases hcase with h | h | ⟨h1, h2⟩ | ⟨h1, h2⟩ | ⟨h1, h2⟩ | ⟨h1, h2⟩ | ⟨h1, h2⟩ | ⟨h1, h2⟩ | ⟨h1, h2⟩ | ⟨h1, h2⟩ | h | ⟨h1, h2⟩ | h | ⟨h1, h2⟩ | h
  · have hb : Hid (ofn r = false) := by show _ = _; unfold ofn; exact decide_eq_false (by omega)
    have e32 : ((r : Int) == 32) = false := by rw [beq_eq_false_iff_ne]; omega
    have e215 : ((r : Int) == 215) = false := by rw [beq_eq_false_iff_ne]; omega
    have e247 : ((r : Int) == 247) = false := by rw [beq_eq_false_iff_ne]; omega
    go_enter Try.func103, Try.ntmps103
    go_wp2
    go_ret
    exact ⟨ret_bool (by first | exact hb.out.symm | (rw [hb.out]; exact decide_eq_true (by omega)) | (rw [hb.out]; exact decide_eq_false (by omega))), rfl⟩
  · have hb : Hid (ofn r = true) := by show _ = _; unfold ofn; exact decide_eq_true (by omega)
    subst h
    go_enter Try.func103, Try.ntmps103
    go_wp2
    go_ret
    exact ⟨ret_bool (by first | exact hb.out.symm | (rw [hb.out]; exact decide_eq_true (by omega)) | (rw [hb.out]; exact decide_eq_false (by omega))), rfl⟩
  · have hb : Hid (ofn r = false) := by show _ = _; unfold ofn; exact decide_eq_false (by omega)
    have e32 : ((r : Int) == 32) = false := by rw [beq_eq_false_iff_ne]; omega
    have e215 : ((r : Int) == 215) = false := by rw [beq_eq_false_iff_ne]; omega
    have e247 : ((r : Int) == 247) = false := by rw [beq_eq_false_iff_ne]; omega
    go_enter Try.func103, Try.ntmps103
    go_wp2
    go_ret
    exact ⟨ret_bool (by first | exact hb.out.symm | (rw [hb.out]; exact decide_eq_true (by omega)) | (rw [hb.out]; exact decide_eq_false (by omega))), rfl⟩
  · have hb : Hid (ofn r = true) := by show _ = _; unfold ofn; exact decide_eq_true (by omega)
    have e32 : ((r : Int) == 32) = false := by rw [beq_eq_false_iff_ne]; omega
    have e215 : ((r : Int) == 215) = false := by rw [beq_eq_false_iff_ne]; omega
    have e247 : ((r : Int) == 247) = false := by rw [beq_eq_false_iff_ne]; omega
    go_enter Try.func103, Try.ntmps103
    go_wp2
    go_ret
    exact ⟨ret_bool (by first | exact hb.out.symm | (rw [hb.out]; exact decide_eq_true (by omega)) | (rw [hb.out]; exact decide_eq_false (by omega))), rfl⟩
  · have hb : Hid (ofn r = false) := by show _ = _; unfold ofn; exact decide_eq_false (by omega)
    have e32 : ((r : Int) == 32) = false := by rw [beq_eq_false_iff_ne]; omega
    have e215 : ((r : Int) == 215) = false := by rw [beq_eq_false_iff_ne]; omega
    have e247 : ((r : Int) == 247) = false := by rw [beq_eq_false_iff_ne]; omega
    go_enter Try.func103, Try.ntmps103
    go_wp2
    go_ret
    exact ⟨ret_bool (by first | exact hb.out.symm | (rw [hb.out]; exact decide_eq_true (by omega)) | (rw [hb.out]; exact decide_eq_false (by omega))), rfl⟩
  · have hb : Hid (ofn r = true) := by show _ = _; unfold ofn; exact decide_eq_true (by omega)
    have e32 : ((r : Int) == 32) = false := by rw [beq_eq_false_iff_ne]; omega
    have e215 : ((r : Int) == 215) = false := by rw [beq_eq_false_iff_ne]; omega
    have e247 : ((r : Int) == 247) = false := by rw [beq_eq_false_iff_ne]; omega
    go_enter Try.func103, Try.ntmps103
    go_wp2
    go_ret
    exact ⟨ret_bool (by first | exact hb.out.symm | (rw [hb.out]; exact decide_eq_true (by omega)) | (rw [hb.out]; exact decide_eq_false (by omega))), rfl⟩
  · have hb : Hid (ofn r = false) := by show _ = _; unfold ofn; exact decide_eq_false (by omega)
    have e32 : ((r : Int) == 32) = false := by rw [beq_eq_false_iff_ne]; omega
    have e215 : ((r : Int) == 215) = false := by rw [beq_eq_false_iff_ne]; omega
    have e247 : ((r : Int) == 247) = false := by rw [beq_eq_false_iff_ne]; omega
    go_enter Try.func103, Try.ntmps103
    go_wp2
    go_ret
    exact ⟨ret_bool (by first | exact hb.out.symm | (rw [hb.out]; exact decide_eq_true (by omega)) | (rw [hb.out]; exact decide_eq_false (by omega))), rfl⟩
  · have hb : Hid (ofn r = true) := by show _ = _; unfold ofn; exact decide_eq_true (by omega)
    have e32 : ((r : Int) == 32) = false := by rw [beq_eq_false_iff_ne]; omega
    have e215 : ((r : Int) == 215) = false := by rw [beq_eq_false_iff_ne]; omega
    have e247 : ((r : Int) == 247) = false := by rw [beq_eq_false_iff_ne]; omega
    go_enter Try.func103, Try.ntmps103
    go_wp2
    go_ret
    exact ⟨ret_bool (by first | exact hb.out.symm | (rw [hb.out]; exact decide_eq_true (by omega)) | (rw [hb.out]; exact decide_eq_false (by omega))), rfl⟩
  · have hb : Hid (ofn r = false) := by show _ = _; unfold ofn; exact decide_eq_false (by omega)
    have e32 : ((r : Int) == 32) = false := by rw [beq_eq_false_iff_ne]; omega
    have e215 : ((r : Int) == 215) = false := by rw [beq_eq_false_iff_ne]; omega
    have e247 : ((r : Int) == 247) = false := by rw [beq_eq_false_iff_ne]; omega
    go_enter Try.func103, Try.ntmps103
    go_wp2
    go_ret
    exact ⟨ret_bool (by first | exact hb.out.symm | (rw [hb.out]; exact decide_eq_true (by omega)) | (rw [hb.out]; exact decide_eq_false (by omega))), rfl⟩
  · have hb : Hid (ofn r = true) := by show _ = _; unfold ofn; exact decide_eq_true (by omega)
    have e32 : ((r : Int) == 32) = false := by rw [beq_eq_false_iff_ne]; omega
    have e215 : ((r : Int) == 215) = false := by rw [beq_eq_false_iff_ne]; omega
    have e247 : ((r : Int) == 247) = false := by rw [beq_eq_false_iff_ne]; omega
    go_enter Try.func103, Try.ntmps103
    go_wp2
    go_ret
    exact ⟨ret_bool (by first | exact hb.out.symm | (rw [hb.out]; exact decide_eq_true (by omega)) | (rw [hb.out]; exact decide_eq_false (by omega))), rfl⟩
  · have hb : Hid (ofn r = false) := by show _ = _; unfold ofn; exact decide_eq_false (by omega)
    subst h
    go_enter Try.func103, Try.ntmps103
    go_wp2
    go_ret
    exact ⟨ret_bool (by first | exact hb.out.symm | (rw [hb.out]; exact decide_eq_true (by omega)) | (rw [hb.out]; exact decide_eq_false (by omega))), rfl⟩
  · have hb : Hid (ofn r = true) := by show _ = _; unfold ofn; exact decide_eq_true (by omega)
    have e32 : ((r : Int) == 32) = false := by rw [beq_eq_false_iff_ne]; omega
    have e215 : ((r : Int) == 215) = false := by rw [beq_eq_false_iff_ne]; omega
    have e247 : ((r : Int) == 247) = false := by rw [beq_eq_false_iff_ne]; omega
    go_enter Try.func103, Try.ntmps103
    go_wp2
    go_ret
    exact ⟨ret_bool (by first | exact hb.out.symm | (rw [hb.out]; exact decide_eq_true (by omega)) | (rw [hb.out]; exact decide_eq_false (by omega))), rfl⟩
  · have hb : Hid (ofn r = false) := by show _ = _; unfold ofn; exact decide_eq_false (by omega)
    subst h
    go_enter Try.func103, Try.ntmps103
    go_wp2
    go_ret
    exact ⟨ret_bool (by first | exact hb.out.symm | (rw [hb.out]; exact decide_eq_true (by omega)) | (rw [hb.out]; exact decide_eq_false (by omega))), rfl⟩
  · have hb : Hid (ofn r = true) := by show _ = _; unfold ofn; exact decide_eq_true (by omega)
    have e32 : ((r : Int) == 32) = false := by rw [beq_eq_false_iff_ne]; omega
    have e215 : ((r : Int) == 215) = false := by rw [beq_eq_false_iff_ne]; omega
    have e247 : ((r : Int) == 247) = false := by rw [beq_eq_false_iff_ne]; omega
    go_enter Try.func103, Try.ntmps103
    go_wp2
    go_ret
    exact ⟨ret_bool (by first | exact hb.out.symm | (rw [hb.out]; exact decide_eq_true (by omega)) | (rw [hb.out]; exact decide_eq_false (by omega))), rfl⟩
  · have hb : Hid (ofn r = false) := by show _ = _; unfold ofn; exact decide_eq_false (by omega)
    have e32 : ((r : Int) == 32) = false := by rw [beq_eq_false_iff_ne]; omega
    have e215 : ((r : Int) == 215) = false := by rw [beq_eq_false_iff_ne]; omega
    have e247 : ((r : Int) == 247) = false := by rw [beq_eq_false_iff_ne]; omega
    go_enter Try.func103, Try.ntmps103
    go_wp2
    go_ret
    exact ⟨ret_bool (by first | exact hb.out.symm | (rw [hb.out]; exact decide_eq_true (by omega)) | (rw [hb.out]; exact decide_eq_false (by omega))), rfl⟩

/-- The k-th byte; 0 beyond. -/
def bt (s : ByteArray) (k : Nat) : Nat := ((s.data.toList[k]?).getD 0).toNat

theorem bt_get {s : ByteArray} {k : Nat} (h : k < s.size) : (s[k]'h).toNat = bt s k := by
  have h' : k < s.data.toList.length := by rw [Array.length_toList]; exact h
  unfold bt
  rw [List.getElem?_eq_getElem h', Option.getD_some]
  rfl

theorem bt_lt (s : ByteArray) (k : Nat) : bt s k < 256 := by unfold bt; exact UInt8.toNat_lt _

/-- Is it a name? -/
def nm (s : ByteArray) : Bool := (runesOf s).all ofn && decide (1 ≤ (runesOf s).length ∧ (runesOf s).length ≤ 20 ∧ bt s 0 ≠ 32 ∧ bt s (s.size - 1) ≠ 32)

theorem nm_bad {s : ByteArray} {r : Nat} (h : r ∈ runesOf s) (hr : ofn r = false) : nm s = false := by
  unfold nm
  rw [show (runesOf s).all ofn = false from by rw [List.all_eq_false]; exact ⟨r, h, by simp [hr]⟩]
  rfl

structure NameRel (w wr : World) (s : ByteArray) (pre : List Nat) (pos : Nat) : Prop where
  iter : wr.heap[w.heap.size]? = some (.stringIter s pos)
  rto : RunesTo s pre pos
  all : pre.all ofn = true
  size : w.heap.size < wr.heap.size
  below : Below w.heap.size w wr
set_option maxRecDepth 20000 in
set_option maxHeartbeats 4000000 in
theorem name_any (s : ByteArray) (w : World) (hs : s.size ≤ 9223372036854775807) :
    Calls Try.prog 74 #[.string s] w fun e w' => e = .returned (.bool (nm s)) ∧ Below w.heap.size w w' := by
  go_enter Try.func74, Try.ntmps74
  go_wp2
  go_loopw [3] (fun c wr => ∃ pos pre, c = .int .i64 ((pre.length : Nat) : Int) ∧ NameRel w wr s pre pos) (fun _ wr => s.size - wr.iterPos w.heap.size)
  case atStart => exact ⟨0, [], rfl, ⟨World.iter_heap w s 0, runesTo_start s, rfl, by simp [World.iter], below_iter w s 0⟩⟩
  case round =>
    obtain ⟨pos, pre, rfl, hr⟩ := hrel
    by_cases hp : pos < s.size
    · have hnx : ∀ ty, (Instr.next (.pointer (some ⟨w.heap.size, 0, none⟩)) true ty).run Try.prog wr = .ok (.tuple #[.bool true, .int .i64 (pos : Int), .int .i32 (((Utf8.decode s pos).1 : Nat) : Int)]) (wr.iterAt w.heap.size s (pos + (Utf8.decode s pos).2)) := by
        intro ty
        exact run_next_any_at wr w.heap.size s pos ty hr.iter hp
      have hmem := hr.rto.mem hp
      have HO := hide (ofName_any (Utf8.decode s pos).1 (wr.iterAt w.heap.size s (pos + (Utf8.decode s pos).2)) (decode_le s pos))
      have HIt := hide (iterAt_heap wr w.heap.size s pos (pos + (Utf8.decode s pos).2) hr.iter)
      have HTo := hide (hr.rto.next hp)
      have HI := hide (iterPos_of hr.iter)
      have hbw := hide (below_iterAt hr.below (Nat.le_refl _) s (pos + (Utf8.decode s pos).2))
      have HA := hide hr.all
      have HSz : Hid (w.heap.size < (wr.iterAt w.heap.size s (pos + (Utf8.decode s pos).2)).heap.size) := by show _ < _; rw [iterAt_size]; exact hr.size
      have HW := hide (decode_width_pos s pos hp)
      have hc := hmem.2
      have HM := hide hmem.1
      clear hmem hr
      generalize (Utf8.decode s pos).1 = r at *
      generalize (Utf8.decode s pos).2 = n at *
      cases ho : ofn r with
      | false =>
        have HNM := hide (nm_bad HM.out ho)
        rw [ho] at HO
        clear ho
        go_wp2_with fail
        refine HO.out.mono ?_
        rintro e w' ⟨rfl, rfl⟩
        go_wp2
        go_ret
        exact ⟨ret_bool HNM.out.symm, hbw.out⟩
      | true =>
        rw [ho] at HO
        have HAA : Hid ((pre ++ [r]).all ofn = true) := by show _ = _; rw [List.all_append, HA.out]; simp [ho]
        clear ho
        go_wp2_with fail
        refine HO.out.mono ?_
        rintro e w' ⟨rfl, rfl⟩
        go_wp2
        go_roundw
        case rel => exact ⟨pos + n, pre ++ [r], by rw [List.length_append]; go_num, ⟨HIt.out, HTo.out, HAA.out, HSz.out, hbw.out⟩⟩
        case measure => rw [HI.out, iterPos_of HIt.out]; have := HW.out; omega
    · have hnx := fun ty => run_next_end_at (P := Try.prog) wr w.heap.size s pos ty hr.iter hp
      have HE := hide (hr.rto.done hp)
      have HA := hide hr.all
      have hbw := hr.below
      have hle := runesOf_length s
      rw [HE.out] at hle
      have HNM : Hid (nm s = decide (1 ≤ pre.length ∧ pre.length ≤ 20 ∧ bt s 0 ≠ 32 ∧ bt s (s.size - 1) ≠ 32)) := by
        show _ = _; unfold nm; rw [HE.out, HA.out, Bool.true_and]
      clear hr hp
      generalize pre.length = L at *
      by_cases c1 : 1 ≤ L
      · by_cases c2 : L ≤ 20
        · have hs0 : 0 < s.size := by omega
          have hs1 : s.size - 1 < s.size := by omega
          have hx1 := index_byte s (s.size - 1) hs1 wr
          rw [bt_get hs1] at hx1
          rw [show ((s.size - 1 : Nat) : Int) = (s.size : Int) - 1 from by omega] at hx1
          generalize bt s (s.size - 1) = b1 at *
          have hb0 := bt_get hs0
          generalize hq : (s[0]'hs0).toNat = b0 at *
          by_cases c3 : b0 = 32
          · have hv : Hid (nm s = false) := by show _ = _; rw [HNM.out]; exact decide_eq_false (by omega)
            have hn0 : (((s[0]'hs0).toNat : Int) != 32) = false := by rw [hq, c3]; rfl
            clear c3 hb0 hq
            go_wp2
            go_ret
            exact ⟨ret_bool hv.out.symm, hbw⟩
          · have hn0 : (((s[0]'hs0).toNat : Int) != 32) = true := by rw [hq, bne_iff_ne]; omega
            by_cases c4 : b1 = 32
            · have hv : Hid (nm s = false) := by show _ = _; rw [HNM.out]; exact decide_eq_false (by omega)
              subst c4
              clear c3 hb0 hq
              go_wp2
              go_ret
              exact ⟨ret_bool hv.out.symm, hbw⟩
            · have hv : Hid (nm s = true) := by show _ = _; rw [HNM.out]; exact decide_eq_true (by omega)
              have hn1 : ((b1 : Int) != 32) = true := by rw [bne_iff_ne]; omega
              clear c3 c4 hb0 hq
              go_wp2
              go_ret
              exact ⟨ret_bool hv.out.symm, hbw⟩
        · have hv : Hid (nm s = false) := by show _ = _; rw [HNM.out]; exact decide_eq_false (by omega)
          go_wp2
          go_ret
          exact ⟨ret_bool hv.out.symm, hbw⟩
      · have hv : Hid (nm s = false) := by show _ = _; rw [HNM.out]; exact decide_eq_false (by omega)
        go_wp2
        go_ret
        exact ⟨ret_bool hv.out.symm, hbw⟩

end Go.Proofs.Ythbhoohdniamaaa

/- Contracts: place.Row, ChangeOf. -/
namespace Go.Proofs.Ythbhoohdniamaaa
open Go.RowKit

/-- A row that is changed up to a tile. -/
def Upto (n : Nat) (s : List Bool) (zs : List Int) : Prop := zs.length = n ∧ ∀ j, j < n → zs.getD j 0 = if j < tsz s then (trow s).getD j 0 else (j : Int)

theorem upto_start (n : Nat) : Upto n [] (rnd n) := ⟨rnd_length n, fun j hj => by rw [rnd_get hj, if_neg (by simp [tsz])]⟩

theorem upto_end {n : Nat} {t : List Bool} {zs : List Int} (h : Upto n t zs) (ht : tsz t = n) : zs = trow t :=
  ext_getD (by rw [h.1, trow_length, ht]) (fun j hj => by rw [h.2 j (by rw [← h.1]; exact hj), if_pos (by rw [ht, ← h.1]; exact hj)])

theorem trow_get_old {b : Bool} {s : List Bool} {j : Nat} (h : j < tsz s) : (trow (b :: s)).getD j 0 = (trow s).getD j 0 := by
  have hl : j < (trow s).length := by rw [trow_length]; exact h
  cases b <;> simp only [trow, List.getD] <;> rw [List.getElem?_append_left hl]

theorem trow_get_one (s : List Bool) : (trow (true :: s)).getD (tsz s) 0 = (tsz s : Nat) := by
  simp only [trow, List.getD]; rw [List.getElem?_append_right (by rw [trow_length]; omega), trow_length, Nat.sub_self]; rfl

theorem trow_get_fst (s : List Bool) : (trow (false :: s)).getD (tsz s) 0 = ((tsz s + 1 : Nat) : Int) := by
  simp only [trow, List.getD]; rw [List.getElem?_append_right (by rw [trow_length]; omega), trow_length, Nat.sub_self]; rfl

theorem trow_get_snd (s : List Bool) : (trow (false :: s)).getD (tsz s + 1) 0 = (tsz s : Nat) := by
  simp only [trow, List.getD]; rw [List.getElem?_append_right (by rw [trow_length]; omega), trow_length, show tsz s + 1 - tsz s = 1 from by omega]; rfl

theorem upto_one {n : Nat} {s : List Bool} {zs : List Int} (h : Upto n s zs) : Upto n (true :: s) zs := by
  have e : tsz (true :: s) = tsz s + 1 := rfl
  refine ⟨h.1, fun j hj => ?_⟩
  rw [h.2 j hj]
  by_cases h1 : j < tsz s
  · rw [if_pos h1, if_pos (by omega), trow_get_old h1]
  · by_cases h2 : j = tsz s
    · subst h2; rw [if_neg h1, if_pos (by omega), trow_get_one]
    · rw [if_neg h1, if_neg (by omega)]

theorem upto_two {n : Nat} {s : List Bool} {zs : List Int} (h : Upto n s zs) (hn : tsz s + 2 ≤ n) : Upto n (false :: s) ((zs.set (tsz s) ((tsz s + 1 : Nat) : Int)).set (tsz s + 1) (tsz s : Nat)) := by
  have e : tsz (false :: s) = tsz s + 2 := rfl
  refine ⟨by simp [h.1], fun j hj => ?_⟩
  rw [getD_set (by simp [h.1]; omega), getD_set (by rw [h.1]; omega), h.2 j hj]
  by_cases h1 : tsz s + 1 = j
  · subst h1; rw [if_pos rfl, if_pos (by omega), trow_get_snd]
  · rw [if_neg h1]
    by_cases h2 : tsz s = j
    · subst h2; rw [if_pos rfl, if_pos (by omega), trow_get_fst]
    · rw [if_neg h2]
      by_cases h3 : j < tsz s
      · rw [if_pos h3, if_pos (by omega), trow_get_old h3]
      · rw [if_neg h3, if_neg (by omega)]

theorem upto_at {n : Nat} {s : List Bool} {zs : List Int} (h : Upto n s zs) {j : Nat} (hj : j < n) (hs : tsz s ≤ j) : zs[j]?.getD 0 = (j : Int) := by
  have := h.2 j hj
  rw [if_neg (by omega)] at this
  exact this

set_option maxHeartbeats 4000000 in
theorem prow_ok (t : List Bool) (n : Nat) (v : Value) (w : World) (hn : tsz t = n) (h1 : 1 ≤ n) (h2 : n ≤ 12) (i1 : Ints w v (tpl t)) :
    Calls Try.prog 68 #[.int .i64 n, v] w fun e w' => ∃ v', e = .returned (.tuple #[v', .int .i64 0]) ∧ w'.ownsRow w.heap.size 3 1 v' n ((trow t).map (Value.int .i64)) ∧ Below w.heap.size w w' := by
  have HC := hide (pcheck_any n v (tpl t) w (by omega) (by omega) i1)
  rw [pck_til hn] at HC
  have HI := hide i1
  have HT := hide hn
  clear i1 hn
  go_enter Try.func68, Try.ntmps68
  go_wp2_with fail
  refine HC.out.mono ?_
  rintro e w' ⟨rfl, rfl⟩
  clear HC
  go_wp2_with fail
  refine (rounds_ok n w h1 h2).mono ?_
  rintro e w0 ⟨v', rfl, hown0, hb0⟩
  obtain ⟨g, cap, rfl, hg1, hg2, hcap, hcap2⟩ := owns_form hown0 h1
  go_wp2
  go_loopw [9] (fun i wr => ∃ (u s : List Bool) (zs : List Int), Hid (t = u ++ s) ∧ Hid (Upto n s zs) ∧ tsz s ≤ n ∧ i = .int .i64 (tsz s : Nat) ∧ wr.ownsRow w.heap.size 3 1 (.slice (some ⟨g, 0, none⟩) n cap) n (zs.map (Value.int .i64)) ∧ Below w.heap.size w wr) (fun i _ => n - (intOf i).toNat)
  case atStart => exact ⟨t, [], rnd n, by show _ = _; simp, upto_start n, Nat.zero_le _, rfl, hown0, hb0⟩
  case round =>
    obtain ⟨u, s, zs, hus, hup, hsn, rfl, hown, hbw⟩ := hrel
    clear hown0 hb0
    by_cases hlt : tsz s < n
    · obtain ⟨u', b, hu, hus'⟩ := til_next (u := u) (s := s) (by rw [← hus.out, HT.out]; exact hlt)
      have HU : Hid (t = u' ++ b :: s) := by show _ = _; rw [hus.out, hus']
      have HCo := hide (contains_any v (tpl t) ((tsz s : Nat) + 1) wr (HI.out.below hbw))
      have hm := mem_next u' s b
      rw [← HU.out] at hm
      have hsz : tsz (b :: s) ≤ n := by have := tsz_mono (b :: s) u'; rw [← HU.out, HT.out] at this; exact this
      clear hu hus' hus
      cases b with
      | true =>
        rw [decide_eq_true (hm.2 rfl)] at HCo
        have HZ := hide (upto_one hup.out)
        clear hm hup
        simp only [tsz] at hsz
        go_wp2_with fail
        refine HCo.out.mono ?_
        rintro e w' ⟨rfl, rfl⟩
        go_wp2
        go_roundw
        case rel => exact ⟨u', true :: s, zs, HU, HZ, hsz, by simp only [tsz]; go_num, hown, hbw⟩
        case measure => simp [intOf]; omega
      | false =>
        rw [decide_eq_false (by rw [hm]; decide)] at HCo
        simp only [tsz] at hsz
        have HZ := hide (upto_two hup.out hsz)
        have hl1 : tsz s < n := by omega
        have hl2 : tsz s + 1 < n := by omega
        obtain ⟨y, hy, hcx, hfx⟩ := owns_cellAt hown hl1
        obtain ⟨z, hz, hcz, hfz⟩ := owns_cellAt hown hl2
        have hyv : y = ((tsz s : Nat) : Int) := by rw [← hy.out]; exact upto_at hup.out hl1 (Nat.le_refl _)
        have hzv : z = ((tsz s + 1 : Nat) : Int) := by rw [← hz.out]; exact upto_at hup.out hl2 (by omega)
        clear hm hup hy hz
        have hown1 := owns_set_int (m := tsz s) hown z
        have hown2 := owns_set_int (m := tsz s + 1) hown1 y
        rw [hzv, hyv] at hown2
        have HOW := hide hown2
        generalize hS : tsz s = S' at *
        subst hyv hzv
        clear hown1 hown2
        go_wp2_with fail
        refine HCo.out.mono ?_
        rintro e w' ⟨rfl, rfl⟩
        go_wp2
        go_region
        all_goals
          go_wp2
          go_roundw
          case rel => exact ⟨u', false :: s, _, HU, HZ, by simp only [tsz]; omega, by simp only [tsz]; go_num, HOW.out, ((hbw.setCell (p := ⟨g, S', none⟩) hg1 _).setCell (p := ⟨g, S' + 1, none⟩) hg1 _).drew⟩
          case measure => simp [intOf]; omega
    · have hs : tsz s = n := by omega
      have hu : u = [] := til_whole (by rw [← hus.out, HT.out, hs]; exact Nat.le_refl _)
      have hts : t = s := by rw [hus.out, hu, List.nil_append]
      have hzt : zs = trow t := by rw [hts]; exact upto_end hup.out hs
      have HOW := hide hown
      rw [hzt] at HOW
      clear hown hup hus hzt hts hu
      go_wp2
      go_ret2
      exact ⟨_, rfl, HOW.out, hbw⟩

end Go.Proofs.Ythbhoohdniamaaa

/- Contracts: method.Check. -/
namespace Go.Proofs.Ythbhoohdniamaaa
open Go.RowKit

/-- A method as a value. -/
abbrev meth (s : ByteArray) (n : Int) (v : Value) : Value := .agg #[.string s, .int .i64 n, v]

set_option maxHeartbeats 400000 in
theorem mmay_yes (n : Int) (w : World) (h1 : 2 ≤ n) (h2 : n ≤ 12) :
    Calls Try.prog 75 #[.int .i64 n] w fun e w' => e = .returned (.bool true) ∧ w = w' := by
  go_enter Try.func75, Try.ntmps75
  go_wp2
  go_ret
  exact ⟨rfl, rfl⟩

set_option maxHeartbeats 400000 in
theorem mmay_no (n : Int) (w : World) (h : n < 2 ∨ 12 < n) :
    Calls Try.prog 75 #[.int .i64 n] w fun e w' => e = .returned (.bool false) ∧ w = w' := by
  rcases h with h | h
  · go_enter Try.func75, Try.ntmps75
    go_wp2
    go_ret
    exact ⟨rfl, rfl⟩
  · have h1 : 2 ≤ n := by omega
    have h2 : decide (n ≤ 12) = false := by simp; omega
    go_enter Try.func75, Try.ntmps75
    go_wp2
    go_ret
    exact ⟨rfl, rfl⟩

/-- Where a method lies. -/
structure Box (w : World) (B : Nat) (s : ByteArray) (n : Int) (v : Value) : Prop where
  c0 : w.cell? ⟨B, 0, none⟩ = some (.string s)
  c1 : w.cell? ⟨B, 1, none⟩ = some (.int .i64 n)
  c2 : w.cell? ⟨B, 2, none⟩ = some v
  lt : B < w.heap.size

theorem Box.start (w : World) (s : ByteArray) (n : Int) (v : Value) (t : TypeId) : Box (w.alloc (.cells #[.string s, .int .i64 n, v] t)) w.heap.size s n v := by
  refine ⟨?_, ?_, ?_, by simp⟩ <;> simp

theorem Box.below {w w' : World} {B : Nat} {s : ByteArray} {n : Int} {v : Value} (h : Box w B s n v) (hb : Below w.heap.size w w') : Box w' B s n v :=
  ⟨(hb.cell (p := ⟨B, 0, none⟩) h.lt).trans h.c0, (hb.cell (p := ⟨B, 1, none⟩) h.lt).trans h.c1, (hb.cell (p := ⟨B, 2, none⟩) h.lt).trans h.c2, Nat.lt_of_lt_of_le h.lt hb.size⟩

set_option maxRecDepth 20000 in
set_option maxHeartbeats 4000000 in
theorem mcheck_name (s : ByteArray) (n : Int) (v : Value) (w : World) (hs : s.size ≤ 9223372036854775807) (hn : nm s = false) :
    Calls Try.prog 55 #[meth s n v] w fun e w' => e = .returned (.int .i64 7) ∧ Below w.heap.size w w' := by
  unfold meth
  have HN := hide (fun W => name_any s W hs)
  rw [hn] at HN
  clear hn
  go_enter Try.func55, Try.ntmps55
  go_wp2_with fail
  refine (HN.out _).mono ?_
  rintro e w1 ⟨rfl, hb1⟩
  have hB : Below w.heap.size w w1 := ((Below.refl _ _).alloc (Nat.le_refl _) _).trans (hb1.mono (by simp))
  clear hb1 HN
  go_wp2
  go_ret
  exact ⟨rfl, hB⟩

set_option maxRecDepth 20000 in
set_option maxHeartbeats 4000000 in
theorem mcheck_ok (s : ByteArray) (n : Nat) (v : Value) (css : List (List Int)) (w : World) (hs : s.size ≤ 9223372036854775807) (hn : nm s = true) (h1 : 2 ≤ n) (h2 : n ≤ 12) (hl1 : 1 ≤ css.length) (hl2 : css.length ≤ 200) (hv : IntsAll w v css)
    (hok : ∀ k, k < css.length → okc n 0 (css.getD k []) = true) :
    Calls Try.prog 55 #[meth s n v] w fun e w' => e = .returned (.int .i64 0) ∧ Below w.heap.size w w' := by
  unfold meth
  have HN := hide (fun W => name_any s W hs)
  rw [hn] at HN
  obtain ⟨b, off, cap, rfl, hb, hc1, hc2, hcell⟩ := hv.cell hl1
  have HC := hide hcell
  have HOK := hide hok
  clear hn hv hok hcell
  go_enter Try.func55, Try.ntmps55
  go_wp2_with fail
  refine (HN.out _).mono ?_
  rintro e w1 ⟨rfl, hb1⟩
  have hB : Below w.heap.size w w1 := ((Below.refl _ _).alloc (Nat.le_refl _) _).trans (hb1.mono (by simp))
  have hx := (Box.start w s n (.slice (some ⟨b, off, none⟩) css.length cap) 26).below hb1
  have g1 := hx.c1
  have g2 := hx.c2
  have HX := hide hx
  clear hb1 HN hx
  go_wp2_with fail
  refine (mmay_yes _ _ (by omega) (by omega)).mono ?_
  rintro e w' ⟨rfl, rfl⟩
  go_wp2
  go_loop [29] (fun i => ∃ k : Nat, k ≤ css.length ∧ i = .int .i64 k) (fun i => css.length - (intOf i).toNat)
  case atStart => exact ⟨0, by omega, rfl⟩
  case round =>
    obtain ⟨k, hk, rfl⟩ := hrel
    by_cases hlt : k < css.length
    · obtain ⟨p, c, hcx, hix⟩ := HC.out k hlt
      have gx := (hB.cell (p := ⟨b, off + k, none⟩) (by exact hb)).trans hcx
      have HCk := hide (pcheck_any n _ _ w1 (by omega) (by omega) (hix.out.below hB))
      rw [show pck n (css.getD k []) = 0 from by unfold pck; rw [if_pos (HOK.out k hlt)]] at HCk
      generalize (css.getD k []).length = L at *
      clear hcx hix
      go_wp2_with fail
      refine HCk.out.mono ?_
      rintro e w' ⟨rfl, rfl⟩
      go_wp2
      go_round
      case rel => exact ⟨k + 1, by omega, by go_num⟩
      case measure => simp [intOf]; omega
    · go_wp2
      go_ret
      exact ⟨rfl, hB⟩

end Go.Proofs.Ythbhoohdniamaaa

/- Contract: Pick. -/
namespace Go.Proofs.Ythbhoohdniamaaa
open Go.RowKit

set_option maxHeartbeats 400000 in
theorem pick_any (c n : Int) (w : World) (h1 : -9223372036854775808 ≤ c) (h2 : c ≤ 9223372036854775807) (h3 : 0 < n) (h4 : n ≤ 9223372036854775807) :
    Calls Try.prog 6 #[.int .i64 c, .int .i64 n] w fun e w' => ∃ k : Int, 0 ≤ k ∧ k < n ∧ e = .returned (.int .i64 k) ∧ w = w' := by
  by_cases h : c < 0
  · go_enter Try.func6, Try.ntmps6
    go_wp2
    go_ret
    refine ⟨_, ?_, ?_, rfl, rfl⟩
    · rw [← Int.neg_tmod]; exact Int.tmod_nonneg _ (by omega)
    · rw [← Int.neg_tmod]; exact Int.tmod_lt_of_pos _ h3
  · go_enter Try.func6, Try.ntmps6
    go_wp2
    go_ret
    refine ⟨_, ?_, ?_, rfl, rfl⟩
    · exact Int.emod_nonneg _ (by omega)
    · exact Int.emod_lt_of_pos _ h3

/-- Which of n things a raw number speaks of. -/
def pk (c n : Int) : Int := (if c < 0 then -(c + 1) else c) % n

theorem pk_range (c : Int) {n : Int} (h : 0 < n) : 0 ≤ pk c n ∧ pk c n < n := ⟨Int.emod_nonneg _ (by omega), Int.emod_lt_of_pos _ h⟩

set_option maxHeartbeats 400000 in
theorem pick_det (c n : Int) (w : World) (h1 : -9223372036854775808 ≤ c) (h2 : c ≤ 9223372036854775807) (h3 : 0 < n) (h4 : n ≤ 9223372036854775807) :
    Calls Try.prog 6 #[.int .i64 c, .int .i64 n] w fun e w' => e = .returned (.int .i64 (pk c n)) ∧ w = w' := by
  by_cases h : c < 0
  · have HP : Hid (pk c n = (-(c + 1)) % n) := by show _ = _; unfold pk; rw [if_pos h]
    go_enter Try.func6, Try.ntmps6
    go_wp2
    go_ret
    refine ⟨ret_int ?_, rfl⟩
    rw [HP.out, ← Int.neg_tmod, Int.tmod_eq_emod_of_nonneg (by omega)]
  · have HP : Hid (pk c n = c % n) := by show _ = _; unfold pk; rw [if_neg h]
    go_enter Try.func6, Try.ntmps6
    go_wp2
    go_ret
    exact ⟨ret_int HP.out.symm, rfl⟩

end Go.Proofs.Ythbhoohdniamaaa

/- Contract: Raw. -/
namespace Go.Proofs.Ythbhoohdniamaaa
open Go.RowKit

theorem wrap_I64 (x : Int) : I64 (wrap64 x) := by
  unfold I64 wrap64
  omega

set_option maxRecDepth 20000 in
set_option maxHeartbeats 400000 in
theorem raw_any (v : Value) (xs : List Int) (k : Nat) (w : World) (h : Ints w v xs) (hx : ∀ x, x ∈ xs → I64 x) (hk : k ≤ 1000000) :
    Calls Try.prog 18 #[v, .int .i64 k] w fun e w' => ∃ x, I64 x ∧ e = .returned (.int .i64 x) ∧ w = w' := by
  rcases h with ⟨rfl, p, c, rfl⟩ | ⟨b, off, cap, rfl, h0, hc, hm, hb, hcell⟩
  · go_enter Try.func18, Try.ntmps18
    go_wp2
    go_ret
    exact ⟨0, ⟨by omega, by omega⟩, rfl, rfl⟩
  · have hml : k % xs.length < xs.length := Nat.mod_lt _ h0
    have hme : (k : Int) % (xs.length : Int) = ((k % xs.length : Nat) : Int) := (Int.natCast_emod k xs.length).symm
    obtain ⟨x, hxe, hcx⟩ := cellAt hcell hml
    have hxm : I64 x := hx x (by rw [← hxe.out, List.getElem?_eq_getElem hml]; exact List.getElem_mem hml)
    have hne : ((xs.length : Int) == 0) = false := by rw [beq_eq_false_iff_ne]; omega
    generalize k % xs.length = m at *
    have HX := hide hx
    clear hcell hx hxe
    go_enter Try.func18, Try.ntmps18
    go_wp2
    go_ret
    exact ⟨x, hxm, rfl, rfl⟩

end Go.Proofs.Ythbhoohdniamaaa

/- Contract: ChangeOf. -/
namespace Go.Proofs.Ythbhoohdniamaaa
open Go.RowKit

set_option maxRecDepth 20000 in
set_option maxHeartbeats 2000000 in
theorem changeOf_ok (c : Int) (n : Nat) (w : World) (hc : I64 c) (h1 : 1 ≤ n) (h2 : n ≤ 12) :
    Calls Try.prog 17 #[.int .i64 c, .int .i64 n] w fun e w' => ∃ v t, e = .returned v ∧ tsz t = n ∧ w'.ownsRow w.heap.size 3 1 v (tpl t).length ((tpl t).map (Value.int .i64)) ∧ Below w.heap.size w w' := by
  obtain ⟨i0, hi, hz0, hz1, hz2⟩ := info_parts Try.info3
  obtain ⟨l0, u0⟩ := hc
  go_enter Try.func17, Try.ntmps17
  go_wp2_with fail
  refine (pick_any _ _ _ l0 u0 (by omega) (by omega)).mono ?_
  rintro e wa ⟨q0, hq0, hq1, rfl, rfl⟩
  clear l0 u0
  go_wp2
  go_loopw [0, 5, 6] (fun c v a wr => ∃ (q : Int) (t : List Bool), 0 ≤ q ∧ q < 1099511627776 ∧ tsz t ≤ n ∧ c = .int .i64 q ∧ a = .int .i64 ((tsz t + 1 : Nat) : Int) ∧ wr.ownsRow w.heap.size 3 1 v (tpl t).length ((tpl t).map (Value.int .i64)) ∧ Below w.heap.size w wr) (fun _ _ a _ => n + 1 - (intOf a).toNat)
  case atStart => exact ⟨q0, [], hq0, hq1, Nat.zero_le _, rfl, rfl, World.ownsRow_nil _ _ _ _, Below.refl _ _⟩
  case round =>
    obtain ⟨q, t, hq0, hq1, hts, rfl, rfl, hown, hbw⟩ := hrel
    have hbs := hbw.size
    have htl : (tpl t).length ≤ tsz t := by have := tpl_length t; omega
    by_cases hlt : tsz t + 1 ≤ n
    · have hq3 : 0 ≤ q / 3 := by omega
      have hq4 : q / 3 < 1099511627776 := by omega
      have HT1 : Hid (tpl (true :: t) = tpl t ++ [((tsz t + 1 : Nat) : Int)]) := rfl
      have HT2 : Hid (tsz (true :: t) = tsz t + 1) := rfl
      by_cases hc : q % 3 = 0 ∨ tsz t + 1 = n
      · have hstep : ∀ (W : World) (v' : Value), W.ownsRow w.heap.size 3 1 v' ((tpl t).length + 1) ((tpl t).map (Value.int .i64) ++ [Value.int .i64 ((tsz t + 1 : Nat) : Int)]) → W.ownsRow w.heap.size 3 1 v' (tpl (true :: t)).length ((tpl (true :: t)).map (Value.int .i64)) := by
          intro W v' h
          rw [HT1.out, List.length_append, List.map_append]
          exact h
        have HST := hide hstep
        clear hstep
        by_cases hc1 : q % 3 = 0
        · have hd1 : (q % 3 == 0) = true := by simpa using hc1
          clear hc hc1
          go_wp2_with (at_builtin; refine wpList_append_own _ rfl _ _ 22 rfl w.heap.size 3 i0 (.int .i64 0) 1 8 Try.underlying22 hi hz0 hz1 hz2 rfl (by decide) _ _ _ rfl (hown.alloc _) ⟨wr.heap.size, 0, none⟩ 1 1 [.int .i64 ((tsz t + 1 : Nat) : Int)] rfl rfl ?c1 ?c2 ?c3 ?c4 ?c5 ?_)
          case c1 => exact cell_one_new _ _ _
          case c2 => intro u hu; simp at hu; subst hu; rfl
          case c3 => unfold maxLen; omega
          case c4 => omega
          case c5 => simp; omega
          · intro v' w1 hown' hgrow _
            go_wp2
            go_roundw
            case rel => exact ⟨q / 3, true :: t, hq3, hq4, by rw [HT2.out]; omega, by go_num, by rw [HT2.out]; go_num, HST.out _ _ hown', (hbw.alloc hbw.size _).grown hgrow (by simp; omega) (fun g hg => (hown.lt g hg).1)⟩
            case measure => simp [intOf]; omega
        · have hd1 : (q % 3 == 0) = false := by simpa using hc1
          have hc2 : tsz t + 1 = n := by rcases hc with h | h; exact absurd h hc1; exact h
          have hd2 : (((tsz t + 1 : Nat) : Int) == (n : Int)) = true := by rw [hc2]; simp
          clear hc hc1 hc2
          go_wp2_with (at_builtin; refine wpList_append_own _ rfl _ _ 22 rfl w.heap.size 3 i0 (.int .i64 0) 1 8 Try.underlying22 hi hz0 hz1 hz2 rfl (by decide) _ _ _ rfl (hown.alloc _) ⟨wr.heap.size, 0, none⟩ 1 1 [.int .i64 ((tsz t + 1 : Nat) : Int)] rfl rfl ?c1 ?c2 ?c3 ?c4 ?c5 ?_)
          case c1 => exact cell_one_new _ _ _
          case c2 => intro u hu; simp at hu; subst hu; rfl
          case c3 => unfold maxLen; omega
          case c4 => omega
          case c5 => simp; omega
          · intro v' w1 hown' hgrow _
            go_wp2
            go_roundw
            case rel => exact ⟨q / 3, true :: t, hq3, hq4, by rw [HT2.out]; omega, by go_num, by rw [HT2.out]; go_num, HST.out _ _ hown', (hbw.alloc hbw.size _).grown hgrow (by simp; omega) (fun g hg => (hown.lt g hg).1)⟩
            case measure => simp [intOf]; omega
      · have hd1 : (q % 3 == 0) = false := by simp; omega
        have hd2 : (((tsz t + 1 : Nat) : Int) == (n : Int)) = false := by rw [beq_eq_false_iff_ne]; omega
        have hl2 : tsz t + 2 ≤ n := by omega
        have HT3 : Hid (tsz (false :: t) = tsz t + 2) := rfl
        clear hc
        go_wp2
        go_roundw
        case rel => exact ⟨q / 3, false :: t, hq3, hq4, by rw [HT3.out]; omega, by go_num, by rw [HT3.out]; go_num, hown, hbw⟩
        case measure => simp [intOf]; omega
    · go_wp2
      go_ret
      exact ⟨_, t, rfl, by omega, hown, hbw⟩

end Go.Proofs.Ythbhoohdniamaaa

/- Contract: ChangesOf. -/
namespace Go.Proofs.Ythbhoohdniamaaa
open Go.RowKit

set_option maxRecDepth 20000 in
set_option maxHeartbeats 2000000 in
theorem changesOf_ok (v : Value) (xs : List Int) (f n m : Nat) (w : World) (h : Ints w v xs) (hx : ∀ x, x ∈ xs → I64 x) (hf : f ≤ 1000) (h1 : 1 ≤ n) (h12 : n ≤ 12) (hm : m ≤ 1000) :
    Calls Try.prog 22 #[v, .int .i64 f, .int .i64 n, .int .i64 m] w fun e w' => ∃ (u : Value) (vs : List Value) (ts : List (List Bool)), e = .returned u ∧ ts.length = m ∧ (∀ t, t ∈ ts → tsz t = n) ∧ LL w' w.heap.size u vs (ts.map tpl) ∧ Below w.heap.size w w' := by
  obtain ⟨i0, hi, hz0, hz1, hz2⟩ := info_parts Try.info22
  have HI := hide h
  have HX := hide hx
  clear h hx
  go_enter Try.func22, Try.ntmps22
  go_wp2
  go_loopw [9, 10] (fun u i wr => ∃ (k : Nat) (vs : List Value) (ts : List (List Bool)), k ≤ m ∧ i = .int .i64 k ∧ Hid (ts.length = k) ∧ Hid (vs.length = k) ∧ Hid (∀ t, t ∈ ts → tsz t = n) ∧ Hid (LL wr w.heap.size u vs (ts.map tpl)) ∧ Below w.heap.size w wr) (fun _ i _ => m - (intOf i).toNat)
  case atStart => exact ⟨0, [], [], by omega, rfl, rfl, rfl, (fun t ht => by cases ht), LL.nil _ _, Below.refl _ _⟩
  case round =>
    obtain ⟨k, vs, ts, hk, rfl, hl, hlv, hts, hL, hbw⟩ := hrel
    have hbs := hbw.size
    by_cases hlt : k < m
    · have e1 : (f : Int) + (k : Int) = ((f + k : Nat) : Int) := by omega
      have HRaw1 := hide (raw_any v xs (f + k) wr (HI.out.below hbw) HX.out (by omega))
      rw [← e1] at HRaw1
      clear e1
      go_wp2_with fail
      refine HRaw1.out.mono ?_
      rintro e wa ⟨x1, hx1, rfl, rfl⟩
      go_wp2_with fail
      refine (changeOf_ok x1 n _ hx1 h1 h12).mono ?_
      rintro e w1 ⟨u, t, rfl, ht, ho, hb1⟩
      have hL1 := hL.out.below hb1
      have hrow1 := hL1.row
      have hou := owns_base ho hbs
      obtain ⟨p, c, rfl⟩ := owns_slice ho
      have HOU := hide hou
      have HL1 := hide hL1
      have HT := hide ht
      have hb2 := hbw.trans (hb1.mono hbs)
      have hs1 := hb2.size
      rw [hlv.out] at hrow1
      generalize hpl : (tpl t).length = pl at *
      clear ho hou hL1 hL ht hb1 hbw
      go_wp2_with (at_builtin; refine wpList_append_own _ rfl _ _ 24 rfl w.heap.size 22 i0 (.slice none 0 0) 1 24 Try.underlying24 hi hz0 hz1 hz2 rfl (by decide) _ _ _ rfl (hrow1.alloc _) ⟨w1.heap.size, 0, none⟩ 1 1 [.slice p pl c] rfl rfl ?c1 ?c2 ?c3 ?c4 ?c5 ?_)
      case c1 => exact cell_one_new _ _ _
      case c2 => intro u hu; simp at hu; subst hu; rfl
      case c3 => unfold maxLen; omega
      case c4 => omega
      case c5 => simp; omega
      · intro v' w4 hown4 hgrow _
        have HL4 : Hid (LL w4 w.heap.size v' (vs ++ [.slice p pl c]) ((ts ++ [t]).map tpl)) := by
          show LL _ _ _ _ _
          rw [List.map_append]
          exact HL1.out.push (by rw [hpl]; exact HOU.out) (by rw [hlv.out]; exact hown4) hgrow
        have hB4 := HL1.out.step hb2 (Nat.le_refl _) hs1 hgrow
        have HLE : Hid ((ts ++ [t]).length = k + 1) := by show _ = _; rw [List.length_append, hl.out]; rfl
        have HLV : Hid ((vs ++ [Value.slice p pl c]).length = k + 1) := by show _ = _; rw [List.length_append, hlv.out]; rfl
        have HTS : Hid (∀ t', t' ∈ ts ++ [t] → tsz t' = n) := by
          intro t' ht'
          rcases List.mem_append.1 ht' with h | h
          · exact hts.out t' h
          · rw [List.mem_singleton.1 h]; exact HT.out
        clear hown4 hgrow hrow1 hpl
        go_wp2
        go_roundw
        case rel => exact ⟨k + 1, _, ts ++ [t], by omega, by go_num, HLE, HLV, HTS, HL4, hB4⟩
        case measure => simp [intOf]; omega
    · go_wp2
      go_ret
      exact ⟨_, vs, ts, rfl, by have := hl.out; omega, hts.out, hL.out, hbw⟩

end Go.Proofs.Ythbhoohdniamaaa

/- What is known of a row behind a slice; the contracts of package row in its terms. -/
namespace Go.Proofs.Ythbhoohdniamaaa
open Go.RowKit

/-- What is known of a row behind a slice. -/
structure RowAt (w : World) (v : Value) (n : Nat) (X : List Int) : Prop where
  ints : Ints w v X
  row : isRow X
  len : X.length = n

theorem RowAt.below {w w' : World} {v : Value} {n : Nat} {X : List Int} (h : RowAt w v n X) (hb : Below w.heap.size w w') : RowAt w' v n X := ⟨h.ints.below hb, h.row, h.len⟩

theorem at_row (n k : Nat) (w : World) (h1 : 1 ≤ n) (h2 : n ≤ 12) (hk : k < fct n) :
    Calls Try.prog 62 #[.int .i64 n, .int .i64 k] w fun e w' => ∃ v, e = .returned (.tuple #[v, .int .i64 0]) ∧ RowAt w' v n (rowAt n k) ∧ Below w.heap.size w w' := by
  refine (at_ok n k w h1 h2 hk).mono ?_
  rintro e w' ⟨v, rfl, hi, hb⟩
  exact ⟨v, rfl, ⟨hi, rowAt_row hk, rowAt_length hk⟩, hb⟩

theorem times_row {n : Nat} {v1 v2 : Value} {X Y : List Int} {w : World} (h1 : 1 ≤ n) (h2 : n ≤ 12) (hx : RowAt w v1 n X) (hy : RowAt w v2 n Y) :
    Calls Try.prog 47 #[v1, v2] w fun e w' => ∃ v, e = .returned (.tuple #[v, .int .i64 0]) ∧ RowAt w' v n (by_ X Y) ∧ Below w.heap.size w w' := by
  have e1 := hx.len
  have e2 := hy.len
  refine (times_ok v1 v2 X Y w hx.ints hy.ints hx.row hy.row (by omega) (by omega) (by omega)).mono ?_
  rintro e w' ⟨v, rfl, hi, hb⟩
  exact ⟨v, rfl, ⟨hi, isRow_by hx.row hy.row (by omega), by rw [by_length]; exact e2⟩, hb⟩

theorem back_row {n : Nat} {v1 : Value} {X : List Int} {w : World} (h1 : 1 ≤ n) (h2 : n ≤ 12) (hx : RowAt w v1 n X) :
    Calls Try.prog 54 #[v1] w fun e w' => ∃ v Z, e = .returned (.tuple #[v, .int .i64 0]) ∧ RowAt w' v n Z ∧ by_ X Z = rnd n ∧ Below w.heap.size w w' := by
  have e1 := hx.len
  refine (back_ok v1 X w hx.ints hx.row (by omega) (by omega)).mono ?_
  rintro e w' ⟨v, Z, rfl, hi, hu, hb⟩
  exact ⟨v, Z, rfl, ⟨hi, isRow_undoes hx.row hu, hu.1.trans e1⟩, by rw [by_undoes hx.row hu, e1], hb⟩

theorem order_row {n : Nat} {v1 : Value} {X : List Int} {w : World} (h1 : 1 ≤ n) (h2 : n ≤ 12) (hx : RowAt w v1 n X) :
    Calls Try.prog 61 #[v1] w fun e w' => ∃ o : Nat, 1 ≤ o ∧ o ≤ 1000000000000000 ∧ e = .returned (.tuple #[.int .i64 (o : Int), .bool (odd X), .int .i64 0]) ∧ Below w.heap.size w w' := by
  have e1 := hx.len
  refine (order_ok v1 X w hx.ints hx.row (by omega) (by omega)).mono ?_
  rintro e w' ⟨rfl, hb⟩
  have hall := cycsTo_len hx.row X.length (Nat.le_refl _)
  have hbd := ordTo_bound (xss := cycsTo X X.length) (fun x hx => by have := hall x hx; omega) (cycsTo X X.length).length (Nat.le_refl _)
  have hl := cycsTo_length X X.length
  have hpw : 12 ^ (cycsTo X X.length).length ≤ 12 ^ 12 := Nat.pow_le_pow_right (by decide) (by omega)
  exact ⟨_, hbd.1, by have : 12 ^ 12 ≤ 1000000000000000 := by decide
                      omega, rfl, hb⟩

theorem order_ord {n : Nat} {v1 : Value} {X : List Int} {w : World} (h1 : 1 ≤ n) (h2 : n ≤ 12) (hx : RowAt w v1 n X) :
    Calls Try.prog 61 #[v1] w fun e w' => e = .returned (.tuple #[.int .i64 (ord X : Nat), .bool (odd X), .int .i64 0]) ∧ 1 ≤ ord X ∧ ord X ≤ 1000000000000000 ∧ Below w.heap.size w w' := by
  have e1 := hx.len
  refine (order_ok v1 X w hx.ints hx.row (by omega) (by omega)).mono ?_
  rintro e w' ⟨rfl, hb⟩
  have hp := ord_pos hx.row (by omega)
  exact ⟨rfl, hp.1, hp.2, hb⟩

theorem RowAt.own {w : World} {base : Nat} {v : Value} {n : Nat} {X : List Int} (h : w.ownsRow base 3 1 v n (X.map (Value.int .i64))) (hr : isRow X) : RowAt w v n X :=
  ⟨Ints.own h, hr, by have := h.1; simpa using this⟩

end Go.Proofs.Ythbhoohdniamaaa

/- Contract: method.Lead. -/
namespace Go.Proofs.Ythbhoohdniamaaa
open Go.RowKit

/-- Rounds, changed by changes. -/
def prd (n : Nat) (ts : List (List Bool)) : List Int := ts.foldl (fun r t => by_ r (trow t)) (rnd n)

theorem prd_snoc (n : Nat) (ts : List (List Bool)) (t : List Bool) : prd n (ts ++ [t]) = by_ (prd n ts) (trow t) := by simp [prd, List.foldl_append]

theorem fold_row (n : Nat) : ∀ (ts : List (List Bool)) (r : List Int), isRow r → r.length = n → (∀ t, t ∈ ts → tsz t = n) → isRow (ts.foldl (fun r t => by_ r (trow t)) r) ∧ (ts.foldl (fun r t => by_ r (trow t)) r).length = n
  | [], _, hr, hl, _ => ⟨hr, hl⟩
  | t :: ts, r, hr, hl, h => by
    have ht : tsz t = n := h t (by simp)
    exact fold_row n ts _ (isRow_by hr (trow_row t) (by rw [trow_length, ht, hl])) (by rw [by_length, trow_length, ht]) (fun t' ht' => h t' (List.mem_cons_of_mem _ ht'))

theorem prd_row (n : Nat) (ts : List (List Bool)) (h : ∀ t, t ∈ ts → tsz t = n) : isRow (prd n ts) ∧ (prd n ts).length = n := fold_row n ts _ (isRow_rnd n) (rnd_length n) h

/-- The first rows of a lead. -/
def leadTo (n : Nat) (ts : List (List Bool)) (k : Nat) : List (List Int) := (List.range (k + 1)).map (fun j => prd n (ts.take j))

theorem leadTo_snoc (n : Nat) (ts : List (List Bool)) (k : Nat) : leadTo n ts (k + 1) = leadTo n ts k ++ [prd n (ts.take (k + 1))] := by
  unfold leadTo; rw [List.range_succ, List.map_append]; rfl

theorem leadTo_length (n : Nat) (ts : List (List Bool)) (k : Nat) : (leadTo n ts k).length = k + 1 := by simp [leadTo]

theorem leadTo_get {n k j : Nat} {ts : List (List Bool)} (h : j ≤ k) : (leadTo n ts k).getD j [] = prd n (ts.take j) := by
  simp [leadTo, List.getD, Nat.lt_succ_of_le h]

theorem tile_ok {n : Nat} {ts : List (List Bool)} (h : ∀ t, t ∈ ts → tsz t = n) {k : Nat} (hk : k < (ts.map tpl).length) : okc n 0 ((ts.map tpl).getD k []) = true := by
  have hk' : k < ts.length := by simpa using hk
  rw [show (ts.map tpl).getD k [] = tpl ts[k] from by simp [List.getD, hk'], ← h ts[k] (List.getElem_mem hk')]
  exact okc_self _

/-- What the loop of Lead knows. -/
structure LeadRel (w wr : World) (s : ByteArray) (n : Nat) (v : Value) (ts : List (List Bool)) (k : Nat) (r u : Value) (vs : List Value) : Prop where
  box : Box wr w.heap.size s n v
  ll : LL wr (w.heap.size + 1) u vs (leadTo n ts k)
  row : wr.ownsRow (w.heap.size + 1) 3 1 r n ((prd n (ts.take k)).map (Value.int .i64))
  below : Below w.heap.size w wr

theorem take_next {ts : List (List Bool)} {k : Nat} (h : k < ts.length) : ts.take (k + 1) = ts.take k ++ [ts[k]] := List.take_succ_eq_append_getElem h

set_option maxRecDepth 20000 in
set_option maxHeartbeats 4000000 in
theorem lead_ok (s : ByteArray) (n : Nat) (v : Value) (ts : List (List Bool)) (w : World) (hs : s.size ≤ 9223372036854775807) (hn : nm s = true) (h1 : 2 ≤ n) (h2 : n ≤ 12) (hl1 : 1 ≤ ts.length) (hl2 : ts.length ≤ 200) (hts : ∀ t, t ∈ ts → tsz t = n)
    (hv : IntsAll w v (ts.map tpl)) :
    Calls Try.prog 50 #[meth s n v] w fun e w' => ∃ u vs, e = .returned (.tuple #[u, .int .i64 0]) ∧ LL w' (w.heap.size + 1) u vs (leadTo n ts ts.length) ∧ Below w.heap.size w w' := by
  obtain ⟨i0, hi, hz0, hz1, hz2⟩ := info_parts Try.info22
  have hlm : (ts.map tpl).length = ts.length := List.length_map _
  have HC := hide (fun W (hb : Below w.heap.size w W) => mcheck_ok s n v (ts.map tpl) W hs hn h1 h2 (by omega) (by omega) (hv.below hb) (fun k hk => tile_ok hts hk))
  obtain ⟨b, off, cap, hve, hbl, hc1, hc2, hcell⟩ := hv.cell (by omega)
  rw [hlm] at hve hc1 hcell
  subst hve
  have HCE := hide hcell
  have HTS := hide hts
  have HV := hide hv
  clear hn hv hcell hts hlm
  unfold meth
  go_enter Try.func50, Try.ntmps50
  go_wp2_with fail
  refine (HC.out _ ((Below.refl _ _).alloc (Nat.le_refl _) _)).mono ?_
  rintro e w1 ⟨rfl, hb1⟩
  have hB : Below w.heap.size w w1 := ((Below.refl _ _).alloc (Nat.le_refl _) _).trans (hb1.mono (by simp))
  have hx := (Box.start w s n (.slice (some ⟨b, off, none⟩) ts.length cap) 26).below hb1
  have g1 := hx.c1
  have g2 := hx.c2
  have HX := hide hx
  clear hb1 HC hx
  go_wp2_with fail
  refine (rounds_ok n w1 (by omega) h2).mono ?_
  rintro e w2 ⟨r0, rfl, hr0, hb2⟩
  obtain ⟨g, rc, rfl, hg1, hg2, hrc, hrc2⟩ := owns_form hr0 (by omega)
  have hx2 := HX.out.below hb2
  have hx3 := hx2.below ((Below.refl _ _).alloc (Nat.le_refl _) (.cells #[.slice (some ⟨g, 0, none⟩) n rc] 22))
  have hsz : w.heap.size + 1 ≤ w1.heap.size := HX.out.lt
  have hsz2 := hb2.size
  have HR : Hid (LeadRel w (w2.alloc (.cells #[.slice (some ⟨g, 0, none⟩) n rc] 22)) s n (.slice (some ⟨b, off, none⟩) ts.length cap) ts 0 (.slice (some ⟨g, 0, none⟩) n rc) (.slice (some ⟨w2.heap.size, 0, none⟩) 1 1) [.slice (some ⟨g, 0, none⟩) n rc]) := by
    refine ⟨hx3, ?_, ?_, ((hB.trans (hb2.mono (by omega))).alloc (by omega) _)⟩
    · exact LL.one (X := rnd n) (by rw [rnd_length]; exact owns_base hr0 hsz) (by omega)
    · exact (owns_base hr0 hsz).alloc _
  have g3 := hx3.c2
  clear hx2 hr0 hb2 g2 HX hB
  go_wp2
  go_loopw [5, 7, 28] (fun r u i wr => ∃ (k : Nat) (vs : List Value), k ≤ ts.length ∧ i = .int .i64 k ∧ Hid (vs.length = k + 1) ∧ Hid (LeadRel w wr s n (.slice (some ⟨b, off, none⟩) ts.length cap) ts k r u vs)) (fun _ _ i _ => ts.length - (intOf i).toNat)
  case atStart => exact ⟨0, [.slice (some ⟨g, 0, none⟩) n rc], by omega, rfl, (show [Value.slice (some ⟨g, 0, none⟩) n rc].length = 0 + 1 from rfl), HR⟩
  case round =>
    obtain ⟨k, vs, hk, rfl, hlv, hR⟩ := hrel
    clear HR g3 hx3
    by_cases hlt : k < ts.length
    · obtain ⟨p, c, hcx, hix⟩ := HCE.out k hlt
      have hbw := hR.out.below
      have hbs := hbw.size
      have gx := (hbw.cell (p := ⟨b, off + k, none⟩) (by exact hbl)).trans hcx
      have gb := hR.out.box.c1
      have ht : tsz ts[k] = n := HTS.out _ (List.getElem_mem hlt)
      have hix2 := hix.out
      have hgk : (ts.map tpl).getD k [] = tpl ts[k] := by simp [List.getD, hlt]
      rw [hgk] at hix2 gx
      have HRow := hide (prow_ok ts[k] n _ wr ht (by omega) h2 (hix2.below hbw))
      have HK := hide (take_next hlt)
      have HTK : Hid (prd n (ts.take (k + 1)) = by_ (prd n (ts.take k)) (trow ts[k])) := by show _ = _; rw [HK.out, prd_snoc]
      have hpr := prd_row n (ts.take k) (fun t ht' => HTS.out t (List.mem_of_mem_take ht'))
      generalize ts[k] = t at *
      generalize (tpl t).length = pl at *
      have HPR := hide hpr
      have HT0 := hide ht
      clear ht
      clear hcx hix hix2 hpr hgk
      go_wp2_with fail
      refine HRow.out.mono ?_
      rintro e w3 ⟨rv, rfl, hrv, hb3⟩
      have hrow3 := owns_below hR.out.row hb3 (Nat.le_refl _)
      have HT := hide (times_own _ rv (prd n (ts.take k)) (trow t) w3 (Ints.own hrow3) (Ints.own hrv) HPR.out.1 (trow_row t) (by rw [HPR.out.2]; omega) (by rw [HPR.out.2]; omega) (by rw [trow_length, HPR.out.2, HT0.out]))
      rw [HPR.out.2, ← HTK.out] at HT
      have hL3 := hR.out.ll.below hb3
      have hx3 := hR.out.box.below hb3
      have hbw3 := hbw.trans (hb3.mono hbs)
      have hbs3 := hb3.size
      have HL3 := hide hL3
      have HX3 := hide hx3
      clear hrow3 hL3 hx3 hrv hb3 hR HRow hbw gx gb
      go_wp2_with fail
      refine HT.out.mono ?_
      rintro e w4 ⟨rn, rfl, hrn, hb4⟩
      obtain ⟨g', rc', rfl, hg3, hg4, hrc3, hrc4⟩ := owns_form hrn (by omega)
      have hL4 := HL3.out.below hb4
      have hx4 := HX3.out.below hb4
      have hbw4 := hbw3.trans (hb4.mono (by omega))
      have hbs4 := hb4.size
      have hxl := HX3.out.lt
      have hrn' := owns_base hrn (show w.heap.size + 1 ≤ w3.heap.size by omega)
      have hrow4 := hL4.row
      rw [hlv.out] at hrow4
      have HL4 := hide hL4
      have HX4 := hide hx4
      have HRN := hide hrn'
      clear hrn hrn' hL4 hx4 HL3 HX3 HT hb4 hbw3
      go_wp2_with (at_builtin; refine wpList_append_own _ rfl _ _ 24 rfl (w.heap.size + 1) 22 i0 (.slice none 0 0) 1 24 Try.underlying24 hi hz0 hz1 hz2 rfl (by decide) _ _ _ rfl (hrow4.alloc _) ⟨w4.heap.size, 0, none⟩ 1 1 [.slice (some ⟨g', 0, none⟩) n rc'] rfl rfl ?c1 ?c2 ?c3 ?c4 ?c5 ?_)
      case c1 => exact cell_one_new _ _ _
      case c2 => intro u hu; simp at hu; subst hu; rfl
      case c3 => unfold maxLen; omega
      case c4 => omega
      case c5 => simp; omega
      · intro v' w5 hown5 hgrow _
        have HR5 : Hid (LeadRel w w5 s n (.slice (some ⟨b, off, none⟩) ts.length cap) ts (k + 1) (.slice (some ⟨g', 0, none⟩) n rc') v' (vs ++ [.slice (some ⟨g', 0, none⟩) n rc'])) := by
          have hxa := HX4.out.below ((Below.refl _ _).alloc (Nat.le_refl _) (.cells #[.slice (some ⟨g', 0, none⟩) n rc'] 22))
          refine ⟨?_, ?_, HL4.out.kept HRN.out hgrow, HL4.out.step hbw4 (by omega) (by omega) hgrow⟩
          · have hbx : Below (w.heap.size + 1) (w4.alloc (.cells #[.slice (some ⟨g', 0, none⟩) n rc'] 22)) w5 := (Below.refl _ _).grown hgrow (by simp; omega) (fun g hg => (HL4.out.row.lt g hg).1)
            exact ⟨(hbx.cell (p := ⟨w.heap.size, 0, none⟩) (Nat.lt_succ_self _)).trans hxa.c0, (hbx.cell (p := ⟨w.heap.size, 1, none⟩) (Nat.lt_succ_self _)).trans hxa.c1, (hbx.cell (p := ⟨w.heap.size, 2, none⟩) (Nat.lt_succ_self _)).trans hxa.c2, Nat.lt_of_lt_of_le hxa.lt hbx.size⟩
          · rw [leadTo_snoc]
            exact HL4.out.push (by have := HRN.out.1; rw [show (prd n (ts.take (k + 1))).length = n from by simpa using this]; exact HRN.out) (by rw [hlv.out]; exact hown5) hgrow
        have HLV : Hid ((vs ++ [Value.slice (some ⟨g', 0, none⟩) n rc']).length = k + 1 + 1) := by show _ = _; rw [List.length_append, hlv.out]; rfl
        clear hown5 hgrow hrow4
        go_wp2
        go_roundw
        case rel => exact ⟨k + 1, _, by omega, by go_num, HLV, HR5⟩
        case measure => simp [intOf]; omega
    · go_wp2
      go_ret2
      obtain rfl : k = ts.length := by omega
      exact ⟨_, vs, rfl, hR.out.ll, hR.out.below⟩

end Go.Proofs.Ythbhoohdniamaaa

/- Contract: truth.False. -/
namespace Go.Proofs.Ythbhoohdniamaaa
open Go.RowKit Go.Maps

/-- The first lists of a list of lists. -/
theorem LL.front {w : World} {base g N cap k : Nat} {vs : List Value} {X : List (List Int)} (h : LL w base (.slice (some ⟨g, 0, none⟩) N cap) vs X) (hN : vs.length = N) (hk : k ≤ N) (h1 : 1 ≤ k) (hg : g < w.heap.size) (hc : N ≤ cap) (hc2 : cap ≤ 9223372036854775807) :
    IntsAll w (.slice (some ⟨g, 0, none⟩) k cap) (X.take k) := by
  have hr := h.row
  rw [hN] at hr
  have hXl := h.len
  refine ⟨vs.take k, Or.inr ⟨g, 0, cap, ?_, ?_, ?_, hc2, hg, fun j hj => ?_⟩, ?_, fun j hj => ?_⟩
  · rw [List.length_take, hN, Nat.min_eq_left hk]
  · rw [List.length_take, hN, Nat.min_eq_left hk]; exact h1
  · rw [List.length_take, hN, Nat.min_eq_left hk]; omega
  · have hj' : j < k := by rw [List.length_take, hN, Nat.min_eq_left hk] at hj; exact hj
    rw [Nat.zero_add, owns_val hr (by omega)]
    simp [List.getD, hj']
  · rw [List.length_take, List.length_take, hXl]
  · have hj' : j < k := by rw [List.length_take] at hj; omega
    have hjX : j < X.length := by rw [← hXl, hN]; omega
    have := Ints.own (h.at hjX)
    have e1 : (vs.take k).getD j undef = vs.getD j undef := by simp [List.getD, hj']
    have e2 : (X.take k).getD j [] = X.getD j [] := by simp [List.getD, hj']
    rw [e1, e2]
    exact this

/-- The rows of a lead, but the last one. -/
def ldr (n : Nat) (ts : List (List Bool)) : List (List Int) := (leadTo n ts ts.length).take ts.length

theorem ldr_length (n : Nat) (ts : List (List Bool)) : (ldr n ts).length = ts.length := by unfold ldr; rw [List.length_take, leadTo_length]; omega

theorem ldr_rows {n : Nat} {ts : List (List Bool)} (h : ∀ t, t ∈ ts → tsz t = n) : ∀ r, r ∈ ldr n ts → Rw n r := by
  intro r hr
  have hr' := List.mem_of_mem_take hr
  obtain ⟨j, hj, e⟩ := List.getElem_of_mem hr'
  have hl : (leadTo n ts ts.length).length = ts.length + 1 := leadTo_length n ts ts.length
  have h2 := leadTo_get (n := n) (ts := ts) (k := ts.length) (j := j) (by omega)
  rw [List.getD_eq_getElem?_getD, List.getElem?_eq_getElem hj, Option.getD_some, e] at h2
  have := prd_row n (ts.take j) (fun t ht => h t (List.mem_of_mem_take ht))
  rw [← h2] at this
  exact ⟨this.1, this.2⟩

def FalsePost (n : Nat) (ts : List (List Bool)) (w : World) (e : Ending) (w' : World) : Prop :=
  ∃ u vs X t, e = .returned (.tuple #[u, .bool t, .int .i64 0]) ∧ X.Perm (hds n (ldr n ts)) ∧ LL w' w.heap.size u vs X ∧ (t = false ↔ (ldr n ts).Nodup) ∧ Below w.heap.size w w'

set_option maxRecDepth 20000 in
set_option maxHeartbeats 4000000 in
theorem false_ok (s : ByteArray) (n : Nat) (v : Value) (ts : List (List Bool)) (w : World) (hs : s.size ≤ 9223372036854775807) (hn : nm s = true) (h1 : 2 ≤ n) (h2 : n ≤ 12) (hl1 : 1 ≤ ts.length) (hl2 : ts.length ≤ 200) (hts : ∀ t, t ∈ ts → tsz t = n)
    (hv : IntsAll w v (ts.map tpl)) :
    Calls Try.prog 29 #[meth s n v] w (FalsePost n ts w) := by
  have HLD := hide (fun W (hb : Below w.heap.size w W) => lead_ok s n v ts W hs hn h1 h2 hl1 hl2 hts (hv.below hb))
  have hlm : (ts.map tpl).length = ts.length := List.length_map _
  obtain ⟨pv, cv, hve⟩ := hv.len
  rw [hlm] at hve
  subst hve
  have HRW := hide (ldr_rows hts)
  have HRL := hide (ldr_length n ts)
  have HLT := hide (leadTo_length n ts ts.length)
  clear hn hv hts hlm
  unfold meth
  unfold meth at HLD
  go_enter Try.func29, Try.ntmps29
  go_wp2_with fail
  refine (HLD.out _ ((Below.refl _ _).alloc (Nat.le_refl _) _)).mono ?_
  rintro e w1 ⟨u, vs, rfl, hL1, hb1⟩
  have hB1 : Below w.heap.size w w1 := ((Below.refl _ _).alloc (Nat.le_refl _) _).trans (hb1.mono (by simp))
  have hx := (Box.start w s n (.slice pv ts.length cv) 26).below hb1
  have g2 := hx.c2
  have hvl : vs.length = ts.length + 1 := by rw [hL1.len, HLT.out]
  have hr1 := hL1.row
  rw [hvl] at hr1
  obtain ⟨gu, cu, rfl, hgu1, hgu2, hcu1, hcu2⟩ := owns_form hr1 (by omega)
  have hI := hL1.front hvl (k := ts.length) (by omega) hl1 hgu2 hcu1 hcu2
  rw [show (leadTo n ts ts.length).take ts.length = ldr n ts from rfl] at hI
  have HRP := hide (repeated_ok n _ (ldr n ts) w1 hI (by omega) h2 HRW.out (by rw [HRL.out]; exact hl1) (by rw [HRL.out]; omega))
  have HBT := hide (fun W (hb : Below w1.heap.size w1 W) => between_ok n _ (ldr n ts) W (hI.below hb) (by omega) h2 HRW.out (by rw [HRL.out]; exact hl1) (by rw [HRL.out]; exact hl2))
  have hbs1 := hB1.size
  have HHL : Hid ((hds n (ldr n ts)).length ≤ 40000) := by
    have h3 := (hdsTo_fact n (pr (ldr n ts))).2.2
    rw [pr_length, HRL.out] at h3
    have h4 : ts.length * ts.length ≤ 200 * 200 := Nat.mul_le_mul hl2 hl2
    show (hdsTo n (pr (ldr n ts))).length ≤ 40000
    omega
  have HHR : Hid (∀ x, x ∈ hds n (ldr n ts) → x.length = n) := fun x hx => (pr_rows HRW.out x (((hdsTo_fact n (pr (ldr n ts))).2.1 x).1 hx).1).len
  clear hL1 hb1 HLD hx hvl hr1 hI
  go_wp2_with fail
  refine HRP.out.mono ?_
  rintro e w2 ⟨i, j, t, rfl, hnd, hb2⟩
  have HND := hide hnd
  clear hnd HRP
  go_wp2_with fail
  refine (HBT.out w2 hb2).mono ?_
  rintro e w3 ⟨hd, hvs, rfl, hL3, hb3⟩
  have hB2 : Below w.heap.size w w2 := hB1.trans (hb2.mono hbs1)
  have hL3' := hL3.low hB2.size
  have hB3 : Below w.heap.size w w3 := hB2.trans (hb3.mono hB2.size)
  have HSO := hide (sort_any n w.heap.size hd hvs (hds n (ldr n ts)) w3 hL3' HHR.out (by omega) HHL.out)
  obtain ⟨hp, hc, rfl⟩ := owns_slice hL3.row
  clear HBT hL3 hL3' hb2 hb3
  go_wp2_with fail
  refine HSO.out.mono ?_
  rintro e w4 ⟨rfl, vs', X', hpm, hL4, hb4⟩
  have HP : Hid (FalsePost n ts w (.returned (.tuple #[.slice hp hvs.length hc, .bool t, .int .i64 0])) w4) := ⟨_, vs', X', t, rfl, hpm, hL4, HND.out, hB3.trans hb4⟩
  clear hpm hL4 hb4 HSO HND
  go_wp2
  go_ret3
  exact HP.out

end Go.Proofs.Ythbhoohdniamaaa
