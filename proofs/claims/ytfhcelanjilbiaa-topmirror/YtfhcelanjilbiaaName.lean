/- Contracts: ofName, Name of package method, at every text. -/
import Derived.Test.YtfhcelanjilbiaaRefB
import Derived.Lib.RuneCount
import Derived.Lib.DecodeN
namespace Go.Proofs.Ytfhcelanjilbiaa
open Go.RowKit Go.Lib

/-- The runes of a text from a place on, at most so many. -/
def rns (s : ByteArray) : Nat → Nat → List Nat
  | 0, _ => []
  | f + 1, pos => if pos < s.size then (Utf8.decode s pos).1 :: rns s f (pos + (Utf8.decode s pos).2) else []

def runesOf (s : ByteArray) : List Nat := rns s s.size 0

theorem rns_length (s : ByteArray) : ∀ f pos, (rns s f pos).length ≤ f
  | 0, _ => by simp [rns]
  | f + 1, pos => by
    have ih := rns_length s f (pos + (Utf8.decode s pos).2)
    unfold rns
    split
    · simp; omega
    · simp

theorem runesOf_length (s : ByteArray) : (runesOf s).length ≤ s.size := rns_length s _ _

/-- Runes up to a place, and the rest. -/
def RunesTo (s : ByteArray) (pre : List Nat) (pos : Nat) : Prop := ∃ f, s.size - pos ≤ f ∧ runesOf s = pre ++ rns s f pos

theorem runesTo_start (s : ByteArray) : RunesTo s [] 0 := ⟨s.size, by omega, rfl⟩

theorem RunesTo.next {s : ByteArray} {pre : List Nat} {pos : Nat} (h : RunesTo s pre pos) (hp : pos < s.size) : RunesTo s (pre ++ [(Utf8.decode s pos).1]) (pos + (Utf8.decode s pos).2) := by
  obtain ⟨f, hf, e⟩ := h
  have hw := decode_width_pos s pos hp
  match f, hf, e with
  | 0, hf, _ => omega
  | f + 1, hf, e =>
    refine ⟨f, by omega, ?_⟩
    rw [e, rns, if_pos hp, List.append_assoc, List.singleton_append]

theorem RunesTo.done {s : ByteArray} {pre : List Nat} {pos : Nat} (h : RunesTo s pre pos) (hp : ¬ pos < s.size) : runesOf s = pre := by
  obtain ⟨f, hf, e⟩ := h
  rw [e]
  cases f with
  | zero => simp [rns]
  | succ f => rw [rns, if_neg hp, List.append_nil]

theorem RunesTo.mem {s : ByteArray} {pre : List Nat} {pos : Nat} (h : RunesTo s pre pos) (hp : pos < s.size) : (Utf8.decode s pos).1 ∈ runesOf s ∧ pre.length < s.size := by
  obtain ⟨f, hf, e⟩ := h.next hp
  constructor
  · rw [e]; simp
  · have := runesOf_length s
    rw [e] at this
    simp at this
    omega

/-- May a rune be in a name? -/
def ofn (r : Nat) : Bool := decide (65 ≤ r ∧ r ≤ 90 ∨ 97 ≤ r ∧ r ≤ 122 ∨ 48 ≤ r ∧ r ≤ 57 ∨ r = 32 ∨ (192 ≤ r ∧ r ≤ 382 ∧ r ≠ 215 ∧ r ≠ 247))

set_option maxRecDepth 20000 in
set_option maxHeartbeats 4000000 in
theorem ofName_any (r : Nat) (w : World) (hr : r ≤ 1114111) : Calls Try.prog 90 #[.int .i32 r] w fun e w' => e = .returned (.bool (ofn r)) ∧ w = w' := by
  have hcase : r < 32 ∨ r = 32 ∨ (33 ≤ r ∧ r ≤ 47) ∨ (48 ≤ r ∧ r ≤ 57) ∨ (58 ≤ r ∧ r ≤ 64) ∨ (65 ≤ r ∧ r ≤ 90) ∨ (91 ≤ r ∧ r ≤ 96) ∨ (97 ≤ r ∧ r ≤ 122) ∨ (123 ≤ r ∧ r ≤ 191) ∨ (192 ≤ r ∧ r ≤ 214) ∨ r = 215 ∨ (216 ≤ r ∧ r ≤ 246) ∨ r = 247 ∨ (248 ≤ r ∧ r ≤ 382) ∨ 383 ≤ r := by omega
  rcases hcase with h | h | ⟨h1, h2⟩ | ⟨h1, h2⟩ | ⟨h1, h2⟩ | ⟨h1, h2⟩ | ⟨h1, h2⟩ | ⟨h1, h2⟩ | ⟨h1, h2⟩ | ⟨h1, h2⟩ | h | ⟨h1, h2⟩ | h | ⟨h1, h2⟩ | h
  · have hb : Hid (ofn r = false) := by show _ = _; unfold ofn; exact decide_eq_false (by omega)
    have e32 : ((r : Int) == 32) = false := by rw [beq_eq_false_iff_ne]; omega
    have e215 : ((r : Int) == 215) = false := by rw [beq_eq_false_iff_ne]; omega
    have e247 : ((r : Int) == 247) = false := by rw [beq_eq_false_iff_ne]; omega
    go_enter Try.func90, Try.ntmps90
    go_wp2
    go_ret
    exact ⟨ret_bool (by first | exact hb.out.symm | (rw [hb.out]; exact decide_eq_true (by omega)) | (rw [hb.out]; exact decide_eq_false (by omega))), rfl⟩
  · have hb : Hid (ofn r = true) := by show _ = _; unfold ofn; exact decide_eq_true (by omega)
    subst h
    go_enter Try.func90, Try.ntmps90
    go_wp2
    go_ret
    exact ⟨ret_bool (by first | exact hb.out.symm | (rw [hb.out]; exact decide_eq_true (by omega)) | (rw [hb.out]; exact decide_eq_false (by omega))), rfl⟩
  · have hb : Hid (ofn r = false) := by show _ = _; unfold ofn; exact decide_eq_false (by omega)
    have e32 : ((r : Int) == 32) = false := by rw [beq_eq_false_iff_ne]; omega
    have e215 : ((r : Int) == 215) = false := by rw [beq_eq_false_iff_ne]; omega
    have e247 : ((r : Int) == 247) = false := by rw [beq_eq_false_iff_ne]; omega
    go_enter Try.func90, Try.ntmps90
    go_wp2
    go_ret
    exact ⟨ret_bool (by first | exact hb.out.symm | (rw [hb.out]; exact decide_eq_true (by omega)) | (rw [hb.out]; exact decide_eq_false (by omega))), rfl⟩
  · have hb : Hid (ofn r = true) := by show _ = _; unfold ofn; exact decide_eq_true (by omega)
    have e32 : ((r : Int) == 32) = false := by rw [beq_eq_false_iff_ne]; omega
    have e215 : ((r : Int) == 215) = false := by rw [beq_eq_false_iff_ne]; omega
    have e247 : ((r : Int) == 247) = false := by rw [beq_eq_false_iff_ne]; omega
    go_enter Try.func90, Try.ntmps90
    go_wp2
    go_ret
    exact ⟨ret_bool (by first | exact hb.out.symm | (rw [hb.out]; exact decide_eq_true (by omega)) | (rw [hb.out]; exact decide_eq_false (by omega))), rfl⟩
  · have hb : Hid (ofn r = false) := by show _ = _; unfold ofn; exact decide_eq_false (by omega)
    have e32 : ((r : Int) == 32) = false := by rw [beq_eq_false_iff_ne]; omega
    have e215 : ((r : Int) == 215) = false := by rw [beq_eq_false_iff_ne]; omega
    have e247 : ((r : Int) == 247) = false := by rw [beq_eq_false_iff_ne]; omega
    go_enter Try.func90, Try.ntmps90
    go_wp2
    go_ret
    exact ⟨ret_bool (by first | exact hb.out.symm | (rw [hb.out]; exact decide_eq_true (by omega)) | (rw [hb.out]; exact decide_eq_false (by omega))), rfl⟩
  · have hb : Hid (ofn r = true) := by show _ = _; unfold ofn; exact decide_eq_true (by omega)
    have e32 : ((r : Int) == 32) = false := by rw [beq_eq_false_iff_ne]; omega
    have e215 : ((r : Int) == 215) = false := by rw [beq_eq_false_iff_ne]; omega
    have e247 : ((r : Int) == 247) = false := by rw [beq_eq_false_iff_ne]; omega
    go_enter Try.func90, Try.ntmps90
    go_wp2
    go_ret
    exact ⟨ret_bool (by first | exact hb.out.symm | (rw [hb.out]; exact decide_eq_true (by omega)) | (rw [hb.out]; exact decide_eq_false (by omega))), rfl⟩
  · have hb : Hid (ofn r = false) := by show _ = _; unfold ofn; exact decide_eq_false (by omega)
    have e32 : ((r : Int) == 32) = false := by rw [beq_eq_false_iff_ne]; omega
    have e215 : ((r : Int) == 215) = false := by rw [beq_eq_false_iff_ne]; omega
    have e247 : ((r : Int) == 247) = false := by rw [beq_eq_false_iff_ne]; omega
    go_enter Try.func90, Try.ntmps90
    go_wp2
    go_ret
    exact ⟨ret_bool (by first | exact hb.out.symm | (rw [hb.out]; exact decide_eq_true (by omega)) | (rw [hb.out]; exact decide_eq_false (by omega))), rfl⟩
  · have hb : Hid (ofn r = true) := by show _ = _; unfold ofn; exact decide_eq_true (by omega)
    have e32 : ((r : Int) == 32) = false := by rw [beq_eq_false_iff_ne]; omega
    have e215 : ((r : Int) == 215) = false := by rw [beq_eq_false_iff_ne]; omega
    have e247 : ((r : Int) == 247) = false := by rw [beq_eq_false_iff_ne]; omega
    go_enter Try.func90, Try.ntmps90
    go_wp2
    go_ret
    exact ⟨ret_bool (by first | exact hb.out.symm | (rw [hb.out]; exact decide_eq_true (by omega)) | (rw [hb.out]; exact decide_eq_false (by omega))), rfl⟩
  · have hb : Hid (ofn r = false) := by show _ = _; unfold ofn; exact decide_eq_false (by omega)
    have e32 : ((r : Int) == 32) = false := by rw [beq_eq_false_iff_ne]; omega
    have e215 : ((r : Int) == 215) = false := by rw [beq_eq_false_iff_ne]; omega
    have e247 : ((r : Int) == 247) = false := by rw [beq_eq_false_iff_ne]; omega
    go_enter Try.func90, Try.ntmps90
    go_wp2
    go_ret
    exact ⟨ret_bool (by first | exact hb.out.symm | (rw [hb.out]; exact decide_eq_true (by omega)) | (rw [hb.out]; exact decide_eq_false (by omega))), rfl⟩
  · have hb : Hid (ofn r = true) := by show _ = _; unfold ofn; exact decide_eq_true (by omega)
    have e32 : ((r : Int) == 32) = false := by rw [beq_eq_false_iff_ne]; omega
    have e215 : ((r : Int) == 215) = false := by rw [beq_eq_false_iff_ne]; omega
    have e247 : ((r : Int) == 247) = false := by rw [beq_eq_false_iff_ne]; omega
    go_enter Try.func90, Try.ntmps90
    go_wp2
    go_ret
    exact ⟨ret_bool (by first | exact hb.out.symm | (rw [hb.out]; exact decide_eq_true (by omega)) | (rw [hb.out]; exact decide_eq_false (by omega))), rfl⟩
  · have hb : Hid (ofn r = false) := by show _ = _; unfold ofn; exact decide_eq_false (by omega)
    subst h
    go_enter Try.func90, Try.ntmps90
    go_wp2
    go_ret
    exact ⟨ret_bool (by first | exact hb.out.symm | (rw [hb.out]; exact decide_eq_true (by omega)) | (rw [hb.out]; exact decide_eq_false (by omega))), rfl⟩
  · have hb : Hid (ofn r = true) := by show _ = _; unfold ofn; exact decide_eq_true (by omega)
    have e32 : ((r : Int) == 32) = false := by rw [beq_eq_false_iff_ne]; omega
    have e215 : ((r : Int) == 215) = false := by rw [beq_eq_false_iff_ne]; omega
    have e247 : ((r : Int) == 247) = false := by rw [beq_eq_false_iff_ne]; omega
    go_enter Try.func90, Try.ntmps90
    go_wp2
    go_ret
    exact ⟨ret_bool (by first | exact hb.out.symm | (rw [hb.out]; exact decide_eq_true (by omega)) | (rw [hb.out]; exact decide_eq_false (by omega))), rfl⟩
  · have hb : Hid (ofn r = false) := by show _ = _; unfold ofn; exact decide_eq_false (by omega)
    subst h
    go_enter Try.func90, Try.ntmps90
    go_wp2
    go_ret
    exact ⟨ret_bool (by first | exact hb.out.symm | (rw [hb.out]; exact decide_eq_true (by omega)) | (rw [hb.out]; exact decide_eq_false (by omega))), rfl⟩
  · have hb : Hid (ofn r = true) := by show _ = _; unfold ofn; exact decide_eq_true (by omega)
    have e32 : ((r : Int) == 32) = false := by rw [beq_eq_false_iff_ne]; omega
    have e215 : ((r : Int) == 215) = false := by rw [beq_eq_false_iff_ne]; omega
    have e247 : ((r : Int) == 247) = false := by rw [beq_eq_false_iff_ne]; omega
    go_enter Try.func90, Try.ntmps90
    go_wp2
    go_ret
    exact ⟨ret_bool (by first | exact hb.out.symm | (rw [hb.out]; exact decide_eq_true (by omega)) | (rw [hb.out]; exact decide_eq_false (by omega))), rfl⟩
  · have hb : Hid (ofn r = false) := by show _ = _; unfold ofn; exact decide_eq_false (by omega)
    have e32 : ((r : Int) == 32) = false := by rw [beq_eq_false_iff_ne]; omega
    have e215 : ((r : Int) == 215) = false := by rw [beq_eq_false_iff_ne]; omega
    have e247 : ((r : Int) == 247) = false := by rw [beq_eq_false_iff_ne]; omega
    go_enter Try.func90, Try.ntmps90
    go_wp2
    go_ret
    exact ⟨ret_bool (by first | exact hb.out.symm | (rw [hb.out]; exact decide_eq_true (by omega)) | (rw [hb.out]; exact decide_eq_false (by omega))), rfl⟩

/-- The k-th byte; 0 beyond. -/
def bt (s : ByteArray) (k : Nat) : Nat := ((s.data.toList[k]?).getD 0).toNat

theorem bt_get {s : ByteArray} {k : Nat} (h : k < s.size) : (s[k]'h).toNat = bt s k := by
  have h' : k < s.data.toList.length := by rw [Array.length_toList]; exact h
  unfold bt
  rw [List.getElem?_eq_getElem h', Option.getD_some]
  rfl

theorem bt_lt (s : ByteArray) (k : Nat) : bt s k < 256 := by unfold bt; exact UInt8.toNat_lt _

/-- Is it a name? -/
def nm (s : ByteArray) : Bool := (runesOf s).all ofn && decide (1 ≤ (runesOf s).length ∧ (runesOf s).length ≤ 20 ∧ bt s 0 ≠ 32 ∧ bt s (s.size - 1) ≠ 32)

theorem nm_bad {s : ByteArray} {r : Nat} (h : r ∈ runesOf s) (hr : ofn r = false) : nm s = false := by
  unfold nm
  rw [show (runesOf s).all ofn = false from by rw [List.all_eq_false]; exact ⟨r, h, by simp [hr]⟩]
  rfl

structure NameRel (w wr : World) (s : ByteArray) (pre : List Nat) (pos : Nat) : Prop where
  iter : wr.heap[w.heap.size]? = some (.stringIter s pos)
  to : RunesTo s pre pos
  all : pre.all ofn = true
  size : w.heap.size < wr.heap.size
  below : Below w.heap.size w wr

theorem decode_le (s : ByteArray) (pos : Nat) : (Utf8.decode s pos).1 ≤ 1114111 := by
  rw [decode_at]
  have h0 : (s.get! pos).toNat < 256 := UInt8.toNat_lt _
  unfold decodeN
  repeat' split
  all_goals simp only
  all_goals omega

set_option maxRecDepth 20000 in
set_option maxHeartbeats 4000000 in
theorem name_any (s : ByteArray) (w : World) (hs : s.size ≤ 9223372036854775807) :
    Calls Try.prog 81 #[.string s] w fun e w' => e = .returned (.bool (nm s)) ∧ Below w.heap.size w w' := by
  go_enter Try.func81, Try.ntmps81
  go_wp2
  go_loopw [3] (fun c wr => ∃ pos pre, c = .int .i64 ((pre.length : Nat) : Int) ∧ NameRel w wr s pre pos) (fun _ wr => s.size - wr.iterPos w.heap.size)
  case atStart => exact ⟨0, [], rfl, ⟨World.iter_heap w s 0, runesTo_start s, rfl, by simp [World.iter], below_iter w s 0⟩⟩
  case round =>
    obtain ⟨pos, pre, rfl, hr⟩ := hrel
    by_cases hp : pos < s.size
    · have hnx : ∀ ty, (Instr.next (.pointer (some ⟨w.heap.size, 0, none⟩)) true ty).run Try.prog wr = .ok (.tuple #[.bool true, .int .i64 (pos : Int), .int .i32 (((Utf8.decode s pos).1 : Nat) : Int)]) (wr.iterAt w.heap.size s (pos + (Utf8.decode s pos).2)) := by
        intro ty
        exact run_next_any_at wr w.heap.size s pos ty hr.iter hp
      have hmem := hr.to.mem hp
      have HO := hide (ofName_any (Utf8.decode s pos).1 (wr.iterAt w.heap.size s (pos + (Utf8.decode s pos).2)) (decode_le s pos))
      have HIt := hide (iterAt_heap wr w.heap.size s pos (pos + (Utf8.decode s pos).2) hr.iter)
      have HTo := hide (hr.to.next hp)
      have HI := hide (iterPos_of hr.iter)
      have hbw := hide (below_iterAt hr.below (Nat.le_refl _) s (pos + (Utf8.decode s pos).2))
      have HA := hide hr.all
      have HSz : Hid (w.heap.size < (wr.iterAt w.heap.size s (pos + (Utf8.decode s pos).2)).heap.size) := by show _ < _; rw [iterAt_size]; exact hr.size
      have HW := hide (decode_width_pos s pos hp)
      have hc := hmem.2
      have HM := hide hmem.1
      clear hmem hr
      generalize (Utf8.decode s pos).1 = r at *
      generalize (Utf8.decode s pos).2 = n at *
      cases ho : ofn r with
      | false =>
        have HNM := hide (nm_bad HM.out ho)
        rw [ho] at HO
        clear ho
        go_wp2_with fail
        refine HO.out.mono ?_
        rintro e w' ⟨rfl, rfl⟩
        go_wp2
        go_ret
        exact ⟨ret_bool HNM.out.symm, hbw.out⟩
      | true =>
        rw [ho] at HO
        have HAA : Hid ((pre ++ [r]).all ofn = true) := by show _ = _; rw [List.all_append, HA.out]; simp [ho]
        clear ho
        go_wp2_with fail
        refine HO.out.mono ?_
        rintro e w' ⟨rfl, rfl⟩
        go_wp2
        go_roundw
        case rel => exact ⟨pos + n, pre ++ [r], by rw [List.length_append]; go_num, ⟨HIt.out, HTo.out, HAA.out, HSz.out, hbw.out⟩⟩
        case measure => rw [HI.out, iterPos_of HIt.out]; have := HW.out; omega
    · have hnx := fun ty => run_next_end_at (P := Try.prog) wr w.heap.size s pos ty hr.iter hp
      have HE := hide (hr.to.done hp)
      have HA := hide hr.all
      have hbw := hr.below
      have hle := runesOf_length s
      rw [HE.out] at hle
      have HNM : Hid (nm s = decide (1 ≤ pre.length ∧ pre.length ≤ 20 ∧ bt s 0 ≠ 32 ∧ bt s (s.size - 1) ≠ 32)) := by
        show _ = _; unfold nm; rw [HE.out, HA.out, Bool.true_and]
      clear hr hp
      generalize pre.length = L at *
      by_cases c1 : 1 ≤ L
      · by_cases c2 : L ≤ 20
        · have hs0 : 0 < s.size := by omega
          have hs1 : s.size - 1 < s.size := by omega
          have hx1 := index_byte s (s.size - 1) hs1 wr
          rw [bt_get hs1] at hx1
          rw [show ((s.size - 1 : Nat) : Int) = (s.size : Int) - 1 from by omega] at hx1
          generalize bt s (s.size - 1) = b1 at *
          have hb0 := bt_get hs0
          generalize hq : (s[0]'hs0).toNat = b0 at *
          by_cases c3 : b0 = 32
          · have hv : Hid (nm s = false) := by show _ = _; rw [HNM.out]; exact decide_eq_false (by omega)
            have hn0 : (((s[0]'hs0).toNat : Int) != 32) = false := by rw [hq, c3]; rfl
            clear c3 hb0 hq
            go_wp2
            go_ret
            exact ⟨ret_bool hv.out.symm, hbw⟩
          · have hn0 : (((s[0]'hs0).toNat : Int) != 32) = true := by rw [hq, bne_iff_ne]; omega
            by_cases c4 : b1 = 32
            · have hv : Hid (nm s = false) := by show _ = _; rw [HNM.out]; exact decide_eq_false (by omega)
              subst c4
              clear c3 hb0 hq
              go_wp2
              go_ret
              exact ⟨ret_bool hv.out.symm, hbw⟩
            · have hv : Hid (nm s = true) := by show _ = _; rw [HNM.out]; exact decide_eq_true (by omega)
              have hn1 : ((b1 : Int) != 32) = true := by rw [bne_iff_ne]; omega
              clear c3 c4 hb0 hq
              go_wp2
              go_ret
              exact ⟨ret_bool hv.out.symm, hbw⟩
        · have hv : Hid (nm s = false) := by show _ = _; rw [HNM.out]; exact decide_eq_false (by omega)
          go_wp2
          go_ret
          exact ⟨ret_bool hv.out.symm, hbw⟩
      · have hv : Hid (nm s = false) := by show _ = _; rw [HNM.out]; exact decide_eq_false (by omega)
        go_wp2
        go_ret
        exact ⟨ret_bool hv.out.symm, hbw⟩

end Go.Proofs.Ytfhcelanjilbiaa
