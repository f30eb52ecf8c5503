/- Joined: RefA, RefB, Rno, Name, Rns, RunA, Idx. -/
import Derived.Test.YtenpkhalgkodbaaDoorJ1
import Derived.Lib.RuneCount
import Derived.Lib.DecodeN
import Derived.Lib.Bytealg
import Derived.Laws.Runes
import Derived.Laws.Externs
import Derived.WalkMore
import Derived.Deep.QuietTactic
import Derived.Deep.RegionHeld3
/- Contracts of the answer's functions: RowMay, Undo, By. -/
namespace Go.Proofs.YtenpkhalgkodbaaDoor
open Go.RowKit

/-- How often b is in the list. -/
def occ (b : Int) (xs : List Int) : Nat := (xs.filter (fun y => y == b)).length

theorem occ_le (b : Int) (xs : List Int) : occ b xs ≤ xs.length := List.length_filter_le _ _

theorem occ_snoc (b y : Int) (xs : List Int) : occ b (xs ++ [y]) = occ b xs + if y = b then 1 else 0 := by
  unfold occ
  rw [List.filter_append, List.length_append]
  by_cases h : y = b <;> simp [h]

theorem perm_of_sub {α : Type} [DecidableEq α] : ∀ (l m : List α), l.Nodup → (∀ x ∈ l, x ∈ m) → l.length = m.length → l.Perm m := by
  intro l
  induction l with
  | nil => intro m _ _ hl; rw [List.length_eq_zero_iff.1 hl.symm]
  | cons a l ih =>
    intro m hn hs hl
    have ha : a ∈ m := hs a List.mem_cons_self
    have hn' := List.nodup_cons.1 hn
    have h1 := ih (m.erase a) hn'.2 (fun x hx => (List.mem_erase_of_ne (fun e => hn'.1 (by rw [← e]; exact hx))).2 (hs x (List.mem_cons_of_mem _ hx))) (by rw [List.length_erase_of_mem ha]; simp at hl; omega)
    exact (h1.cons a).trans (List.perm_cons_erase ha).symm

theorem occ_mem {b : Int} {xs : List Int} (h : occ b xs = 1) : b ∈ xs := by
  unfold occ at h
  have h1 : 0 < (xs.filter (fun y => y == b)).length := by omega
  obtain ⟨y, hy⟩ := List.exists_mem_of_length_pos h1
  have h2 := List.mem_filter.1 hy
  have e : y = b := by simpa using h2.2
  rw [← e]; exact h2.1

theorem row_of_occ {xs : List Int} (h : ∀ b, b < xs.length → occ (b : Int) xs = 1) : isRow xs := by
  have hp := perm_of_sub (rnd xs.length) xs (isRow_rnd _).2 (fun x hx => by
    obtain ⟨i, hi, rfl⟩ := List.mem_map.1 hx
    exact occ_mem (h i (List.mem_range.1 hi))) (rnd_length _)
  exact isRow_perm hp.symm (isRow_rnd _)

theorem occ_of_row {xs : List Int} (h : isRow xs) {b : Nat} (hb : b < xs.length) : occ (b : Int) xs = 1 := by
  obtain ⟨j, hj, e⟩ := isRow_onto h hb
  have hm : (b : Int) ∈ xs := by
    rw [← e, show xs.getD j 0 = xs[j] from by simp [List.getD, List.getElem?_eq_getElem hj]]
    exact List.getElem_mem hj
  have key : ∀ (l : List Int), l.Nodup → (b : Int) ∈ l → occ (b : Int) l = 1 := by
    intro l
    induction l with
    | nil => intro _ hm; cases hm
    | cons x l ih =>
      intro hn hm
      have hn' := List.nodup_cons.1 hn
      unfold occ
      by_cases e : x = (b : Int)
      · subst e
        rw [List.filter_cons_of_pos (by simp), List.filter_eq_nil_iff.2 (fun y hy => by
          intro h2
          have e2 : y = (b : Int) := by simpa using h2
          exact hn'.1 (e2 ▸ hy))]
        rfl
      · rw [List.filter_cons_of_neg (by simpa using e)]
        rcases List.mem_cons.1 hm with h2 | h2
        · exact absurd h2.symm e
        · exact ih hn'.2 h2
  exact key xs h.2 hm

theorem by_take_snoc (a b : List Int) (k m : Nat) (hk : k < b.length) (hm : b[k]?.getD 0 = (m : Int)) : by_ a (b.take (k + 1)) = by_ a (b.take k) ++ [a[m]?.getD 0] := by
  rw [take_snoc b k hk, hm]
  simp [by_, List.getD]

set_option maxRecDepth 20000 in
set_option maxHeartbeats 1000000 in
theorem rby_own (v1 v2 : Value) (a b : List Int) (w : World) (i1 : Ints w v1 a) (i2 : Ints w v2 b) (hb : ∀ j, j < b.length → 0 ≤ b.getD j 0 ∧ b.getD j 0 < a.length) (n1 : 1 ≤ a.length) (n2 : b.length ≤ 1000000) :
    Calls Tryd.prog 59 #[v1, v2] w fun e w' => ∃ v, e = .returned v ∧ w'.ownsRow w.heap.size 3 1 v b.length ((by_ a b).map (Value.int .i64)) ∧ Below w.heap.size w w' := by
  obtain ⟨i0, hi, hz0, hz1, hz2⟩ := info_parts Tryd.info3
  have HBd := hide hb
  clear hb
  rcases i1 with ⟨rfl, p, c, rfl⟩ | ⟨b1, o1, cap1, rfl, h01, hcp1, hm1, hb1, hcell1⟩
  · simp at n1
  obtain ⟨p2, cap2, e2, hcell2⟩ : ∃ p2 cap2, v2 = .slice p2 b.length cap2 ∧ Hid (∀ j, j < b.length → ∃ b2 o2, p2 = some ⟨b2, o2, none⟩ ∧ b.length ≤ cap2 ∧ cap2 ≤ 9223372036854775807 ∧ b2 < w.heap.size ∧ w.cell? ⟨b2, o2 + j, none⟩ = some (.int .i64 (b.getD j 0))) := by
    rcases i2 with ⟨rfl, p, c, rfl⟩ | ⟨b2, o2, cap2, rfl, h02, hcp2, hm2, hb2, hc2⟩
    · exact ⟨p, c, rfl, fun j hj => by simp at hj⟩
    · exact ⟨_, cap2, rfl, fun j hj => ⟨b2, o2, rfl, hcp2, hm2, hb2, hc2 j hj⟩⟩
  subst e2
  have HC1 := hide hcell1
  clear i2 hcell1
  go_enter Tryd.func59, Tryd.ntmps59
  go_wp2
  go_loopw [5, 6] (fun v i wr => ∃ k : Nat, k ≤ b.length ∧ i = .int .i64 k ∧ wr.ownsRow w.heap.size 3 1 v k ((by_ a (b.take k)).map (Value.int .i64)) ∧ Below w.heap.size w wr) (fun _ i _ => b.length - (intOf i).toNat)
  case atStart => exact ⟨0, by omega, rfl, World.ownsRow_nil _ _ _ _, Below.refl _ _⟩
  case round =>
    obtain ⟨k, hk, rfl, hown, hbw⟩ := hrel
    have hbs := hbw.size
    by_cases hlt : k < b.length
    · obtain ⟨b2, o2, rfl, hcp2, hm2, hb2, hc2⟩ := hcell2.out k hlt
      have hpr := HBd.out k hlt
      obtain ⟨m, hm⟩ := Int.eq_ofNat_of_zero_le hpr.1
      have hma : m < a.length := by have := hpr.2; omega
      obtain ⟨q, hq, hcq⟩ := cellAt HC1.out hma
      have gp : wr.cell? ⟨b2, o2 + k, none⟩ = some (.int .i64 (m : Int)) := (hbw.cell (by exact hb2)).trans (by rw [hc2, hm])
      have gq : wr.cell? ⟨b1, o1 + m, none⟩ = some (.int .i64 q) := (hbw.cell (by exact hb1)).trans hcq
      have HT : Hid (by_ a (b.take (k + 1)) = by_ a (b.take k) ++ [q]) := by show _ = _; rw [by_take_snoc a b k m hlt hm, hq.out]
      clear hcq hc2 hpr hm
      go_wp2_with (at_builtin; refine wpList_append_own _ rfl _ _ 26 rfl w.heap.size 3 i0 (.int .i64 0) 1 8 Tryd.underlying26 hi hz0 hz1 hz2 rfl (by decide) _ _ _ rfl (hown.alloc _) ⟨wr.heap.size, 0, none⟩ 1 1 [.int .i64 q] rfl rfl ?c1 ?c2 ?c3 ?c4 ?c5 ?_)
      case c1 => exact cell_one_new _ _ _
      case c2 => intro u hu; simp at hu; subst hu; rfl
      case c3 => unfold maxLen; omega
      case c4 => omega
      case c5 => simp; omega
      · intro v' w1 hown' hgrow _
        go_wp2
        go_roundw
        case rel => exact ⟨k + 1, by omega, by go_num, by rw [HT.out, List.map_append]; exact hown', (hbw.alloc hbw.size _).grown hgrow (by simp; omega) (fun g hg => (hown.lt g hg).1)⟩
        case measure => simp [intOf]; omega
    · obtain rfl : k = b.length := by omega
      rw [List.take_length] at hown
      go_wp2
      go_ret
      exact ⟨_, rfl, hown, hbw⟩

theorem rby_ok (v1 v2 : Value) (a b : List Int) (w : World) (i1 : Ints w v1 a) (i2 : Ints w v2 b) (hb : ∀ j, j < b.length → 0 ≤ b.getD j 0 ∧ b.getD j 0 < a.length) (n1 : 1 ≤ a.length) (n2 : b.length ≤ 1000000) :
    Calls Tryd.prog 59 #[v1, v2] w fun e w' => ∃ v, e = .returned v ∧ Ints w' v (by_ a b) ∧ Below w.heap.size w w' := by
  refine (rby_own v1 v2 a b w i1 i2 hb n1 n2).mono ?_
  rintro e w' ⟨v, rfl, ho, hb'⟩
  exact ⟨v, rfl, Ints.own ho, hb'⟩

end Go.Proofs.YtenpkhalgkodbaaDoor

/- Contracts of the answer's functions: BellOf, SignOf, Text, ReadRow. -/
namespace Go.Proofs.YtenpkhalgkodbaaDoor
open Go.RowKit
set_option maxRecDepth 20000

theorem bl_none {b : UInt8} (h : ¬ bl b < 12) {m : Nat} (hm : m < 12) : sg m ≠ b.toNat := fun e => h (by rw [bl_of hm e]; exact hm)

theorem slice_sign (m : Nat) (hm : m < 12) (w : World) : (Instr.slice 9 (.string { data := #[49, 50, 51, 52, 53, 54, 55, 56, 57, 48, 69, 84] }) (some (.int .i64 (m : Int))) (some (.int .i64 ((m : Int) + 1))) none).run Tryd.prog w = .ok (.string (strOfNums [((sg m : Nat) : Int)])) w := by
  match m, hm with
  | 0, _ | 1, _ | 2, _ | 3, _ | 4, _ | 5, _ | 6, _ | 7, _ | 8, _ | 9, _ | 10, _ | 11, _ => rfl

theorem str_append (xs ys : List Int) : strOfNums xs ++ strOfNums ys = strOfNums (xs ++ ys) := by
  apply ByteArray.ext
  rw [ByteArray.data_append]
  simp [strOfNums]

/-- A byte of a text, as the index gives it. -/
theorem index_byte (s : ByteArray) (k : Nat) (hk : k < s.size) (w : World) : (Instr.index 9 (.string s) (.int .i64 (k : Int))).run Tryd.prog w = .ok (.int .u8 (((s[k]'hk).toNat : Nat) : Int)) w := by
  rw [run_index_string w 9 _ .i64 (k : Int) Tryd.underlying9, dif_pos ⟨by omega, by omega⟩]
  rfl

end Go.Proofs.YtenpkhalgkodbaaDoor

/- Plain: the runes of a text. -/
namespace Go.Proofs.YtenpkhalgkodbaaDoor
open Go.RowKit Go.Lib

/-- The runes of a text from a place on, at most so many. -/
def rns (s : ByteArray) : Nat → Nat → List Nat
  | 0, _ => []
  | f + 1, pos => if pos < s.size then (Utf8.decode s pos).1 :: rns s f (pos + (Utf8.decode s pos).2) else []

def runesOf (s : ByteArray) : List Nat := rns s s.size 0

theorem rns_length (s : ByteArray) : ∀ f pos, (rns s f pos).length ≤ f
  | 0, _ => by simp [rns]
  | f + 1, pos => by
    have ih := rns_length s f (pos + (Utf8.decode s pos).2)
    unfold rns
    split
    · simp; omega
    · simp

theorem runesOf_length (s : ByteArray) : (runesOf s).length ≤ s.size := rns_length s _ _

/-- Runes up to a place, and the rest. -/
def RunesTo (s : ByteArray) (pre : List Nat) (pos : Nat) : Prop := ∃ f, s.size - pos ≤ f ∧ runesOf s = pre ++ rns s f pos

theorem runesTo_start (s : ByteArray) : RunesTo s [] 0 := ⟨s.size, by omega, rfl⟩

theorem RunesTo.next {s : ByteArray} {pre : List Nat} {pos : Nat} (h : RunesTo s pre pos) (hp : pos < s.size) : RunesTo s (pre ++ [(Utf8.decode s pos).1]) (pos + (Utf8.decode s pos).2) := by
  obtain ⟨f, hf, e⟩ := h
  have hw := decode_width_pos s pos hp
  match f, hf, e with
  | 0, hf, _ => omega
  | f + 1, hf, e =>
    refine ⟨f, by omega, ?_⟩
    rw [e, rns, if_pos hp, List.append_assoc, List.singleton_append]

theorem RunesTo.done {s : ByteArray} {pre : List Nat} {pos : Nat} (h : RunesTo s pre pos) (hp : ¬ pos < s.size) : runesOf s = pre := by
  obtain ⟨f, hf, e⟩ := h
  rw [e]
  cases f with
  | zero => simp [rns]
  | succ f => rw [rns, if_neg hp, List.append_nil]

theorem RunesTo.mem {s : ByteArray} {pre : List Nat} {pos : Nat} (h : RunesTo s pre pos) (hp : pos < s.size) : (Utf8.decode s pos).1 ∈ runesOf s ∧ pre.length < s.size := by
  obtain ⟨f, hf, e⟩ := h.next hp
  constructor
  · rw [e]; simp
  · have := runesOf_length s
    rw [e] at this
    simp at this
    omega

theorem decode_le (s : ByteArray) (pos : Nat) : (Utf8.decode s pos).1 ≤ 1114111 := by
  rw [decode_at]
  have h0 : (s.get! pos).toNat < 256 := UInt8.toNat_lt _
  unfold decodeN
  repeat' split
  all_goals simp only
  all_goals omega

end Go.Proofs.YtenpkhalgkodbaaDoor

/- Contracts: ofName, Name of package method, at every text. -/
namespace Go.Proofs.YtenpkhalgkodbaaDoor
open Go.RowKit Go.Lib

/-- May a rune be in a name? -/
def ofn (r : Nat) : Bool := decide (65 ≤ r ∧ r ≤ 90 ∨ 97 ≤ r ∧ r ≤ 122 ∨ 48 ≤ r ∧ r ≤ 57 ∨ r = 32 ∨ (192 ≤ r ∧ r ≤ 382 ∧ r ≠ 215 ∧ r ≠ 247))

set_option maxRecDepth 20000 in
set_option maxHeartbeats 4000000 in
theorem ofName_any (r : Nat) (w : World) (hr : r ≤ 1114111) : Calls Tryd.prog 68 #[.int .i32 r] w fun e w' => e = .returned (.bool (ofn r)) ∧ w = w' := by
  have hcase : r < 32 ∨ r = 32 ∨ (33 ≤ r ∧ r ≤ 47) ∨ (48 ≤ r ∧ r ≤ 57) ∨ (58 ≤ r ∧ r ≤ 64) ∨ (65 ≤ r ∧ r ≤ 90) ∨ (91 ≤ r ∧ r ≤ 96) ∨ (97 ≤ r ∧ r ≤ 122) ∨ (123 ≤ r ∧ r ≤ 191) ∨ (192 ≤ r ∧ r ≤ 214) ∨ r = 215 ∨ (216 ≤ r ∧ r ≤ 246) ∨ r = 247 ∨ (248 ≤ r ∧ r ≤ 382) ∨ 383 ≤ r := by omega
  rcases hcase with h | h | ⟨h1, h2⟩ | ⟨h1, h2⟩ | ⟨h1, h2⟩ | ⟨h1, h2⟩ | ⟨h1, h2⟩ | ⟨h1, h2⟩ | ⟨h1, h2⟩ | ⟨h1, h2⟩ | h | ⟨h1, h2⟩ | h | ⟨h1, h2⟩ | h
  · have hb : Hid (ofn r = false) := by show _ = _; unfold ofn; exact decide_eq_false (by omega)
    have e32 : ((r : Int) == 32) = false := by rw [beq_eq_false_iff_ne]; omega
    have e215 : ((r : Int) == 215) = false := by rw [beq_eq_false_iff_ne]; omega
    have e247 : ((r : Int) == 247) = false := by rw [beq_eq_false_iff_ne]; omega
    go_enter Tryd.func68, Tryd.ntmps68
    go_wp2
    go_ret
    exact ⟨ret_bool (by first | exact hb.out.symm | (rw [hb.out]; exact decide_eq_true (by omega)) | (rw [hb.out]; exact decide_eq_false (by omega))), rfl⟩
  · have hb : Hid (ofn r = true) := by show _ = _; unfold ofn; exact decide_eq_true (by omega)
    subst h
    go_enter Tryd.func68, Tryd.ntmps68
    go_wp2
    go_ret
    exact ⟨ret_bool (by first | exact hb.out.symm | (rw [hb.out]; exact decide_eq_true (by omega)) | (rw [hb.out]; exact decide_eq_false (by omega))), rfl⟩
  · have hb : Hid (ofn r = false) := by show _ = _; unfold ofn; exact decide_eq_false (by omega)
    have e32 : ((r : Int) == 32) = false := by rw [beq_eq_false_iff_ne]; omega
    have e215 : ((r : Int) == 215) = false := by rw [beq_eq_false_iff_ne]; omega
    have e247 : ((r : Int) == 247) = false := by rw [beq_eq_false_iff_ne]; omega
    go_enter Tryd.func68, Tryd.ntmps68
    go_wp2
    go_ret
    exact ⟨ret_bool (by first | exact hb.out.symm | (rw [hb.out]; exact decide_eq_true (by omega)) | (rw [hb.out]; exact decide_eq_false (by omega))), rfl⟩
  · have hb : Hid (ofn r = true) := by show _ = _; unfold ofn; exact decide_eq_true (by omega)
    have e32 : ((r : Int) == 32) = false := by rw [beq_eq_false_iff_ne]; omega
    have e215 : ((r : Int) == 215) = false := by rw [beq_eq_false_iff_ne]; omega
    have e247 : ((r : Int) == 247) = false := by rw [beq_eq_false_iff_ne]; omega
    go_enter Tryd.func68, Tryd.ntmps68
    go_wp2
    go_ret
    exact ⟨ret_bool (by first | exact hb.out.symm | (rw [hb.out]; exact decide_eq_true (by omega)) | (rw [hb.out]; exact decide_eq_false (by omega))), rfl⟩
  · have hb : Hid (ofn r = false) := by show _ = _; unfold ofn; exact decide_eq_false (by omega)
    have e32 : ((r : Int) == 32) = false := by rw [beq_eq_false_iff_ne]; omega
    have e215 : ((r : Int) == 215) = false := by rw [beq_eq_false_iff_ne]; omega
    have e247 : ((r : Int) == 247) = false := by rw [beq_eq_false_iff_ne]; omega
    go_enter Tryd.func68, Tryd.ntmps68
    go_wp2
    go_ret
    exact ⟨ret_bool (by first | exact hb.out.symm | (rw [hb.out]; exact decide_eq_true (by omega)) | (rw [hb.out]; exact decide_eq_false (by omega))), rfl⟩
  · have hb : Hid (ofn r = true) := by show _ = _; unfold ofn; exact decide_eq_true (by omega)
    have e32 : ((r : Int) == 32) = false := by rw [beq_eq_false_iff_ne]; omega
    have e215 : ((r : Int) == 215) = false := by rw [beq_eq_false_iff_ne]; omega
    have e247 : ((r : Int) == 247) = false := by rw [beq_eq_false_iff_ne]; omega
    go_enter Tryd.func68, Tryd.ntmps68
    go_wp2
    go_ret
    exact ⟨ret_bool (by first | exact hb.out.symm | (rw [hb.out]; exact decide_eq_true (by omega)) | (rw [hb.out]; exact decide_eq_false (by omega))), rfl⟩
  · have hb : Hid (ofn r = false) := by show _ = _; unfold ofn; exact decide_eq_false (by omega)
    have e32 : ((r : Int) == 32) = false := by rw [beq_eq_false_iff_ne]; omega
    have e215 : ((r : Int) == 215) = false := by rw [beq_eq_false_iff_ne]; omega
    have e247 : ((r : Int) == 247) = false := by rw [beq_eq_false_iff_ne]; omega
    go_enter Tryd.func68, Tryd.ntmps68
    go_wp2
    go_ret
    exact ⟨ret_bool (by first | exact hb.out.symm | (rw [hb.out]; exact decide_eq_true (by omega)) | (rw [hb.out]; exact decide_eq_false (by omega))), rfl⟩
  · have hb : Hid (ofn r = true) := by show _ = _; unfold ofn; exact decide_eq_true (by omega)
    have e32 : ((r : Int) == 32) = false := by rw [beq_eq_false_iff_ne]; omega
    have e215 : ((r : Int) == 215) = false := by rw [beq_eq_false_iff_ne]; omega
    have e247 : ((r : Int) == 247) = false := by rw [beq_eq_false_iff_ne]; omega
    go_enter Tryd.func68, Tryd.ntmps68
    go_wp2
    go_ret
    exact ⟨ret_bool (by first | exact hb.out.symm | (rw [hb.out]; exact decide_eq_true (by omega)) | (rw [hb.out]; exact decide_eq_false (by omega))), rfl⟩
  · have hb : Hid (ofn r = false) := by show _ = _; unfold ofn; exact decide_eq_false (by omega)
    have e32 : ((r : Int) == 32) = false := by rw [beq_eq_false_iff_ne]; omega
    have e215 : ((r : Int) == 215) = false := by rw [beq_eq_false_iff_ne]; omega
    have e247 : ((r : Int) == 247) = false := by rw [beq_eq_false_iff_ne]; omega
    go_enter Tryd.func68, Tryd.ntmps68
    go_wp2
    go_ret
    exact ⟨ret_bool (by first | exact hb.out.symm | (rw [hb.out]; exact decide_eq_true (by omega)) | (rw [hb.out]; exact decide_eq_false (by omega))), rfl⟩
  · have hb : Hid (ofn r = true) := by show _ = _; unfold ofn; exact decide_eq_true (by omega)
    have e32 : ((r : Int) == 32) = false := by rw [beq_eq_false_iff_ne]; omega
    have e215 : ((r : Int) == 215) = false := by rw [beq_eq_false_iff_ne]; omega
    have e247 : ((r : Int) == 247) = false := by rw [beq_eq_false_iff_ne]; omega
    go_enter Tryd.func68, Tryd.ntmps68
    go_wp2
    go_ret
    exact ⟨ret_bool (by first | exact hb.out.symm | (rw [hb.out]; exact decide_eq_true (by omega)) | (rw [hb.out]; exact decide_eq_false (by omega))), rfl⟩
  · have hb : Hid (ofn r = false) := by show _ = _; unfold ofn; exact decide_eq_false (by omega)
    subst h
    go_enter Tryd.func68, Tryd.ntmps68
    go_wp2
    go_ret
    exact ⟨ret_bool (by first | exact hb.out.symm | (rw [hb.out]; exact decide_eq_true (by omega)) | (rw [hb.out]; exact decide_eq_false (by omega))), rfl⟩
  · have hb : Hid (ofn r = true) := by show _ = _; unfold ofn; exact decide_eq_true (by omega)
    have e32 : ((r : Int) == 32) = false := by rw [beq_eq_false_iff_ne]; omega
    have e215 : ((r : Int) == 215) = false := by rw [beq_eq_false_iff_ne]; omega
    have e247 : ((r : Int) == 247) = false := by rw [beq_eq_false_iff_ne]; omega
    go_enter Tryd.func68, Tryd.ntmps68
    go_wp2
    go_ret
    exact ⟨ret_bool (by first | exact hb.out.symm | (rw [hb.out]; exact decide_eq_true (by omega)) | (rw [hb.out]; exact decide_eq_false (by omega))), rfl⟩
  · have hb : Hid (ofn r = false) := by show _ = _; unfold ofn; exact decide_eq_false (by omega)
    subst h
    go_enter Tryd.func68, Tryd.ntmps68
    go_wp2
    go_ret
    exact ⟨ret_bool (by first | exact hb.out.symm | (rw [hb.out]; exact decide_eq_true (by omega)) | (rw [hb.out]; exact decide_eq_false (by omega))), rfl⟩
  · have hb : Hid (ofn r = true) := by show _ = _; unfold ofn; exact decide_eq_true (by omega)
    have e32 : ((r : Int) == 32) = false := by rw [beq_eq_false_iff_ne]; omega
    have e215 : ((r : Int) == 215) = false := by rw [beq_eq_false_iff_ne]; omega
    have e247 : ((r : Int) == 247) = false := by rw [beq_eq_false_iff_ne]; omega
    go_enter Tryd.func68, Tryd.ntmps68
    go_wp2
    go_ret
    exact ⟨ret_bool (by first | exact hb.out.symm | (rw [hb.out]; exact decide_eq_true (by omega)) | (rw [hb.out]; exact decide_eq_false (by omega))), rfl⟩
  · have hb : Hid (ofn r = false) := by show _ = _; unfold ofn; exact decide_eq_false (by omega)
    have e32 : ((r : Int) == 32) = false := by rw [beq_eq_false_iff_ne]; omega
    have e215 : ((r : Int) == 215) = false := by rw [beq_eq_false_iff_ne]; omega
    have e247 : ((r : Int) == 247) = false := by rw [beq_eq_false_iff_ne]; omega
    go_enter Tryd.func68, Tryd.ntmps68
    go_wp2
    go_ret
    exact ⟨ret_bool (by first | exact hb.out.symm | (rw [hb.out]; exact decide_eq_true (by omega)) | (rw [hb.out]; exact decide_eq_false (by omega))), rfl⟩

/-- The k-th byte; 0 beyond. -/
def bt (s : ByteArray) (k : Nat) : Nat := ((s.data.toList[k]?).getD 0).toNat

theorem bt_get {s : ByteArray} {k : Nat} (h : k < s.size) : (s[k]'h).toNat = bt s k := by
  have h' : k < s.data.toList.length := by rw [Array.length_toList]; exact h
  unfold bt
  rw [List.getElem?_eq_getElem h', Option.getD_some]
  rfl

theorem bt_lt (s : ByteArray) (k : Nat) : bt s k < 256 := by unfold bt; exact UInt8.toNat_lt _

/-- Is it a name? -/
def nm (s : ByteArray) : Bool := (runesOf s).all ofn && decide (1 ≤ (runesOf s).length ∧ (runesOf s).length ≤ 20 ∧ bt s 0 ≠ 32 ∧ bt s (s.size - 1) ≠ 32)

theorem nm_bad {s : ByteArray} {r : Nat} (h : r ∈ runesOf s) (hr : ofn r = false) : nm s = false := by
  unfold nm
  rw [show (runesOf s).all ofn = false from by rw [List.all_eq_false]; exact ⟨r, h, by simp [hr]⟩]
  rfl

structure NameRel (w wr : World) (s : ByteArray) (pre : List Nat) (pos : Nat) : Prop where
  iter : wr.heap[w.heap.size]? = some (.stringIter s pos)
  rto : RunesTo s pre pos
  all : pre.all ofn = true
  size : w.heap.size < wr.heap.size
  below : Below w.heap.size w wr
set_option maxRecDepth 20000 in
set_option maxHeartbeats 4000000 in
theorem name_any (s : ByteArray) (w : World) (hs : s.size ≤ 9223372036854775807) :
    Calls Tryd.prog 46 #[.string s] w fun e w' => e = .returned (.bool (nm s)) ∧ Below w.heap.size w w' := by
  go_enter Tryd.func46, Tryd.ntmps46
  go_wp2
  go_loopw [3] (fun c wr => ∃ pos pre, c = .int .i64 ((pre.length : Nat) : Int) ∧ NameRel w wr s pre pos) (fun _ wr => s.size - wr.iterPos w.heap.size)
  case atStart => exact ⟨0, [], rfl, ⟨World.iter_heap w s 0, runesTo_start s, rfl, by simp [World.iter], below_iter w s 0⟩⟩
  case round =>
    obtain ⟨pos, pre, rfl, hr⟩ := hrel
    by_cases hp : pos < s.size
    · have hnx : ∀ ty, (Instr.next (.pointer (some ⟨w.heap.size, 0, none⟩)) true ty).run Tryd.prog wr = .ok (.tuple #[.bool true, .int .i64 (pos : Int), .int .i32 (((Utf8.decode s pos).1 : Nat) : Int)]) (wr.iterAt w.heap.size s (pos + (Utf8.decode s pos).2)) := by
        intro ty
        exact run_next_any_at wr w.heap.size s pos ty hr.iter hp
      have hmem := hr.rto.mem hp
      have HO := hide (ofName_any (Utf8.decode s pos).1 (wr.iterAt w.heap.size s (pos + (Utf8.decode s pos).2)) (decode_le s pos))
      have HIt := hide (iterAt_heap wr w.heap.size s pos (pos + (Utf8.decode s pos).2) hr.iter)
      have HTo := hide (hr.rto.next hp)
      have HI := hide (iterPos_of hr.iter)
      have hbw := hide (below_iterAt hr.below (Nat.le_refl _) s (pos + (Utf8.decode s pos).2))
      have HA := hide hr.all
      have HSz : Hid (w.heap.size < (wr.iterAt w.heap.size s (pos + (Utf8.decode s pos).2)).heap.size) := by show _ < _; rw [iterAt_size]; exact hr.size
      have HW := hide (decode_width_pos s pos hp)
      have hc := hmem.2
      have HM := hide hmem.1
      clear hmem hr
      generalize (Utf8.decode s pos).1 = r at *
      generalize (Utf8.decode s pos).2 = n at *
      cases ho : ofn r with
      | false =>
        have HNM := hide (nm_bad HM.out ho)
        rw [ho] at HO
        clear ho
        go_wp2_with fail
        refine HO.out.mono ?_
        rintro e w' ⟨rfl, rfl⟩
        go_wp2
        go_ret
        exact ⟨ret_bool HNM.out.symm, hbw.out⟩
      | true =>
        rw [ho] at HO
        have HAA : Hid ((pre ++ [r]).all ofn = true) := by show _ = _; rw [List.all_append, HA.out]; simp [ho]
        clear ho
        go_wp2_with fail
        refine HO.out.mono ?_
        rintro e w' ⟨rfl, rfl⟩
        go_wp2
        go_roundw
        case rel => exact ⟨pos + n, pre ++ [r], by rw [List.length_append]; go_num, ⟨HIt.out, HTo.out, HAA.out, HSz.out, hbw.out⟩⟩
        case measure => rw [HI.out, iterPos_of HIt.out]; have := HW.out; omega
    · have hnx := fun ty => run_next_end_at (P := Tryd.prog) wr w.heap.size s pos ty hr.iter hp
      have HE := hide (hr.rto.done hp)
      have HA := hide hr.all
      have hbw := hr.below
      have hle := runesOf_length s
      rw [HE.out] at hle
      have HNM : Hid (nm s = decide (1 ≤ pre.length ∧ pre.length ≤ 20 ∧ bt s 0 ≠ 32 ∧ bt s (s.size - 1) ≠ 32)) := by
        show _ = _; unfold nm; rw [HE.out, HA.out, Bool.true_and]
      clear hr hp
      generalize pre.length = L at *
      by_cases c1 : 1 ≤ L
      · by_cases c2 : L ≤ 20
        · have hs0 : 0 < s.size := by omega
          have hs1 : s.size - 1 < s.size := by omega
          have hx1 := index_byte s (s.size - 1) hs1 wr
          rw [bt_get hs1] at hx1
          rw [show ((s.size - 1 : Nat) : Int) = (s.size : Int) - 1 from by omega] at hx1
          generalize bt s (s.size - 1) = b1 at *
          have hb0 := bt_get hs0
          generalize hq : (s[0]'hs0).toNat = b0 at *
          by_cases c3 : b0 = 32
          · have hv : Hid (nm s = false) := by show _ = _; rw [HNM.out]; exact decide_eq_false (by omega)
            have hn0 : (((s[0]'hs0).toNat : Int) != 32) = false := by rw [hq, c3]; rfl
            clear c3 hb0 hq
            go_wp2
            go_ret
            exact ⟨ret_bool hv.out.symm, hbw⟩
          · have hn0 : (((s[0]'hs0).toNat : Int) != 32) = true := by rw [hq, bne_iff_ne]; omega
            by_cases c4 : b1 = 32
            · have hv : Hid (nm s = false) := by show _ = _; rw [HNM.out]; exact decide_eq_false (by omega)
              subst c4
              clear c3 hb0 hq
              go_wp2
              go_ret
              exact ⟨ret_bool hv.out.symm, hbw⟩
            · have hv : Hid (nm s = true) := by show _ = _; rw [HNM.out]; exact decide_eq_true (by omega)
              have hn1 : ((b1 : Int) != 32) = true := by rw [bne_iff_ne]; omega
              clear c3 c4 hb0 hq
              go_wp2
              go_ret
              exact ⟨ret_bool hv.out.symm, hbw⟩
        · have hv : Hid (nm s = false) := by show _ = _; rw [HNM.out]; exact decide_eq_false (by omega)
          go_wp2
          go_ret
          exact ⟨ret_bool hv.out.symm, hbw⟩
      · have hv : Hid (nm s = false) := by show _ = _; rw [HNM.out]; exact decide_eq_false (by omega)
        go_wp2
        go_ret
        exact ⟨ret_bool hv.out.symm, hbw⟩

end Go.Proofs.YtenpkhalgkodbaaDoor

/- Plain: the runes of a text as the answer reads them: -1 for a byte that is none. -/
namespace Go.Proofs.YtenpkhalgkodbaaDoor
open Go.RowKit Go.Lib

theorem get_piece (s : ByteArray) (p k : Nat) : (s.extract p s.size).get! k = s.get! (p + k) := by
  cases s with
  | mk d =>
    show ((ByteArray.mk d).extract p d.size).data[k]! = d[p + k]!
    rw [ByteArray.data_extract]
    by_cases h : p + k < d.size
    · rw [getElem!_pos d (p + k) h, getElem!_pos _ k (by simp; omega), Array.getElem_extract]
    · rw [getElem!_neg d (p + k) h, getElem!_neg _ k (by simp; omega)]

theorem decode_piece (s : ByteArray) (p : Nat) : Utf8.decode (s.extract p s.size) 0 = Utf8.decode s p := by
  rw [decode_at, decode_at]
  simp only [get_piece, ByteArray.size_extract, Nat.add_zero, Nat.zero_add, Nat.sub_zero, Nat.min_self]

theorem piece_piece (s : ByteArray) (p k : Nat) : (s.extract p s.size).extract k (s.extract p s.size).size = s.extract (p + k) s.size := by
  apply ByteArray.ext
  simp only [ByteArray.data_extract, ByteArray.size_extract, Nat.min_self]
  rw [Array.extract_extract]
  congr 1
  omega

/-- A rune as the answer tells it. -/
def ar (d : Nat × Nat) : Int := if d = (65533, 1) then -1 else (d.1 : Int)

theorem ar_bad {d : Nat × Nat} (h : d = (65533, 1)) : ar d = -1 := if_pos h
theorem ar_ok {d : Nat × Nat} {c k : Nat} (h : d = (c, k)) (hk : c ≠ 65533 ∨ k ≠ 1) : ar d = c := by
  subst h; unfold ar; rw [if_neg]; intro e; simp only [Prod.mk.injEq] at e; omega

set_option maxRecDepth 100000 in
set_option maxHeartbeats 4000000 in
theorem dec_lone (n b0 b1 b2 b3 : Nat) (h : (128 ≤ b0 ∧ b0 < 194) ∨ (245 ≤ b0 ∧ b0 < 256)) : decodeN n b0 b1 b2 b3 = (65533, 1) := by
  unfold decodeN
  repeat' split
  all_goals first | rfl | (exfalso; omega)

set_option maxRecDepth 100000 in
set_option maxHeartbeats 4000000 in
theorem dec_two (n b0 b1 b2 b3 : Nat) (h : 194 ≤ b0 ∧ b0 < 224) (h1 : b1 < 256) :
    decodeN n b0 b1 b2 b3 = if n < 2 ∨ (b1 < 128 ∨ 192 ≤ b1) then (65533, 1) else ((b0 - 192) * 64 + (b1 - 128), 2) := by
  unfold decodeN
  repeat' split
  all_goals first | rfl | (exfalso; omega) | (apply Prod.ext <;> simp only <;> omega)

set_option maxRecDepth 100000 in
set_option maxHeartbeats 8000000 in
theorem dec_three (n b0 b1 b2 b3 : Nat) (h : 224 ≤ b0 ∧ b0 < 240) (h1 : b1 < 256) (h2 : b2 < 256) (c : Nat) (hc : 128 ≤ b1 → 128 ≤ b2 → c = (b0 - 224) * 4096 + (b1 - 128) * 64 + (b2 - 128)) :
    decodeN n b0 b1 b2 b3 = if n < 3 ∨ (b1 < 128 ∨ 192 ≤ b1) ∨ (b2 < 128 ∨ 192 ≤ b2) ∨ (c < 2048 ∨ 1114111 < c ∨ (55296 ≤ c ∧ c < 57344)) then (65533, 1) else (c, 3) := by
  unfold decodeN
  repeat' split
  all_goals first | rfl | (exfalso; omega) | (apply Prod.ext <;> simp only <;> omega)

set_option maxRecDepth 100000 in
set_option maxHeartbeats 8000000 in
theorem dec_four (n b0 b1 b2 b3 : Nat) (h : 240 ≤ b0 ∧ b0 < 245) (h1 : b1 < 256) (h2 : b2 < 256) (h3 : b3 < 256) (c : Nat) (hc : 128 ≤ b1 → 128 ≤ b2 → 128 ≤ b3 → c = (b0 - 240) * 262144 + (b1 - 128) * 4096 + (b2 - 128) * 64 + (b3 - 128)) :
    decodeN n b0 b1 b2 b3 = if n < 4 ∨ (b1 < 128 ∨ 192 ≤ b1) ∨ (b2 < 128 ∨ 192 ≤ b2) ∨ (b3 < 128 ∨ 192 ≤ b3) ∨ (c < 65536 ∨ 1114111 < c ∨ (55296 ≤ c ∧ c < 57344)) then (65533, 1) else (c, 4) := by
  unfold decodeN
  repeat' split
  all_goals first | rfl | (exfalso; omega) | (apply Prod.ext <;> simp only <;> omega)

set_option maxRecDepth 100000 in
set_option maxHeartbeats 4000000 in
theorem dec_width (n b0 b1 b2 b3 : Nat) (hn : 1 ≤ n) : (decodeN n b0 b1 b2 b3).2 ≤ n ∧ 1 ≤ (decodeN n b0 b1 b2 b3).2 := by
  unfold decodeN
  repeat' split
  all_goals (simp only; omega)

theorem decode_width (s : ByteArray) (p : Nat) (h : p < s.size) : p + (Utf8.decode s p).2 ≤ s.size ∧ 1 ≤ (Utf8.decode s p).2 := by
  rw [decode_at]
  have := dec_width (s.size - p) (s.get! p).toNat (s.get! (p + 1)).toNat (s.get! (p + 2)).toNat (s.get! (p + 3)).toNat (by omega)
  omega

def arns (s : ByteArray) : Nat → Nat → List Int
  | 0, _ => []
  | f + 1, pos => if pos < s.size then ar (Utf8.decode s pos) :: arns s f (pos + (Utf8.decode s pos).2) else []

def arunes (s : ByteArray) : List Int := arns s s.size 0

theorem arns_length (s : ByteArray) : ∀ f pos, (arns s f pos).length = (rns s f pos).length
  | 0, _ => rfl
  | f + 1, pos => by
    have ih := arns_length s f (pos + (Utf8.decode s pos).2)
    unfold arns rns
    split
    · simp only [List.length_cons]; omega
    · rfl

theorem arunes_length (s : ByteArray) : (arunes s).length = (runesOf s).length := arns_length s _ _

/-- Rune by rune: the same, or -1 where the program has 65533. -/
theorem arns_at (s : ByteArray) : ∀ f pos j, j < (rns s f pos).length → (arns s f pos).getD j 0 = (((rns s f pos).getD j 0 : Nat) : Int) ∨ ((arns s f pos).getD j 0 = -1 ∧ (rns s f pos).getD j 0 = 65533)
  | 0, _, j, h => by simp [rns] at h
  | f + 1, pos, j, h => by
    unfold arns rns at *
    by_cases hp : pos < s.size
    · rw [if_pos hp] at h
      rw [if_pos hp, if_pos hp]
      match j with
      | 0 =>
        show ar (Utf8.decode s pos) = _ ∨ (ar (Utf8.decode s pos) = -1 ∧ (Utf8.decode s pos).1 = 65533)
        by_cases e : Utf8.decode s pos = (65533, 1)
        · exact Or.inr ⟨ar_bad e, by rw [e]⟩
        · exact Or.inl (by unfold ar; rw [if_neg e]; rfl)
      | j + 1 =>
        have := arns_at s f (pos + (Utf8.decode s pos).2) j (by simpa using h)
        simpa only [List.getD_cons_succ] using this
    · rw [if_neg hp] at h; simp at h

theorem arunes_at (s : ByteArray) (j : Nat) (h : j < (runesOf s).length) : (arunes s).getD j 0 = (((runesOf s).getD j 0 : Nat) : Int) ∨ ((arunes s).getD j 0 = -1 ∧ (runesOf s).getD j 0 = 65533) := arns_at s _ _ j h

/-- Runes up to a place, and the rest. -/
def ARunesTo (s : ByteArray) (pre : List Int) (pos : Nat) : Prop := ∃ f, s.size - pos ≤ f ∧ arunes s = pre ++ arns s f pos

theorem arunesTo_start (s : ByteArray) : ARunesTo s [] 0 := ⟨s.size, by omega, rfl⟩

theorem ARunesTo.next {s : ByteArray} {pre : List Int} {pos : Nat} (h : ARunesTo s pre pos) (hp : pos < s.size) : ARunesTo s (pre ++ [ar (Utf8.decode s pos)]) (pos + (Utf8.decode s pos).2) := by
  obtain ⟨f, hf, e⟩ := h
  have hw := (decode_width s pos hp).2
  match f, hf, e with
  | 0, hf, _ => omega
  | f + 1, hf, e =>
    refine ⟨f, by omega, ?_⟩
    rw [e, arns, if_pos hp, List.append_assoc, List.singleton_append]

theorem ARunesTo.done {s : ByteArray} {pre : List Int} {pos : Nat} (h : ARunesTo s pre pos) (hp : ¬ pos < s.size) : arunes s = pre := by
  obtain ⟨f, hf, e⟩ := h
  rw [e]
  cases f with
  | zero => simp [arns]
  | succ f => rw [arns, if_neg hp, List.append_nil]

theorem ARunesTo.len {s : ByteArray} {pre : List Int} {pos : Nat} (h : ARunesTo s pre pos) : pre.length ≤ s.size := by
  obtain ⟨f, hf, e⟩ := h
  have h1 := arunes_length s
  have h2 := runesOf_length s
  rw [e, List.length_append] at h1
  omega

end Go.Proofs.YtenpkhalgkodbaaDoor

/- Contract: the answer's runeAt. -/
namespace Go.Proofs.YtenpkhalgkodbaaDoor
open Go.RowKit
open Go.Lib (decodeN decode_at)

/-- What runeAt answers. -/
def raV (d : Nat × Nat) : Value := .tuple #[.int .i64 (ar d), .int .i64 ((d.2 : Nat) : Int)]

theorem raV_bad {d : Nat × Nat} (h : d = (65533, 1)) : raV d = .tuple #[.int .i64 (-1), .int .i64 1] := by subst h; rfl
theorem raV_ok {d : Nat × Nat} {c k : Nat} (h : d = (c, k)) (hk : c ≠ 65533 ∨ k ≠ 1) : raV d = .tuple #[.int .i64 (c : Int), .int .i64 (k : Int)] := by unfold raV; rw [ar_ok h hk, h]

theorem byte_get (s : ByteArray) (k : Nat) (hk : k < s.size) : (s[k]'hk) = s.get! k := by
  cases s with
  | mk d => exact (getElem!_pos d k hk).symm

theorem index_get (s : ByteArray) (k : Nat) (hk : k < s.size) (w : World) : (Instr.index 9 (.string s) (.int .i64 (k : Int))).run Tryd.prog w = .ok (.int .u8 (((s.get! k).toNat : Nat) : Int)) w := by
  rw [← byte_get s k hk]; exact index_byte s k hk w

set_option maxRecDepth 20000 in
set_option maxHeartbeats 4000000 in
theorem runeAt_one (s : ByteArray) (w : World) (h0 : 0 < s.size) (hc : (s.get! 0).toNat < 128) :
    Calls Tryd.prog 82 #[.string s] w fun e w' => e = .returned (raV (Utf8.decode s 0)) ∧ w = w' := by
  obtain ⟨g, hg⟩ : ∃ g : Nat → Nat, ∀ k, (s.get! k).toNat = g k := ⟨_, fun _ => rfl⟩
  have hix0 : ∀ w, (Instr.index 9 (.string s) (.int .i64 0)).run Tryd.prog w = .ok (.int .u8 ((g 0 : Nat) : Int)) w := fun w => by rw [← hg 0]; exact index_get s 0 h0 w
  have HIX : Hid (∀ k, k < s.size → ∀ w, (Instr.index 9 (.string s) (.int .i64 (k : Int))).run Tryd.prog w = .ok (.int .u8 ((g k : Nat) : Int)) w) := fun k hk w => by rw [← hg k]; exact index_get s k hk w
  have hb0 : g 0 < 256 := by rw [← hg 0]; exact UInt8.toNat_lt _
  have hb1 : g 1 < 256 := by rw [← hg 1]; exact UInt8.toNat_lt _
  have hb2 : g 2 < 256 := by rw [← hg 2]; exact UInt8.toNat_lt _
  have hb3 : g 3 < 256 := by rw [← hg 3]; exact UInt8.toNat_lt _
  have HD : Hid (Utf8.decode s 0 = decodeN s.size (g 0) (g 1) (g 2) (g 3)) := by show _ = _; rw [← hg 0, ← hg 1, ← hg 2, ← hg 3]; exact decode_at s 0
  generalize Utf8.decode s 0 = d at *
  rw [hg 0] at hc
  clear hg
  have HR : Hid (raV d = .tuple #[.int .i64 (g 0 : Int), .int .i64 1]) := by
    refine raV_ok (k := 1) ?_ (by omega)
    rw [HD.out]
    unfold decodeN
    rw [if_pos hc]
  clear HD hb1 hb2 hb3
  go_enter Tryd.func82, Tryd.ntmps82
  go_wp2
  go_ret2
  exact ⟨by rw [HR.out]; rfl, rfl⟩

set_option maxRecDepth 20000 in
set_option maxHeartbeats 4000000 in
theorem runeAt_none (s : ByteArray) (w : World) (h0 : 0 < s.size) (hc : (128 ≤ (s.get! 0).toNat ∧ (s.get! 0).toNat < 194) ∨ 245 ≤ (s.get! 0).toNat) :
    Calls Tryd.prog 82 #[.string s] w fun e w' => e = .returned (raV (Utf8.decode s 0)) ∧ w = w' := by
  obtain ⟨g, hg⟩ : ∃ g : Nat → Nat, ∀ k, (s.get! k).toNat = g k := ⟨_, fun _ => rfl⟩
  have hix0 : ∀ w, (Instr.index 9 (.string s) (.int .i64 0)).run Tryd.prog w = .ok (.int .u8 ((g 0 : Nat) : Int)) w := fun w => by rw [← hg 0]; exact index_get s 0 h0 w
  have HIX : Hid (∀ k, k < s.size → ∀ w, (Instr.index 9 (.string s) (.int .i64 (k : Int))).run Tryd.prog w = .ok (.int .u8 ((g k : Nat) : Int)) w) := fun k hk w => by rw [← hg k]; exact index_get s k hk w
  have hb0 : g 0 < 256 := by rw [← hg 0]; exact UInt8.toNat_lt _
  have hb1 : g 1 < 256 := by rw [← hg 1]; exact UInt8.toNat_lt _
  have hb2 : g 2 < 256 := by rw [← hg 2]; exact UInt8.toNat_lt _
  have hb3 : g 3 < 256 := by rw [← hg 3]; exact UInt8.toNat_lt _
  have HD : Hid (Utf8.decode s 0 = decodeN s.size (g 0) (g 1) (g 2) (g 3)) := by show _ = _; rw [← hg 0, ← hg 1, ← hg 2, ← hg 3]; exact decode_at s 0
  generalize Utf8.decode s 0 = d at *
  rw [hg 0] at hc
  clear hg
  have HR : Hid (raV d = .tuple #[.int .i64 (-1), .int .i64 1]) := by
    refine raV_bad ?_
    rw [HD.out]
    exact dec_lone _ _ _ _ _ (by omega)
  clear HD hb1 hb2 hb3
  rcases hc with ⟨hc1, hc2⟩ | hc
  · go_enter Tryd.func82, Tryd.ntmps82
    go_wp2
    go_ret2
    exact ⟨by rw [HR.out]; rfl, rfl⟩
  · go_enter Tryd.func82, Tryd.ntmps82
    go_wp2
    go_ret2
    exact ⟨by rw [HR.out]; rfl, rfl⟩

set_option maxRecDepth 20000 in
set_option maxHeartbeats 4000000 in
theorem runeAt_2 (s : ByteArray) (w : World) (h0 : 0 < s.size) (hm : s.size ≤ 9223372036854775807) (hc1 : 194 ≤ (s.get! 0).toNat) (hc2 : (s.get! 0).toNat < 224) :
    Calls Tryd.prog 82 #[.string s] w fun e w' => e = .returned (raV (Utf8.decode s 0)) ∧ w = w' := by
  obtain ⟨g, hg⟩ : ∃ g : Nat → Nat, ∀ k, (s.get! k).toNat = g k := ⟨_, fun _ => rfl⟩
  have hix0 : ∀ w, (Instr.index 9 (.string s) (.int .i64 0)).run Tryd.prog w = .ok (.int .u8 ((g 0 : Nat) : Int)) w := fun w => by rw [← hg 0]; exact index_get s 0 h0 w
  have HIX : Hid (∀ k, k < s.size → ∀ w, (Instr.index 9 (.string s) (.int .i64 (k : Int))).run Tryd.prog w = .ok (.int .u8 ((g k : Nat) : Int)) w) := fun k hk w => by rw [← hg k]; exact index_get s k hk w
  have hb0 : g 0 < 256 := by rw [← hg 0]; exact UInt8.toNat_lt _
  have hb1 : g 1 < 256 := by rw [← hg 1]; exact UInt8.toNat_lt _
  have hb2 : g 2 < 256 := by rw [← hg 2]; exact UInt8.toNat_lt _
  have hb3 : g 3 < 256 := by rw [← hg 3]; exact UInt8.toNat_lt _
  have HD : Hid (Utf8.decode s 0 = decodeN s.size (g 0) (g 1) (g 2) (g 3)) := by show _ = _; rw [← hg 0, ← hg 1, ← hg 2, ← hg 3]; exact decode_at s 0
  generalize Utf8.decode s 0 = d at *
  rw [hg 0] at hc1 hc2
  clear hg
  have HB : Hid ((∀ k, 0 < k → k < 2 → g k < 256)) := by
    intro k hk hk'
    have : k = 1 := by omega
    rcases this with rfl <;> assumption
  have HA : Hid (∀ k : Nat, True) := fun _ => trivial
  clear HA
  by_cases hl : s.size < 2
  · have HR : Hid (raV d = .tuple #[.int .i64 (-1), .int .i64 1]) := by
      refine raV_bad ?_
      rw [HD.out]
      have h := dec_two s.size (g 0) (g 1) (g 2) (g 3) ⟨hc1, hc2⟩ hb1
      rw [h, if_pos (Or.inl hl)]
    clear HD HB hb1 hb2 hb3
    go_enter Tryd.func82, Tryd.ntmps82
    go_wp2
    go_ret2
    exact ⟨by rw [HR.out]; rfl, rfl⟩
  have hl' : 2 ≤ s.size := by omega
  go_enter Tryd.func82, Tryd.ntmps82
  go_wp2
  go_loop [4, 7] (fun c i => ∃ k : Nat, i = .int .i64 k ∧ Hid ((k = 1 ∧ c = .int .i64 ((g 0 : Int) - 192) ∧ True) ∨ (k = 2 ∧ c = .int .i64 (((g 0 : Int) - 192) * 64 + g 1 - 128) ∧ (128 ≤ g 1 ∧ g 1 < 192)))) (fun _ i => 2 - (intOf i).toNat)
  case atStart => exact ⟨1, rfl, Or.inl ⟨rfl, rfl, trivial⟩⟩
  case round =>
    obtain ⟨k, rfl, hk⟩ := hrel
    rcases hk.out with ⟨rfl, rfl, hct⟩ | ⟨rfl, rfl, hct⟩
    · have hix : ∀ w, (Instr.index 9 (.string s) (.int .i64 1)).run Tryd.prog w = .ok (.int .u8 ((g 1 : Nat) : Int)) w := fun w => HIX.out 1 (by omega) w
      have hbk := HB.out 1 (by omega) (by omega)
      by_cases hq : g 1 < 128
      · have HR : Hid (raV d = .tuple #[.int .i64 (-1), .int .i64 1]) := by
          refine raV_bad ?_
          rw [HD.out]
          have h := dec_two s.size (g 0) (g 1) (g 2) (g 3) ⟨hc1, hc2⟩ hb1
          rw [h, if_pos (by omega)]
        clear HD HB hb1 hb2 hb3 HIX
        go_wp2
        go_ret2
        exact ⟨by rw [HR.out]; rfl, rfl⟩
      by_cases hq2 : 192 ≤ g 1
      · have HR : Hid (raV d = .tuple #[.int .i64 (-1), .int .i64 1]) := by
          refine raV_bad ?_
          rw [HD.out]
          have h := dec_two s.size (g 0) (g 1) (g 2) (g 3) ⟨hc1, hc2⟩ hb1
          rw [h, if_pos (by omega)]
        clear HD HB hb1 hb2 hb3 HIX
        go_wp2
        go_ret2
        exact ⟨by rw [HR.out]; rfl, rfl⟩
      have hq1 : 128 ≤ g 1 := by omega
      have hq3 : g 1 < 192 := by omega
      clear hq hq2 HD HB HIX
      go_wp2
      go_round
      case rel => exact ⟨_, _, _, _, ⟨2, rfl, Or.inr ((by refine ⟨rfl, ?_⟩; first | rfl | (refine ⟨rfl, ?_⟩; omega)))⟩, rfl, rfl, rfl, rfl⟩
      case measure => simp [intOf]
    · generalize hcc : (((g 0 : Int) - 192) * 64 + g 1 - 128) = c at *
      have HCC := hide hcc
      obtain ⟨cn, rfl⟩ : ∃ cn : Nat, c = cn := ⟨c.toNat, by omega⟩
      have HL : Hid (d = if s.size < 2 ∨ (g 1 < 128 ∨ 192 ≤ g 1) then (65533, 1) else ((g 0 - 192) * 64 + (g 1 - 128), 2)) := by
        show _ = _
        rw [HD.out]
        exact dec_two s.size (g 0) (g 1) (g 2) (g 3) ⟨hc1, hc2⟩ hb1
      have HR : Hid (raV d = .tuple #[.int .i64 (cn : Int), .int .i64 2]) := by
        refine raV_ok (k := 2) ?_ (by omega)
        rw [HL.out, if_neg (by omega), show (g 0 - 192) * 64 + (g 1 - 128) = cn from by omega]
      have hv1 : 128 ≤ cn := by omega
      have hv2 : cn ≤ 2047 := by omega
      clear HL HD HB HIX hct hcc
      go_wp2
      go_ret2
      exact ⟨by rw [HR.out]; rfl, rfl⟩

set_option maxRecDepth 20000 in
set_option maxHeartbeats 4000000 in
theorem runeAt_3 (s : ByteArray) (w : World) (h0 : 0 < s.size) (hm : s.size ≤ 9223372036854775807) (hc1 : 224 ≤ (s.get! 0).toNat) (hc2 : (s.get! 0).toNat < 240) :
    Calls Tryd.prog 82 #[.string s] w fun e w' => e = .returned (raV (Utf8.decode s 0)) ∧ w = w' := by
  obtain ⟨g, hg⟩ : ∃ g : Nat → Nat, ∀ k, (s.get! k).toNat = g k := ⟨_, fun _ => rfl⟩
  have hix0 : ∀ w, (Instr.index 9 (.string s) (.int .i64 0)).run Tryd.prog w = .ok (.int .u8 ((g 0 : Nat) : Int)) w := fun w => by rw [← hg 0]; exact index_get s 0 h0 w
  have HIX : Hid (∀ k, k < s.size → ∀ w, (Instr.index 9 (.string s) (.int .i64 (k : Int))).run Tryd.prog w = .ok (.int .u8 ((g k : Nat) : Int)) w) := fun k hk w => by rw [← hg k]; exact index_get s k hk w
  have hb0 : g 0 < 256 := by rw [← hg 0]; exact UInt8.toNat_lt _
  have hb1 : g 1 < 256 := by rw [← hg 1]; exact UInt8.toNat_lt _
  have hb2 : g 2 < 256 := by rw [← hg 2]; exact UInt8.toNat_lt _
  have hb3 : g 3 < 256 := by rw [← hg 3]; exact UInt8.toNat_lt _
  have HD : Hid (Utf8.decode s 0 = decodeN s.size (g 0) (g 1) (g 2) (g 3)) := by show _ = _; rw [← hg 0, ← hg 1, ← hg 2, ← hg 3]; exact decode_at s 0
  generalize Utf8.decode s 0 = d at *
  rw [hg 0] at hc1 hc2
  clear hg
  have HB : Hid ((∀ k, 0 < k → k < 3 → g k < 256)) := by
    intro k hk hk'
    have : k = 1 ∨ k = 2 := by omega
    rcases this with rfl | rfl <;> assumption
  have HA : Hid (∀ k : Nat, True) := fun _ => trivial
  clear HA
  by_cases hl : s.size < 3
  · have HR : Hid (raV d = .tuple #[.int .i64 (-1), .int .i64 1]) := by
      refine raV_bad ?_
      rw [HD.out]
      have h := dec_three s.size (g 0) (g 1) (g 2) (g 3) ⟨hc1, hc2⟩ hb1 hb2 _ (fun _ _ => rfl)
      rw [h, if_pos (Or.inl hl)]
    clear HD HB hb1 hb2 hb3
    go_enter Tryd.func82, Tryd.ntmps82
    go_wp2
    go_ret2
    exact ⟨by rw [HR.out]; rfl, rfl⟩
  have hl' : 3 ≤ s.size := by omega
  go_enter Tryd.func82, Tryd.ntmps82
  go_wp2
  go_loop [4, 7] (fun c i => ∃ k : Nat, i = .int .i64 k ∧ Hid ((k = 1 ∧ c = .int .i64 ((g 0 : Int) - 224) ∧ True) ∨ (k = 2 ∧ c = .int .i64 (((g 0 : Int) - 224) * 64 + g 1 - 128) ∧ (128 ≤ g 1 ∧ g 1 < 192)) ∨ (k = 3 ∧ c = .int .i64 ((((g 0 : Int) - 224) * 64 + g 1 - 128) * 64 + g 2 - 128) ∧ (128 ≤ g 1 ∧ g 1 < 192) ∧ (128 ≤ g 2 ∧ g 2 < 192)))) (fun _ i => 3 - (intOf i).toNat)
  case atStart => exact ⟨1, rfl, Or.inl ⟨rfl, rfl, trivial⟩⟩
  case round =>
    obtain ⟨k, rfl, hk⟩ := hrel
    rcases hk.out with ⟨rfl, rfl, hct⟩ | ⟨rfl, rfl, hct⟩ | ⟨rfl, rfl, hct⟩
    · have hix : ∀ w, (Instr.index 9 (.string s) (.int .i64 1)).run Tryd.prog w = .ok (.int .u8 ((g 1 : Nat) : Int)) w := fun w => HIX.out 1 (by omega) w
      have hbk := HB.out 1 (by omega) (by omega)
      by_cases hq : g 1 < 128
      · have HR : Hid (raV d = .tuple #[.int .i64 (-1), .int .i64 1]) := by
          refine raV_bad ?_
          rw [HD.out]
          have h := dec_three s.size (g 0) (g 1) (g 2) (g 3) ⟨hc1, hc2⟩ hb1 hb2 _ (fun _ _ => rfl)
          rw [h, if_pos (by omega)]
        clear HD HB hb1 hb2 hb3 HIX
        go_wp2
        go_ret2
        exact ⟨by rw [HR.out]; rfl, rfl⟩
      by_cases hq2 : 192 ≤ g 1
      · have HR : Hid (raV d = .tuple #[.int .i64 (-1), .int .i64 1]) := by
          refine raV_bad ?_
          rw [HD.out]
          have h := dec_three s.size (g 0) (g 1) (g 2) (g 3) ⟨hc1, hc2⟩ hb1 hb2 _ (fun _ _ => rfl)
          rw [h, if_pos (by omega)]
        clear HD HB hb1 hb2 hb3 HIX
        go_wp2
        go_ret2
        exact ⟨by rw [HR.out]; rfl, rfl⟩
      have hq1 : 128 ≤ g 1 := by omega
      have hq3 : g 1 < 192 := by omega
      clear hq hq2 HD HB HIX
      go_wp2
      go_round
      case rel => exact ⟨_, _, _, _, ⟨2, rfl, Or.inr (Or.inl (by refine ⟨rfl, ?_⟩; first | rfl | (refine ⟨rfl, ?_⟩; omega)))⟩, rfl, rfl, rfl, rfl⟩
      case measure => simp [intOf]
    · have hix : ∀ w, (Instr.index 9 (.string s) (.int .i64 2)).run Tryd.prog w = .ok (.int .u8 ((g 2 : Nat) : Int)) w := fun w => HIX.out 2 (by omega) w
      have hbk := HB.out 2 (by omega) (by omega)
      by_cases hq : g 2 < 128
      · have HR : Hid (raV d = .tuple #[.int .i64 (-1), .int .i64 1]) := by
          refine raV_bad ?_
          rw [HD.out]
          have h := dec_three s.size (g 0) (g 1) (g 2) (g 3) ⟨hc1, hc2⟩ hb1 hb2 _ (fun _ _ => rfl)
          rw [h, if_pos (by omega)]
        clear HD HB hb1 hb2 hb3 HIX
        go_wp2
        go_ret2
        exact ⟨by rw [HR.out]; rfl, rfl⟩
      by_cases hq2 : 192 ≤ g 2
      · have HR : Hid (raV d = .tuple #[.int .i64 (-1), .int .i64 1]) := by
          refine raV_bad ?_
          rw [HD.out]
          have h := dec_three s.size (g 0) (g 1) (g 2) (g 3) ⟨hc1, hc2⟩ hb1 hb2 _ (fun _ _ => rfl)
          rw [h, if_pos (by omega)]
        clear HD HB hb1 hb2 hb3 HIX
        go_wp2
        go_ret2
        exact ⟨by rw [HR.out]; rfl, rfl⟩
      have hq1 : 128 ≤ g 2 := by omega
      have hq3 : g 2 < 192 := by omega
      clear hq hq2 HD HB HIX
      go_wp2
      go_round
      case rel => exact ⟨_, _, _, _, ⟨3, rfl, Or.inr (Or.inr ((by refine ⟨rfl, ?_⟩; first | rfl | (refine ⟨rfl, ?_⟩; omega))))⟩, rfl, rfl, rfl, rfl⟩
      case measure => simp [intOf]
    · generalize hcc : ((((g 0 : Int) - 224) * 64 + g 1 - 128) * 64 + g 2 - 128) = c at *
      have HCC := hide hcc
      obtain ⟨cn, rfl⟩ : ∃ cn : Nat, c = cn := ⟨c.toNat, by omega⟩
      have HL : Hid (d = if s.size < 3 ∨ (g 1 < 128 ∨ 192 ≤ g 1) ∨ (g 2 < 128 ∨ 192 ≤ g 2) ∨ (cn < 2048 ∨ 1114111 < cn ∨ (55296 ≤ cn ∧ cn < 57344)) then (65533, 1) else (cn, 3)) := by
        show _ = _
        rw [HD.out]
        exact dec_three s.size (g 0) (g 1) (g 2) (g 3) ⟨hc1, hc2⟩ hb1 hb2 cn (fun _ _ => by omega)
      have hcase : cn < 2048 ∨ (2048 ≤ cn ∧ cn < 55296) ∨ (2048 ≤ cn ∧ 55296 ≤ cn ∧ cn < 57344) ∨ (2048 ≤ cn ∧ 57344 ≤ cn ∧ cn ≤ 1114111) := by omega
      rcases hcase with hv | ⟨hv, hv2⟩ | ⟨hv, hv2, hv3⟩ | ⟨hv, hv2, hv3⟩
      · have HR : Hid (raV d = .tuple #[.int .i64 (-1), .int .i64 1]) := by
          refine raV_bad ?_
          rw [HL.out, if_pos (by omega)]
        clear HL HD HB HIX hct hcc
        go_wp2
        go_ret2
        exact ⟨by rw [HR.out]; rfl, rfl⟩
      · have HR : Hid (raV d = .tuple #[.int .i64 (cn : Int), .int .i64 3]) := by
          refine raV_ok (k := 3) ?_ (by omega)
          rw [HL.out, if_neg (by omega)]
        clear HL HD HB HIX hct hcc
        go_wp2
        go_ret2
        exact ⟨by rw [HR.out]; rfl, rfl⟩
      · have HR : Hid (raV d = .tuple #[.int .i64 (-1), .int .i64 1]) := by
          refine raV_bad ?_
          rw [HL.out, if_pos (by omega)]
        clear HL HD HB HIX hct hcc
        go_wp2
        go_ret2
        exact ⟨by rw [HR.out]; rfl, rfl⟩
      · have HR : Hid (raV d = .tuple #[.int .i64 (cn : Int), .int .i64 3]) := by
          refine raV_ok (k := 3) ?_ (by omega)
          rw [HL.out, if_neg (by omega)]
        clear HL HD HB HIX hct hcc
        go_wp2
        go_ret2
        exact ⟨by rw [HR.out]; rfl, rfl⟩

set_option maxRecDepth 20000 in
set_option maxHeartbeats 4000000 in
theorem runeAt_4 (s : ByteArray) (w : World) (h0 : 0 < s.size) (hm : s.size ≤ 9223372036854775807) (hc1 : 240 ≤ (s.get! 0).toNat) (hc2 : (s.get! 0).toNat < 245) :
    Calls Tryd.prog 82 #[.string s] w fun e w' => e = .returned (raV (Utf8.decode s 0)) ∧ w = w' := by
  obtain ⟨g, hg⟩ : ∃ g : Nat → Nat, ∀ k, (s.get! k).toNat = g k := ⟨_, fun _ => rfl⟩
  have hix0 : ∀ w, (Instr.index 9 (.string s) (.int .i64 0)).run Tryd.prog w = .ok (.int .u8 ((g 0 : Nat) : Int)) w := fun w => by rw [← hg 0]; exact index_get s 0 h0 w
  have HIX : Hid (∀ k, k < s.size → ∀ w, (Instr.index 9 (.string s) (.int .i64 (k : Int))).run Tryd.prog w = .ok (.int .u8 ((g k : Nat) : Int)) w) := fun k hk w => by rw [← hg k]; exact index_get s k hk w
  have hb0 : g 0 < 256 := by rw [← hg 0]; exact UInt8.toNat_lt _
  have hb1 : g 1 < 256 := by rw [← hg 1]; exact UInt8.toNat_lt _
  have hb2 : g 2 < 256 := by rw [← hg 2]; exact UInt8.toNat_lt _
  have hb3 : g 3 < 256 := by rw [← hg 3]; exact UInt8.toNat_lt _
  have HD : Hid (Utf8.decode s 0 = decodeN s.size (g 0) (g 1) (g 2) (g 3)) := by show _ = _; rw [← hg 0, ← hg 1, ← hg 2, ← hg 3]; exact decode_at s 0
  generalize Utf8.decode s 0 = d at *
  rw [hg 0] at hc1 hc2
  clear hg
  have HB : Hid ((∀ k, 0 < k → k < 4 → g k < 256)) := by
    intro k hk hk'
    have : k = 1 ∨ k = 2 ∨ k = 3 := by omega
    rcases this with rfl | rfl | rfl <;> assumption
  have HA : Hid (∀ k : Nat, True) := fun _ => trivial
  clear HA
  by_cases hl : s.size < 4
  · have HR : Hid (raV d = .tuple #[.int .i64 (-1), .int .i64 1]) := by
      refine raV_bad ?_
      rw [HD.out]
      have h := dec_four s.size (g 0) (g 1) (g 2) (g 3) ⟨hc1, hc2⟩ hb1 hb2 hb3 _ (fun _ _ _ => rfl)
      rw [h, if_pos (Or.inl hl)]
    clear HD HB hb1 hb2 hb3
    go_enter Tryd.func82, Tryd.ntmps82
    go_wp2
    go_ret2
    exact ⟨by rw [HR.out]; rfl, rfl⟩
  have hl' : 4 ≤ s.size := by omega
  go_enter Tryd.func82, Tryd.ntmps82
  go_wp2
  go_loop [4, 7] (fun c i => ∃ k : Nat, i = .int .i64 k ∧ Hid ((k = 1 ∧ c = .int .i64 ((g 0 : Int) - 240) ∧ True) ∨ (k = 2 ∧ c = .int .i64 (((g 0 : Int) - 240) * 64 + g 1 - 128) ∧ (128 ≤ g 1 ∧ g 1 < 192)) ∨ (k = 3 ∧ c = .int .i64 ((((g 0 : Int) - 240) * 64 + g 1 - 128) * 64 + g 2 - 128) ∧ (128 ≤ g 1 ∧ g 1 < 192) ∧ (128 ≤ g 2 ∧ g 2 < 192)) ∨ (k = 4 ∧ c = .int .i64 (((((g 0 : Int) - 240) * 64 + g 1 - 128) * 64 + g 2 - 128) * 64 + g 3 - 128) ∧ (128 ≤ g 1 ∧ g 1 < 192) ∧ (128 ≤ g 2 ∧ g 2 < 192) ∧ (128 ≤ g 3 ∧ g 3 < 192)))) (fun _ i => 4 - (intOf i).toNat)
  case atStart => exact ⟨1, rfl, Or.inl ⟨rfl, rfl, trivial⟩⟩
  case round =>
    obtain ⟨k, rfl, hk⟩ := hrel
    rcases hk.out with ⟨rfl, rfl, hct⟩ | ⟨rfl, rfl, hct⟩ | ⟨rfl, rfl, hct⟩ | ⟨rfl, rfl, hct⟩
    · have hix : ∀ w, (Instr.index 9 (.string s) (.int .i64 1)).run Tryd.prog w = .ok (.int .u8 ((g 1 : Nat) : Int)) w := fun w => HIX.out 1 (by omega) w
      have hbk := HB.out 1 (by omega) (by omega)
      by_cases hq : g 1 < 128
      · have HR : Hid (raV d = .tuple #[.int .i64 (-1), .int .i64 1]) := by
          refine raV_bad ?_
          rw [HD.out]
          have h := dec_four s.size (g 0) (g 1) (g 2) (g 3) ⟨hc1, hc2⟩ hb1 hb2 hb3 _ (fun _ _ _ => rfl)
          rw [h, if_pos (by omega)]
        clear HD HB hb1 hb2 hb3 HIX
        go_wp2
        go_ret2
        exact ⟨by rw [HR.out]; rfl, rfl⟩
      by_cases hq2 : 192 ≤ g 1
      · have HR : Hid (raV d = .tuple #[.int .i64 (-1), .int .i64 1]) := by
          refine raV_bad ?_
          rw [HD.out]
          have h := dec_four s.size (g 0) (g 1) (g 2) (g 3) ⟨hc1, hc2⟩ hb1 hb2 hb3 _ (fun _ _ _ => rfl)
          rw [h, if_pos (by omega)]
        clear HD HB hb1 hb2 hb3 HIX
        go_wp2
        go_ret2
        exact ⟨by rw [HR.out]; rfl, rfl⟩
      have hq1 : 128 ≤ g 1 := by omega
      have hq3 : g 1 < 192 := by omega
      clear hq hq2 HD HB HIX
      go_wp2
      go_round
      case rel => exact ⟨_, _, _, _, ⟨2, rfl, Or.inr (Or.inl (by refine ⟨rfl, ?_⟩; first | rfl | (refine ⟨rfl, ?_⟩; omega)))⟩, rfl, rfl, rfl, rfl⟩
      case measure => simp [intOf]
    · have hix : ∀ w, (Instr.index 9 (.string s) (.int .i64 2)).run Tryd.prog w = .ok (.int .u8 ((g 2 : Nat) : Int)) w := fun w => HIX.out 2 (by omega) w
      have hbk := HB.out 2 (by omega) (by omega)
      by_cases hq : g 2 < 128
      · have HR : Hid (raV d = .tuple #[.int .i64 (-1), .int .i64 1]) := by
          refine raV_bad ?_
          rw [HD.out]
          have h := dec_four s.size (g 0) (g 1) (g 2) (g 3) ⟨hc1, hc2⟩ hb1 hb2 hb3 _ (fun _ _ _ => rfl)
          rw [h, if_pos (by omega)]
        clear HD HB hb1 hb2 hb3 HIX
        go_wp2
        go_ret2
        exact ⟨by rw [HR.out]; rfl, rfl⟩
      by_cases hq2 : 192 ≤ g 2
      · have HR : Hid (raV d = .tuple #[.int .i64 (-1), .int .i64 1]) := by
          refine raV_bad ?_
          rw [HD.out]
          have h := dec_four s.size (g 0) (g 1) (g 2) (g 3) ⟨hc1, hc2⟩ hb1 hb2 hb3 _ (fun _ _ _ => rfl)
          rw [h, if_pos (by omega)]
        clear HD HB hb1 hb2 hb3 HIX
        go_wp2
        go_ret2
        exact ⟨by rw [HR.out]; rfl, rfl⟩
      have hq1 : 128 ≤ g 2 := by omega
      have hq3 : g 2 < 192 := by omega
      clear hq hq2 HD HB HIX
      go_wp2
      go_round
      case rel => exact ⟨_, _, _, _, ⟨3, rfl, Or.inr (Or.inr (Or.inl (by refine ⟨rfl, ?_⟩; first | rfl | (refine ⟨rfl, ?_⟩; omega))))⟩, rfl, rfl, rfl, rfl⟩
      case measure => simp [intOf]
    · have hix : ∀ w, (Instr.index 9 (.string s) (.int .i64 3)).run Tryd.prog w = .ok (.int .u8 ((g 3 : Nat) : Int)) w := fun w => HIX.out 3 (by omega) w
      have hbk := HB.out 3 (by omega) (by omega)
      by_cases hq : g 3 < 128
      · have HR : Hid (raV d = .tuple #[.int .i64 (-1), .int .i64 1]) := by
          refine raV_bad ?_
          rw [HD.out]
          have h := dec_four s.size (g 0) (g 1) (g 2) (g 3) ⟨hc1, hc2⟩ hb1 hb2 hb3 _ (fun _ _ _ => rfl)
          rw [h, if_pos (by omega)]
        clear HD HB hb1 hb2 hb3 HIX
        go_wp2
        go_ret2
        exact ⟨by rw [HR.out]; rfl, rfl⟩
      by_cases hq2 : 192 ≤ g 3
      · have HR : Hid (raV d = .tuple #[.int .i64 (-1), .int .i64 1]) := by
          refine raV_bad ?_
          rw [HD.out]
          have h := dec_four s.size (g 0) (g 1) (g 2) (g 3) ⟨hc1, hc2⟩ hb1 hb2 hb3 _ (fun _ _ _ => rfl)
          rw [h, if_pos (by omega)]
        clear HD HB hb1 hb2 hb3 HIX
        go_wp2
        go_ret2
        exact ⟨by rw [HR.out]; rfl, rfl⟩
      have hq1 : 128 ≤ g 3 := by omega
      have hq3 : g 3 < 192 := by omega
      clear hq hq2 HD HB HIX
      go_wp2
      go_round
      case rel => exact ⟨_, _, _, _, ⟨4, rfl, Or.inr (Or.inr (Or.inr ((by refine ⟨rfl, ?_⟩; first | rfl | (refine ⟨rfl, ?_⟩; omega)))))⟩, rfl, rfl, rfl, rfl⟩
      case measure => simp [intOf]
    · generalize hcc : (((((g 0 : Int) - 240) * 64 + g 1 - 128) * 64 + g 2 - 128) * 64 + g 3 - 128) = c at *
      have HCC := hide hcc
      obtain ⟨cn, rfl⟩ : ∃ cn : Nat, c = cn := ⟨c.toNat, by omega⟩
      have HL : Hid (d = if s.size < 4 ∨ (g 1 < 128 ∨ 192 ≤ g 1) ∨ (g 2 < 128 ∨ 192 ≤ g 2) ∨ (g 3 < 128 ∨ 192 ≤ g 3) ∨ (cn < 65536 ∨ 1114111 < cn ∨ (55296 ≤ cn ∧ cn < 57344)) then (65533, 1) else (cn, 4)) := by
        show _ = _
        rw [HD.out]
        exact dec_four s.size (g 0) (g 1) (g 2) (g 3) ⟨hc1, hc2⟩ hb1 hb2 hb3 cn (fun _ _ _ => by omega)
      have hcase : cn < 65536 ∨ (65536 ≤ cn ∧ cn ≤ 1114111) ∨ (65536 ≤ cn ∧ 1114111 < cn) := by omega
      rcases hcase with hv | ⟨hv, hv2⟩ | ⟨hv, hv2⟩
      · have HR : Hid (raV d = .tuple #[.int .i64 (-1), .int .i64 1]) := by
          refine raV_bad ?_
          rw [HL.out, if_pos (by omega)]
        clear HL HD HB HIX hct hcc
        go_wp2
        go_ret2
        exact ⟨by rw [HR.out]; rfl, rfl⟩
      · have hv3 : 57344 ≤ cn := by omega
        have HR : Hid (raV d = .tuple #[.int .i64 (cn : Int), .int .i64 4]) := by
          refine raV_ok (k := 4) ?_ (by omega)
          rw [HL.out, if_neg (by omega)]
        clear HL HD HB HIX hct hcc
        go_wp2
        go_ret2
        exact ⟨by rw [HR.out]; rfl, rfl⟩
      · have HR : Hid (raV d = .tuple #[.int .i64 (-1), .int .i64 1]) := by
          refine raV_bad ?_
          rw [HL.out, if_pos (by omega)]
        clear HL HD HB HIX hct hcc
        go_wp2
        go_ret2
        exact ⟨by rw [HR.out]; rfl, rfl⟩

theorem runeAt_any (s : ByteArray) (w : World) (h0 : 0 < s.size) (hm : s.size ≤ 9223372036854775807) :
    Calls Tryd.prog 82 #[.string s] w fun e w' => e = .returned (raV (Utf8.decode s 0)) ∧ w = w' := by
  have hcase : (s.get! 0).toNat < 128 ∨ ((128 ≤ (s.get! 0).toNat ∧ (s.get! 0).toNat < 194) ∨ 245 ≤ (s.get! 0).toNat) ∨ (194 ≤ (s.get! 0).toNat ∧ (s.get! 0).toNat < 224) ∨ (224 ≤ (s.get! 0).toNat ∧ (s.get! 0).toNat < 240) ∨ (240 ≤ (s.get! 0).toNat ∧ (s.get! 0).toNat < 245) := by omega
  rcases hcase with h | h | ⟨h1, h2⟩ | ⟨h1, h2⟩ | ⟨h1, h2⟩
  · exact runeAt_one s w h0 h
  · exact runeAt_none s w h0 h
  · exact runeAt_2 s w h0 hm h1 h2
  · exact runeAt_3 s w h0 hm h1 h2
  · exact runeAt_4 s w h0 hm h1 h2

end Go.Proofs.YtenpkhalgkodbaaDoor

/- Contracts: strings.IndexByte, unicode/utf8.ValidRune, strings.IndexRune at the signs. -/
namespace Go.Proofs.YtenpkhalgkodbaaDoor
open Go.RowKit
set_option maxRecDepth 20000

theorem indexByte_none' : ∀ (l : List UInt8) (c : UInt8), (∀ b ∈ l, b ≠ c) → Go.Lib.indexByte l c = -1
  | [], _, _ => rfl
  | b :: l, c, h => by
    have h1 : (b == c) = false := by rw [beq_eq_false_iff_ne]; exact h b (by simp)
    have h2 := indexByte_none' l c (fun b hb => h b (List.mem_cons_of_mem _ hb))
    simp [Go.Lib.indexByte, h1, h2]

/-- Which sign a rune is; -1: none. -/
def si (c : Nat) : Int := if c < 128 then Go.Lib.indexByte [49, 50, 51, 52, 53, 54, 55, 56, 57, 48, 69, 84] c.toUInt8 else -1

end Go.Proofs.YtenpkhalgkodbaaDoor
