/- Joined: MrB, MrC, MrD, MrL, PPx, Bel, Rd, Rd2, StC, Ins. -/
import Derived.Test.YtfngadfkopfhcaaGreatDoorJ9
import Derived.Test.YtfngadfkopfhcaaGreatDoorJ1
import Derived.Test.YtfngadfkopfhcaaGreatDoorJ0
import Derived.Shelf.Strings.Split
import Derived.Shelf.Strconv.AtoiAll
import Derived.Test.YtfngadfkopfhcaaGreatDoorJ2
import Derived.Test.YtfngadfkopfhcaaGreatDoorJ7
import Derived.Test.YtfngadfkopfhcaaGreatDoorJ4
import Derived.Test.YtfngadfkopfhcaaGreatDoorJ3
import Derived.Shelf.Spec.SlicesInsert
import Derived.Shelf.Spec.SlicesInsertGrow
/- Contracts: method.decimal, the answer's digits. -/
namespace Go.Proofs.YtfngadfkopfhcaaGreatDoor
open Go.RowKit Go.Lib
set_option maxRecDepth 20000
set_option linter.unusedVariables false

theorem dig_at (s : ByteArray) (pos : Nat) (h : pos < s.size) : (48 ≤ (Utf8.decode s pos).1 ∧ (Utf8.decode s pos).1 ≤ 57 ↔ 48 ≤ bt s pos ∧ bt s pos ≤ 57) ∧ (48 ≤ bt s pos ∧ bt s pos ≤ 57 → (Utf8.decode s pos).2 = 1) := by
  have hd := decode_at s pos
  have hl := (s.get! pos).toNat_lt
  obtain ⟨h1, h2⟩ := dec_dig (s.size - pos) (s.get! pos).toNat (s.get! (pos + 1)).toNat (s.get! (pos + 2)).toNat (s.get! (pos + 3)).toNat (by omega) (by omega)
  rw [← hd] at h1 h2
  rw [bt_get2 s h]
  exact ⟨h1, fun h3 => (h2 h3).1⟩

theorem bt_list (s : ByteArray) {k : Nat} (h : k < s.size) : ∃ b, s.data.toList[k]? = some b ∧ b.toNat = bt s k := by
  have h' : k < s.data.toList.length := by rw [Array.length_toList]; exact h
  refine ⟨s.data.toList[k], List.getElem?_eq_getElem h', ?_⟩
  unfold bt
  rw [List.getElem?_eq_getElem h', Option.getD_some]

theorem take_dgt {l : List UInt8} {k : Nat} {b : UInt8} (hb : l[k]? = some b) (h : ∀ x ∈ l.take k, dgt x = true) (hd : dgt b = true) : ∀ x ∈ l.take (k + 1), dgt x = true := by
  rw [List.take_add_one, hb]
  intro x hx
  rcases List.mem_append.1 hx with hx | hx
  · exact h x hx
  · simp at hx; rw [hx]; exact hd

theorem dcm_bad {l : List UInt8} {k : Nat} {b : UInt8} (hb : l[k]? = some b) (hd : dgt b = false) : dcm l = false := by
  unfold dcm
  rw [show l.all dgt = false from by rw [List.all_eq_false]; exact ⟨b, List.mem_of_getElem? hb, by simp [hd]⟩]
  rfl

theorem dcm_all {l : List UInt8} (h : ∀ x ∈ l, dgt x = true) : dcm l = decide (l = [48] ∨ (l ≠ [] ∧ l.headD 0 ≠ 48)) := by
  unfold dcm
  rw [List.all_eq_true.2 h, Bool.true_and]

theorem take_all {s : ByteArray} {k : Nat} (h : s.size ≤ k) : s.data.toList.take k = s.data.toList := List.take_of_length_le (by rw [Array.length_toList]; exact h)

structure DecRel (w wr : World) (s : ByteArray) (pos : Nat) : Prop where
  iter : wr.heap[w.heap.size]? = some (.stringIter s pos)
  all : ∀ x ∈ s.data.toList.take pos, dgt x = true
  size : w.heap.size < wr.heap.size
  below : Below w.heap.size w wr

theorem str_zero (s : ByteArray) (h : 0 < s.size) : (s = ⟨#[48]⟩ ↔ s.size = 1 ∧ bt s 0 = 48) ∧ (s.data.toList = [48] ↔ s.size = 1 ∧ bt s 0 = 48) := by
  have e : (s.data.toList = [48] ↔ s.size = 1 ∧ bt s 0 = 48) := by
    have hl : s.data.toList.length = s.size := by rw [Array.length_toList]; rfl
    unfold bt
    constructor
    · intro h1
      rw [h1] at hl
      exact ⟨hl.symm, by rw [h1]; rfl⟩
    · rintro ⟨h1, h2⟩
      rw [h1] at hl
      obtain ⟨a, ha⟩ := List.length_eq_one_iff.1 hl
      rw [ha] at h2 ⊢
      simp at h2
      rw [show a = 48 from UInt8.toNat_inj.1 h2]
  refine ⟨⟨fun h1 => e.1 (by rw [h1]), fun h1 => ?_⟩, e⟩
  have := e.2 h1
  cases s with
  | mk d => congr 1; apply Array.ext'; exact this

theorem eqs_iff (s t : ByteArray) : (s.toList == t.toList) = decide (s = t) := by
  rw [ByteArray.toList_eq, ByteArray.toList_eq]
  by_cases h : s = t
  · rw [h]; simp
  · rw [decide_eq_false h]
    apply beq_eq_false_iff_ne.2
    intro e
    apply h
    cases s; cases t
    congr 1
    exact Array.ext' e

theorem eqs_t {s t : ByteArray} (h : s = t) : (s.toList == t.toList) = true := by rw [eqs_iff, decide_eq_true h]
theorem eqs_f {s t : ByteArray} (h : s ≠ t) : (s.toList == t.toList) = false := by rw [eqs_iff, decide_eq_false h]
theorem lst1 (s : ByteArray) : (s.toList == [48]) = (s.toList == (⟨#[48]⟩ : ByteArray).toList) := by rw [ByteArray.toList_eq ⟨#[48]⟩]
theorem lst0 (s : ByteArray) : (s.toList == []) = (s.toList == (⟨#[]⟩ : ByteArray).toList) := by rw [ByteArray.toList_eq ⟨#[]⟩]

theorem head_bt (s : ByteArray) : (s.data.toList.headD 0).toNat = bt s 0 := by
  unfold bt
  cases s.data.toList <;> rfl

/-- What is left where all are digits. -/
theorem dcm_end {s : ByteArray} (h : ∀ x ∈ s.data.toList, dgt x = true) : dcm s.data.toList = decide (0 < s.size ∧ (s.size = 1 ∧ bt s 0 = 48 ∨ bt s 0 ≠ 48)) := by
  rw [dcm_all h]
  apply decide_eq_decide.2
  have hl : s.data.toList.length = s.size := by rw [Array.length_toList]; rfl
  rcases Nat.eq_zero_or_pos s.size with h0 | h0
  · have : s.data.toList = [] := List.length_eq_zero_iff.1 (by omega)
    rw [this]; simp; omega
  · have hne : s.data.toList ≠ [] := fun e => by rw [e] at hl; simp at hl; omega
    rw [(str_zero s h0).2, ← head_bt]
    constructor
    · rintro (h1 | ⟨_, h1⟩)
      · exact ⟨h0, Or.inl h1⟩
      · exact ⟨h0, Or.inr (fun e => h1 (UInt8.toNat_inj.1 e))⟩
    · rintro ⟨_, h1 | h1⟩
      · exact Or.inl h1
      · exact Or.inr ⟨hne, fun e => h1 (by rw [e]; rfl)⟩

set_option maxHeartbeats 4000000 in
theorem decimal_any (s : ByteArray) (w : World) (hs : s.size ≤ 9223372036854775807) :
    Calls Tryz.prog 66 #[.string s] w fun e w' => e = .returned (.bool (dcm s.data.toList)) ∧ Below w.heap.size w w' := by
  go_enter Tryz.func66, Tryz.ntmps66
  go_wp2
  go_loopw [2] (fun c wr => ∃ pos, c = .bool false ∧ DecRel w wr s pos) (fun _ wr => s.size - wr.iterPos w.heap.size)
  case atStart => exact ⟨0, rfl, ⟨World.iter_heap w s 0, fun x hx => by simp at hx, by simp [World.iter], below_iter w s 0⟩⟩
  case round =>
    obtain ⟨pos, rfl, hr⟩ := hrel
    by_cases hp : pos < s.size
    · have hnx : ∀ ty, (Instr.next (.pointer (some ⟨w.heap.size, 0, none⟩)) true ty).run Tryz.prog wr = .ok (.tuple #[.bool true, .int .i64 (pos : Int), .int .i32 (((Utf8.decode s pos).1 : Nat) : Int)]) (wr.iterAt w.heap.size s (pos + (Utf8.decode s pos).2)) := by
        intro ty
        exact run_next_any_at wr w.heap.size s pos ty hr.iter hp
      obtain ⟨hd1, hd2⟩ := dig_at s pos hp
      obtain ⟨bb, hbb, hbt⟩ := bt_list s hp
      have hdg : dgt bb = true ↔ 48 ≤ bt s pos ∧ bt s pos ≤ 57 := by unfold dgt; rw [hbt]; exact decide_eq_true_iff
      have HIt := hide (iterAt_heap wr w.heap.size s pos (pos + (Utf8.decode s pos).2) hr.iter)
      have HI := hide (iterPos_of hr.iter)
      have hbw := hide (below_iterAt hr.below (Nat.le_refl _) s (pos + (Utf8.decode s pos).2))
      have HA := hide hr.all
      have HSz : Hid (w.heap.size < (wr.iterAt w.heap.size s (pos + (Utf8.decode s pos).2)).heap.size) := by show _ < _; rw [iterAt_size]; exact hr.size
      clear hr
      by_cases hin : 48 ≤ (Utf8.decode s pos).1 ∧ (Utf8.decode s pos).1 ≤ 57
      · have HW := hide (hd2 (hd1.1 hin))
        have HAA := hide (take_dgt hbb HA.out (hdg.2 (hd1.1 hin)))
        obtain ⟨hi1, hi2⟩ := hin
        clear hd1 hd2 hbb hbt hdg
        generalize (Utf8.decode s pos).1 = r at *
        generalize (Utf8.decode s pos).2 = n at *
        have q1 : ¬ (r : Int) < 48 := by omega
        have q2 : ¬ 57 < (r : Int) := by omega
        go_wp2
        go_roundw
        case rel => exact ⟨pos + n, rfl, ⟨HIt.out, by rw [HW.out]; exact HAA.out, HSz.out, hbw.out⟩⟩
        case measure => rw [HI.out, iterPos_of HIt.out]; have := HW.out; omega
      · have HF : Hid (dcm s.data.toList = false) := dcm_bad hbb (by cases h9 : dgt bb with | false => rfl | true => exact absurd (hd1.2 (hdg.1 h9)) hin)
        clear hd1 hd2 hbb hbt hdg
        generalize (Utf8.decode s pos).1 = r at *
        generalize (Utf8.decode s pos).2 = n at *
        by_cases q1 : (r : Int) < 48
        · go_wp2
          go_ret
          exact ⟨ret_bool HF.out.symm, hbw.out⟩
        · have q2 : 57 < (r : Int) := by omega
          go_wp2
          go_ret
          exact ⟨ret_bool HF.out.symm, hbw.out⟩
    · have hnx := fun ty => run_next_end_at (P := Tryz.prog) wr w.heap.size s pos ty hr.iter hp
      have HA : Hid (dcm s.data.toList = decide (0 < s.size ∧ (s.size = 1 ∧ bt s 0 = 48 ∨ bt s 0 ≠ 48))) := dcm_end (by have := hr.all; rw [take_all (by omega)] at this; exact this)
      have hbw := hr.below
      clear hr hp
      by_cases h0 : 0 < s.size
      · have hz := (str_zero s h0).1
        have hb0 := bt_get h0
        have hne : Hid (s ≠ ⟨#[]⟩) := fun e => by rw [e] at h0; exact absurd h0 (by decide)
        by_cases h1 : s = ⟨#[48]⟩
        · have hv : Hid (dcm s.data.toList = true) := by show _ = _; rw [HA.out]; exact decide_eq_true ⟨h0, Or.inl (hz.1 h1)⟩
          have t1 := eqs_t h1
          have t1' := (lst1 s).trans t1
          clear hz hb0 HA
          go_wp2
          go_ret
          exact ⟨ret_bool hv.out.symm, hbw⟩
        · have t1 := eqs_f h1
          have t1' := (lst1 s).trans t1
          have t2 := eqs_f hne.out
          have t2' := (lst0 s).trans t2
          generalize hq : (s[0]'h0).toNat = b0 at *
          by_cases h2 : b0 = 48
          · have hv : Hid (dcm s.data.toList = false) := by show _ = _; rw [HA.out]; exact decide_eq_false (by rintro ⟨_, h3 | h3⟩; exact h1 (hz.2 h3); exact h3 (by omega))
            have hn0 : (((s[0]'h0).toNat : Int) != 48) = false := by rw [hq, h2]; rfl
            clear hz hb0 HA hq h2
            go_wp2
            go_ret
            exact ⟨ret_bool hv.out.symm, hbw⟩
          · have hv : Hid (dcm s.data.toList = true) := by show _ = _; rw [HA.out]; exact decide_eq_true ⟨h0, Or.inr (by omega)⟩
            have hn0 : (((s[0]'h0).toNat : Int) != 48) = true := by rw [hq, bne_iff_ne]; omega
            clear hz hb0 HA hq h2
            go_wp2
            go_ret
            exact ⟨ret_bool hv.out.symm, hbw⟩
      · have hv : Hid (dcm s.data.toList = false) := by show _ = _; rw [HA.out]; exact decide_eq_false (by omega)
        have hse : s = ⟨#[]⟩ := by
          cases s with
          | mk d => congr 1; exact Array.size_eq_zero_iff.1 (by have : d.size = (⟨d⟩ : ByteArray).size := rfl; omega)
        have t1 := eqs_f (s := s) (t := ⟨#[48]⟩) (by rw [hse]; decide)
        have t1' := (lst1 s).trans t1
        have t2 := eqs_t hse
        have t2' := (lst0 s).trans t2
        clear hse
        go_wp2
        go_ret
        exact ⟨ret_bool hv.out.symm, hbw⟩

end Go.Proofs.YtfngadfkopfhcaaGreatDoor

/- Contracts: the answer's digits. -/
namespace Go.Proofs.YtfngadfkopfhcaaGreatDoor
open Go.RowKit
set_option maxRecDepth 20000
set_option linter.unusedVariables false

/-- What the answer says of a text as a number. -/
def dgE (l : List UInt8) : Int := if dcm l = true then ((capF 0 l : Nat) : Int) else -1

theorem capF_succ {l : List UInt8} {k : Nat} {b : UInt8} (hb : l[k]? = some b) (a : Nat) : capF a (l.take (k + 1)) = min (capF a (l.take k) * 10 + (b.toNat - 48)) 1000000000 := by
  rw [List.take_add_one, hb]
  unfold capF
  rw [List.foldl_append]
  rfl

theorem capF_le (l : List UInt8) : ∀ a, a ≤ 1000000000 → capF a l ≤ 1000000000 := by
  induction l with
  | nil => intro a h; exact h
  | cons b l ih => intro a h; exact ih _ (Nat.min_le_right _ _)

end Go.Proofs.YtfngadfkopfhcaaGreatDoor

/- Contract: the answer's cutAt. -/
namespace Go.Proofs.YtfngadfkopfhcaaGreatDoor
open Go.RowKit
set_option maxRecDepth 20000
set_option linter.unusedVariables false

theorem infoStr : (Tryz.prog.info? 9).map (fun i => (i.zero, i.size, i.bytes)) = some (some (.string ByteArray.empty), 1, 16) := by kernel_rfl

/-- Texts as values. -/
def sVals (l : List ByteArray) : List Value := l.map Value.string

/-- How far a text is cut: the pieces so far, where the next one begins, no cut in it yet. -/
structure CutRel (s : ByteArray) (out : List ByteArray) (last i : Nat) : Prop where
  le : last ≤ i
  hi : i ≤ s.size
  eq : cutB s = out ++ (cutL (s.data.toList.drop last)).map (fun l => ⟨l.toArray⟩)
  no : ∀ x ∈ (s.data.toList.drop last).take (i - last), x ≠ 124
  len : out.length ≤ last

theorem ext_list (s : ByteArray) (a b : Nat) (h : a ≤ b) (hb : b ≤ s.size) : s.extract a b = ⟨((s.data.toList.drop a).take (b - a)).toArray⟩ := by
  have h1 : (s.extract a b).data.toList = (s.data.toList.drop a).take (b - a) := by
    rw [Go.Lib.extract_data]
  cases hx : s.extract a b with
  | mk d => rw [hx] at h1; congr 1; apply Array.ext'; rw [← h1]

theorem CutRel.start (s : ByteArray) : CutRel s [] 0 0 := ⟨Nat.le_refl _, Nat.zero_le _, by simp [cutB], fun x hx => by simp at hx, Nat.le_refl _⟩

theorem CutRel.go {s : ByteArray} {out : List ByteArray} {last i : Nat} (h : CutRel s out last i) (hi : i < s.size) (hb : bt s i ≠ 124) : CutRel s out last (i + 1) := by
  obtain ⟨b, hbb, hbt⟩ := bt_list s hi
  refine ⟨by have := h.le; omega, hi, h.eq, fun x hx => ?_, h.len⟩
  rw [show i + 1 - last = (i - last) + 1 from by have := h.le; omega, List.take_add_one] at hx
  rcases List.mem_append.1 hx with hx | hx
  · exact h.no x hx
  · rw [List.getElem?_drop, show last + (i - last) = i from by have := h.le; omega, hbb] at hx
    simp at hx
    subst hx
    intro e
    rw [e] at hbt
    exact hb hbt.symm

theorem CutRel.hit {s : ByteArray} {out : List ByteArray} {last i : Nat} (h : CutRel s out last i) (hi : i < s.size) (hb : bt s i = 124) : CutRel s (out ++ [s.extract last i]) (i + 1) (i + 1) := by
  obtain ⟨b, hbb, hbt⟩ := bt_list s hi
  have hle := h.le
  refine ⟨Nat.le_refl _, hi, ?_, fun x hx => by simp at hx, by rw [List.length_append]; have := h.len; simp; omega⟩
  have e : s.data.toList.drop last = (s.data.toList.drop last).take (i - last) ++ 124 :: s.data.toList.drop (i + 1) := by
    have h1 := (List.take_append_drop (i - last) (s.data.toList.drop last)).symm
    rw [List.drop_drop, show last + (i - last) = i from by omega] at h1
    have hl : i < s.data.toList.length := by rw [Array.length_toList]; exact hi
    rw [List.drop_eq_getElem_cons hl] at h1
    rw [List.getElem?_eq_getElem hl] at hbb
    have hb1 : s.data.toList[i] = 124 := by
      have := Option.some.inj hbb
      rw [this]
      exact UInt8.toNat_inj.1 (by rw [hbt, hb]; rfl)
    rw [hb1] at h1
    exact h1
  rw [h.eq, e, cutL_hit _ _ h.no, ext_list s last i hle (by omega), List.map_cons, List.append_assoc]
  rfl

theorem CutRel.done {s : ByteArray} {out : List ByteArray} {last : Nat} (h : CutRel s out last s.size) : cutB s = out ++ [s.extract last s.size] := by
  have hle := h.le
  have e : (s.data.toList.drop last).take (s.size - last) = s.data.toList.drop last := List.take_of_length_le (by rw [List.length_drop, Array.length_toList]; exact Nat.le_refl _)
  have hno := h.no
  rw [e] at hno
  rw [h.eq, cutL_miss _ hno, ext_list s last s.size hle (Nat.le_refl _), e]
  rfl

structure CutW (w wr : World) (s : ByteArray) (v : Value) (out : List ByteArray) : Prop where
  own : wr.ownsRow w.heap.size 9 1 v out.length (sVals out)
  below : Below w.heap.size w wr

end Go.Proofs.YtfngadfkopfhcaaGreatDoor

/- strings.Split and strconv.Atoi off the library's shelf: what they lean on. -/
namespace Go.Proofs.YtfngadfkopfhcaaGreatDoor
open Go.RowKit Go.Shelf
set_option maxRecDepth 100000
set_option linter.unusedVariables false

def rnL : Go.Shelf.Ren := ⟨fun | 129 => 102 | 138 => 88 | 143 => 89 | 146 => 65 | 171 => 36 | 172 => 67 | 195 => 106 | 197 => 107 | 205 => 112 | 217 => 123 | 218 => 108 | 219 => 109 | 221 => 75 | 224 => 115 | 225 => 116 | 243 => 59 | 244 => 76 | 245 => 77 | 246 => 74 | 247 => 90 | 260 => 122 | 266 => 129 | 267 => 124 | 268 => 87 | 279 => 91 | 280 => 92 | 281 => 93 | 282 => 94 | 283 => 83 | 284 => 84 | 285 => 85 | 286 => 86 | 287 => 110 | 314 => 130 | 316 => 111 | 317 => 101 | 318 => 103 | 319 => 104 | 320 => 105 | 321 => 125 | 322 => 126 | 337 => 120 | 338 => 121 | n => n,
  fun | 0 => 0 | 2 => 2 | 3 => 3 | 4 => 4 | 5 => 5 | 9 => 9 | 20 => 20 | 21 => 21 | 31 => 66 | 37 => 82 | 46 => 134 | 51 => 132 | 53 => 111 | 75 => 88 | 76 => 89 | 80 => 91 | 85 => 119 | 105 => 137 | 119 => 156 | 127 => 98 | 138 => 158 | 139 => 159 | 143 => 150 | 145 => 152 | 146 => 160 | 167 => 118 | 168 => 121 | 171 => 110 | 173 => 114 | 175 => 140 | 210 => 144 | 212 => 131 | 213 => 133 | 232 => 154 | 233 => 155 | n => n, fun | 1 => 0 | 3 => 6 | 4 => 7 | 15 => 2 | 16 => 3 | 17 => 1 | 18 => 4 | 19 => 5 | n => n⟩

theorem laysSp : Go.Proofs.Lays.n146 Tryz.prog rnL where
  mixed := by kernel_rfl
  f138 := by kernel_rfl
  f143 := by kernel_rfl
  f146 := by kernel_rfl
  f195 := by kernel_rfl
  f197 := by kernel_rfl
  f217 := by kernel_rfl
  f218 := by kernel_rfl
  f219 := by kernel_rfl
  f221 := by kernel_rfl
  f224 := by kernel_rfl
  f225 := by kernel_rfl
  f260 := by kernel_rfl
  f266 := by kernel_rfl
  f267 := by kernel_rfl
  f268 := by kernel_rfl
  f314 := by kernel_rfl
  t0 := by kernel_rfl
  a0 := fun w => by kernel_rfl
  z0 := fun w => by kernel_rfl
  v0 := fun w => by kernel_rfl
  t3 := by kernel_rfl
  a3 := fun w => by kernel_rfl
  z3 := fun w => by kernel_rfl
  v3 := fun w => by kernel_rfl
  t4 := by kernel_rfl
  a4 := fun w => by kernel_rfl
  z4 := fun w => by kernel_rfl
  v4 := fun w => by kernel_rfl
  t5 := by kernel_rfl
  a5 := fun w => by kernel_rfl
  z5 := fun w => by kernel_rfl
  v5 := fun w => by kernel_rfl
  t9 := by kernel_rfl
  a9 := fun w => by kernel_rfl
  z9 := fun w => by kernel_rfl
  v9 := fun w => by kernel_rfl
  t21 := by kernel_rfl
  a21 := fun w => by kernel_rfl
  z21 := fun w => by kernel_rfl
  v21 := fun w => by kernel_rfl
  t31 := by kernel_rfl
  a31 := fun w => by kernel_rfl
  z31 := fun w => by kernel_rfl
  v31 := fun w => by kernel_rfl
  t46 := by kernel_rfl
  a46 := fun w => by kernel_rfl
  z46 := fun w => by kernel_rfl
  v46 := fun w => by kernel_rfl
  t51 := by kernel_rfl
  a51 := fun w => by kernel_rfl
  z51 := fun w => by kernel_rfl
  v51 := fun w => by kernel_rfl
  t105 := by kernel_rfl
  a105 := fun w => by kernel_rfl
  z105 := fun w => by kernel_rfl
  v105 := fun w => by kernel_rfl
  t119 := by kernel_rfl
  a119 := fun w => by kernel_rfl
  z119 := fun w => by kernel_rfl
  t138 := by kernel_rfl
  a138 := fun w => by kernel_rfl
  z138 := fun w => by kernel_rfl
  v138 := fun w => by kernel_rfl
  t139 := by kernel_rfl
  a139 := fun w => by kernel_rfl
  z139 := fun w => by kernel_rfl
  v139 := fun w => by kernel_rfl
  t146 := by kernel_rfl
  a146 := fun w => by kernel_rfl
  z146 := fun w => by kernel_rfl
  v146 := fun w => by kernel_rfl
  g1 := by kernel_rfl
  g3 := by kernel_rfl
  g4 := by kernel_rfl

theorem laysAt : Go.Proofs.LaysC.n172 Tryz.prog rnL where
  mixed := by kernel_rfl
  f129 := by kernel_rfl
  f171 := by kernel_rfl
  f172 := by kernel_rfl
  f205 := by kernel_rfl
  f243 := by kernel_rfl
  f244 := by kernel_rfl
  f245 := by kernel_rfl
  f246 := by kernel_rfl
  f247 := by kernel_rfl
  f279 := by kernel_rfl
  f280 := by kernel_rfl
  f281 := by kernel_rfl
  f282 := by kernel_rfl
  f283 := by kernel_rfl
  f284 := by kernel_rfl
  f285 := by kernel_rfl
  f286 := by kernel_rfl
  f287 := by kernel_rfl
  f316 := by kernel_rfl
  f317 := by kernel_rfl
  f318 := by kernel_rfl
  f319 := by kernel_rfl
  f320 := by kernel_rfl
  f321 := by kernel_rfl
  f322 := by kernel_rfl
  f337 := by kernel_rfl
  f338 := by kernel_rfl
  t0 := by kernel_rfl
  a0 := fun w => by kernel_rfl
  z0 := fun w => by kernel_rfl
  v0 := fun w => by kernel_rfl
  t2 := by kernel_rfl
  a2 := fun w => by kernel_rfl
  z2 := fun w => by kernel_rfl
  v2 := fun w => by kernel_rfl
  t3 := by kernel_rfl
  a3 := fun w => by kernel_rfl
  z3 := fun w => by kernel_rfl
  v3 := fun w => by kernel_rfl
  t4 := by kernel_rfl
  a4 := fun w => by kernel_rfl
  z4 := fun w => by kernel_rfl
  v4 := fun w => by kernel_rfl
  t5 := by kernel_rfl
  a5 := fun w => by kernel_rfl
  z5 := fun w => by kernel_rfl
  v5 := fun w => by kernel_rfl
  t9 := by kernel_rfl
  a9 := fun w => by kernel_rfl
  z9 := fun w => by kernel_rfl
  v9 := fun w => by kernel_rfl
  t20 := by kernel_rfl
  a20 := fun w => by kernel_rfl
  z20 := fun w => by kernel_rfl
  v20 := fun w => by kernel_rfl
  t21 := by kernel_rfl
  a21 := fun w => by kernel_rfl
  z21 := fun w => by kernel_rfl
  v21 := fun w => by kernel_rfl
  t37 := by kernel_rfl
  a37 := fun w => by kernel_rfl
  z37 := fun w => by kernel_rfl
  v37 := fun w => by kernel_rfl
  t46 := by kernel_rfl
  a46 := fun w => by kernel_rfl
  z46 := fun w => by kernel_rfl
  v46 := fun w => by kernel_rfl
  t51 := by kernel_rfl
  a51 := fun w => by kernel_rfl
  z51 := fun w => by kernel_rfl
  v51 := fun w => by kernel_rfl
  t53 := by kernel_rfl
  a53 := fun w => by kernel_rfl
  z53 := fun w => by kernel_rfl
  v53 := fun w => by kernel_rfl
  t75 := by kernel_rfl
  a75 := fun w => by kernel_rfl
  z75 := fun w => by kernel_rfl
  v75 := fun w => by kernel_rfl
  t76 := by kernel_rfl
  a76 := fun w => by kernel_rfl
  z76 := fun w => by kernel_rfl
  v76 := fun w => by kernel_rfl
  t85 := by kernel_rfl
  a85 := fun w => by kernel_rfl
  z85 := fun w => by kernel_rfl
  v85 := fun w => by kernel_rfl
  t127 := by kernel_rfl
  a127 := fun w => by kernel_rfl
  z127 := fun w => by kernel_rfl
  v127 := fun w => by kernel_rfl
  t143 := by kernel_rfl
  a143 := fun w => by kernel_rfl
  z143 := fun w => by kernel_rfl
  v143 := fun w => by kernel_rfl
  t145 := by kernel_rfl
  a145 := fun w => by kernel_rfl
  z145 := fun w => by kernel_rfl
  v145 := fun w => by kernel_rfl
  t167 := by kernel_rfl
  a167 := fun w => by kernel_rfl
  z167 := fun w => by kernel_rfl
  v167 := fun w => by kernel_rfl
  t168 := by kernel_rfl
  a168 := fun w => by kernel_rfl
  z168 := fun w => by kernel_rfl
  v168 := fun w => by kernel_rfl
  t171 := by kernel_rfl
  a171 := fun w => by kernel_rfl
  z171 := fun w => by kernel_rfl
  v171 := fun w => by kernel_rfl
  t173 := by kernel_rfl
  a173 := fun w => by kernel_rfl
  z173 := fun w => by kernel_rfl
  v173 := fun w => by kernel_rfl
  t175 := by kernel_rfl
  a175 := fun w => by kernel_rfl
  z175 := fun w => by kernel_rfl
  v175 := fun w => by kernel_rfl
  t210 := by kernel_rfl
  a210 := fun w => by kernel_rfl
  z210 := fun w => by kernel_rfl
  v210 := fun w => by kernel_rfl
  t212 := by kernel_rfl
  a212 := fun w => by kernel_rfl
  z212 := fun w => by kernel_rfl
  v212 := fun w => by kernel_rfl
  t213 := by kernel_rfl
  a213 := fun w => by kernel_rfl
  z213 := fun w => by kernel_rfl
  t232 := by kernel_rfl
  a232 := fun w => by kernel_rfl
  z232 := fun w => by kernel_rfl
  v232 := fun w => by kernel_rfl
  t233 := by kernel_rfl
  a233 := fun w => by kernel_rfl
  z233 := fun w => by kernel_rfl
  v233 := fun w => by kernel_rfl
  g15 := by kernel_rfl
  g16 := by kernel_rfl
  g17 := by kernel_rfl
  g18 := by kernel_rfl
  g19 := by kernel_rfl
  t80 := by kernel_rfl
  a80 := fun w => by kernel_rfl
  z80 := fun w => by kernel_rfl
  v80 := fun w => by kernel_rfl
  i0 := by kernel_rfl
  i2 := by kernel_rfl
  i3 := by kernel_rfl
  i4 := by kernel_rfl
  i5 := by kernel_rfl
  i9 := by kernel_rfl
  i20 := by kernel_rfl
  i21 := by kernel_rfl
  i37 := by kernel_rfl
  i46 := by kernel_rfl
  i51 := by kernel_rfl
  i53 := by kernel_rfl
  i75 := by kernel_rfl
  i76 := by kernel_rfl
  i80 := by kernel_rfl
  i85 := by kernel_rfl
  i127 := by kernel_rfl
  i143 := by kernel_rfl
  i145 := by kernel_rfl
  i167 := by kernel_rfl
  i168 := by kernel_rfl
  i171 := by kernel_rfl
  i173 := by kernel_rfl
  i175 := by kernel_rfl
  i210 := by kernel_rfl
  i212 := by kernel_rfl
  i232 := by kernel_rfl
  i233 := by kernel_rfl
  m15 := by kernel_rfl
  m16 := by kernel_rfl
  m17 := by kernel_rfl
  m18 := by kernel_rfl
  m19 := by kernel_rfl
  c0 := by kernel_rfl
  c2 := by kernel_rfl
  c3 := by kernel_rfl
  c4 := by kernel_rfl
  c5 := by kernel_rfl
  c9 := by kernel_rfl
  c20 := by kernel_rfl
  c21 := by kernel_rfl
  c37 := by kernel_rfl
  c46 := by kernel_rfl
  c51 := by kernel_rfl
  c53 := by kernel_rfl
  c75 := by kernel_rfl
  c76 := by kernel_rfl
  c80 := by kernel_rfl
  c85 := by kernel_rfl
  c127 := by kernel_rfl
  c143 := by kernel_rfl
  c145 := by kernel_rfl
  c167 := by kernel_rfl
  c168 := by kernel_rfl
  c171 := by kernel_rfl
  c173 := by kernel_rfl
  c175 := by kernel_rfl
  c210 := by kernel_rfl
  c212 := by kernel_rfl
  c213 := by kernel_rfl
  c232 := by kernel_rfl
  c233 := by kernel_rfl


end Go.Proofs.YtfngadfkopfhcaaGreatDoor

/- Contract: the answer's ParsePlaces, where it refuses at once. -/
namespace Go.Proofs.YtfngadfkopfhcaaGreatDoor
open Go.RowKit

end Go.Proofs.YtfngadfkopfhcaaGreatDoor

/- Blocks ahead of one, and iterators, stay. -/
namespace Go.Proofs.YtfngadfkopfhcaaGreatDoor
open Go.RowKit

/-- Iterators stay as they are. -/
def Iters (w w' : World) : Prop := ∀ (k : Nat) (s : ByteArray) (p : Nat), w.heap[k]? = some (.stringIter s p) → w'.heap[k]? = some (.stringIter s p)

/-- Blocks ahead of R, and iterators, stay as they are. -/
structure Bel (R : Nat) (w w' : World) : Prop where
  below : Below R w w'
  iters : Iters w w'

theorem Bel.refl (R : Nat) (w : World) : Bel R w w := ⟨Below.refl _ _, fun _ _ _ h => h⟩
theorem Bel.trans {R : Nat} {a b c : World} (h1 : Bel R a b) (h2 : Bel R b c) : Bel R a c := ⟨h1.below.trans h2.below, fun k s p h => h2.iters k s p (h1.iters k s p h)⟩
theorem Bel.setCell {R : Nat} {a w : World} (h : Bel R a w) {p : Addr} (hp : R ≤ p.block) (v : Value) : Bel R a (w.setCell p v) := by
  refine ⟨h.below.setCell hp v, fun k s q hk => ?_⟩
  have h1 := h.iters k s q hk
  simp only [World.setCell, Array.getElem?_modify]
  split
  · rw [h1]; rfl
  · exact h1
theorem Bel.of {R : Nat} {w w' : World} (h : Below w.heap.size w w') (hR : R ≤ w.heap.size) : Bel R w w' := by
  refine ⟨h.mono hR, fun k s p hk => ?_⟩
  rw [h.block k (Array.getElem?_eq_some_iff.1 hk).1]
  exact hk
theorem Bel.alloc {R : Nat} {a w : World} (h : Bel R a w) (hs : R ≤ w.heap.size) (o : Obj) : Bel R a (w.alloc o) := h.trans (Bel.of ((Below.refl _ _).alloc (Nat.le_refl _) o) hs)
theorem Bel.drew {R : Nat} {a w : World} (h : Bel R a w) : Bel R a w.drew := ⟨h.below.drew, h.iters⟩
theorem Bel.grown {w w2 : World} {R D k : Nat} {u : Value} {us : List Value} {e : TypeId} (hu : w.ownsRow D e 1 u k us) (hR : R + 1 ≤ D) (hl : R ≤ w.heap.size) (hg : w.grownBy w2 u.ownBlock) : Bel R w w2 := by
  refine ⟨⟨hg.os, hg.tape, hg.output, hg.size, fun j hj => hg.block j (by omega) (fun e => by have := (hu.lt j e.symm).1; omega)⟩, fun j s p hj => ?_⟩
  rw [hg.block j (Array.getElem?_eq_some_iff.1 hj).1 (fun e => ?_)]
  · exact hj
  · rcases hu.2 with ⟨rfl, _⟩ | ⟨g, cap, cur, rfl, _, hh, _⟩
    · cases e
    · have : j = g := Option.some.inj e
      subst this
      rw [hj] at hh
      cases hh

end Go.Proofs.YtfngadfkopfhcaaGreatDoor

/- A reader of changes in memory; contracts: needRoom, needChange, mark, add. -/
namespace Go.Proofs.YtfngadfkopfhcaaGreatDoor
open Go.RowKit

/-- A fault that is thrown. -/
def thrown (k : Int) : Ending := .panicked [{ v := .iface 102 (.int .i64 k), recovered := false }]

/-- A reader in memory. -/
structure RdAt (w : World) (R D : Nat) (n : Int) (av bv ov : Value) (avs bvs : List Value) (st : RS) : Prop where
  blk : w.heap[R]? = some (.cells #[.int .i64 n, av, bv, .bool st.marked, .bool st.mirrored, ov, .bool st.dot] 105)
  all : LL w (R + 1) av avs st.all
  block : LL w (R + 1) bv bvs st.block
  opn : w.ownsRow D 3 1 ov st.opn.length (st.opn.map (Value.int .i64))
  inner : ∀ u, u ∈ avs ++ bvs → ∀ b, u.ownBlock = some b → b < D
  sep : av.ownBlock = none ∨ av.ownBlock ≠ bv.ownBlock
  low : R + 1 ≤ D
  high : D ≤ w.heap.size
  nilo : st.opn = [] → ov = .slice none 0 0

/-- .. somewhere. -/
def Rd (w : World) (R : Nat) (n : Int) (st : RS) : Prop := ∃ D av bv ov avs bvs, RdAt w R D n av bv ov avs bvs st

theorem RdAt.lt {w : World} {R D : Nat} {n : Int} {av bv ov : Value} {avs bvs : List Value} {st : RS} (h : RdAt w R D n av bv ov avs bvs st) : R < w.heap.size := (Array.getElem?_eq_some_iff.1 h.blk).1

theorem cells7 {w : World} {R : Nat} {a b c d e f g : Value} {t : TypeId} (h : w.heap[R]? = some (.cells #[a, b, c, d, e, f, g] t)) :
    w.cell? ⟨R, 0, none⟩ = some a ∧ w.cell? ⟨R, 1, none⟩ = some b ∧ w.cell? ⟨R, 2, none⟩ = some c ∧ w.cell? ⟨R, 3, none⟩ = some d ∧ w.cell? ⟨R, 4, none⟩ = some e ∧ w.cell? ⟨R, 5, none⟩ = some f ∧ w.cell? ⟨R, 6, none⟩ = some g := by
  simp [World.cell?, h]

theorem frozen7 {w : World} {R : Nat} {c : Array Value} {t : TypeId} (h : w.heap[R]? = some (.cells c t)) (j : Nat) : w.frozen? ⟨R, j, none⟩ = false := by
  simp [World.frozen?, h]

theorem heap_set7 {w : World} {R j : Nat} {c : Array Value} {t : TypeId} {x : Value} (h : w.heap[R]? = some (.cells c t)) : (w.setCell ⟨R, j, none⟩ x).heap[R]? = some (.cells (c.setIfInBounds j x) t) := by
  simp [World.setCell, Array.getElem?_modify, h]

theorem LL.setR {w : World} {R j : Nat} {v x : Value} {vs : List Value} {xss : List (List Int)} (h : LL w (R + 1) v vs xss) : LL (w.setCell ⟨R, j, none⟩ x) (R + 1) v vs xss :=
  ⟨ownsRow_setCell_below h.row (by exact Nat.lt_succ_self R) _, h.all.mono (fun _ _ _ h' => ownsRow_setCell_below h' (by exact Nat.lt_succ_self R) _)⟩

section
variable {w : World} {R D : Nat} {n : Int} {av bv ov : Value} {avs bvs : List Value} {st : RS}

/-- One of its flags is set. -/
theorem RdAt.flags (h : RdAt w R D n av bv ov avs bvs st) (a b c : Bool) (j : Nat) (x : Value)
    (hx : (#[.int .i64 n, av, bv, .bool st.marked, .bool st.mirrored, ov, .bool st.dot] : Array Value).setIfInBounds j x = #[.int .i64 n, av, bv, .bool a, .bool b, ov, .bool c]) :
    RdAt (w.setCell ⟨R, j, none⟩ x) R D n av bv ov avs bvs { st with marked := a, mirrored := b, dot := c } :=
  ⟨by rw [heap_set7 h.blk, hx], h.all.setR, h.block.setR, ownsRow_setCell_below h.opn (by exact h.low) _, h.inner, h.sep, h.low, by simp [World.setCell]; exact h.high, h.nilo⟩

theorem LL.lt {w : World} {base : Nat} {v : Value} {vs : List Value} {xss : List (List Int)} (h : LL w base v vs xss) : ∀ u, u ∈ vs → ∀ b, u.ownBlock = some b → b < w.heap.size := by
  have ha := h.all
  clear h
  intro u hu b hb
  induction vs generalizing xss with
  | nil => cases hu
  | cons x xs ih =>
    cases xss with
    | nil => exact ha.elim
    | cons y ys =>
      rcases List.mem_cons.1 hu with rfl | hu
      · exact (ha.1.lt b hb).2
      · exact ih ha.2 hu

/-- The signs are taken out. -/
theorem RdAt.shut (h : RdAt w R D n av bv ov avs bvs st) : RdAt (w.setCell ⟨R, 5, none⟩ (.slice none 0 0)) R w.heap.size n av bv (.slice none 0 0) avs bvs { st with opn := [] } := by
  refine ⟨by rw [heap_set7 h.blk]; rfl, h.all.setR, h.block.setR, World.ownsRow_nil _ _ _ _, ?_, h.sep, h.lt, by simp [World.setCell], fun _ => rfl⟩
  intro u hu b hb
  exact Nat.lt_of_lt_of_le (h.inner u hu b hb) h.high

/-- The world goes on, its own memory apart. -/
theorem RdAt.later {w' : World} (h : RdAt w R D n av bv ov avs bvs st) (hb : Below w.heap.size w w') : RdAt w' R D n av bv ov avs bvs st :=
  ⟨(hb.block R h.lt).trans h.blk, h.all.below hb, h.block.below hb, owns_below h.opn hb (Nat.le_refl _), h.inner, h.sep, h.low, Nat.le_trans h.high hb.size, h.nilo⟩

end

/-- What a step of the reader leaves. -/
def Goes (w : World) (R : Nat) (n : Int) (p : Int × RS) (e : Ending) (w' : World) : Prop := Bel R w w' ∧ ((p.1 = 0 ∧ e = .returned (.tuple #[]) ∧ Rd w' R n p.2) ∨ (p.1 ≠ 0 ∧ e = thrown p.1))

theorem Goes.ok {w w' : World} {R : Nat} {n : Int} {p : Int × RS} {st : RS} (hp : p = (0, st)) (hb : Bel R w w') (hr : Rd w' R n st) : Goes w R n p (.returned (.tuple #[])) w' := by
  subst hp; exact ⟨hb, Or.inl ⟨rfl, rfl, hr⟩⟩

theorem Goes.bad {w w' : World} {R : Nat} {n k : Int} {p : Int × RS} (hp : p.1 = k) (hk : k ≠ 0) (hb : Bel R w w') : Goes w R n p (thrown k) w' := by
  subst hp; exact ⟨hb, Or.inr ⟨hk, rfl⟩⟩

set_option maxHeartbeats 400000 in
theorem needRoom_any (v : Value) (vs : List Value) (w : World) (base : Nat) (h : w.ownsRow base 30 1 v vs.length vs) (hl : vs.length ≤ 1000000) :
    Calls Tryz.prog 118 #[v] w fun e w' => e = (if 200 < vs.length then thrown 3 else .returned (.tuple #[])) ∧ w = w' := by
  obtain ⟨p, c, rfl⟩ := owns_slice h
  clear h
  by_cases h2 : 200 < vs.length
  · rw [if_pos h2]
    go_enter Tryz.func118, Tryz.ntmps118
    go_wp2
    exact ⟨rfl, rfl, rfl⟩
  · rw [if_neg h2]
    go_enter Tryz.func118, Tryz.ntmps118
    go_wp2
    exact bodyPost_end (results_none rfl _ _ _) rfl ⟨rfl, rfl⟩

set_option maxRecDepth 20000 in
set_option maxHeartbeats 1000000 in
theorem needChange_any (R : Nat) (n k : Int) (st : RS) (w : World) (h : Rd w R n st) :
    Calls Tryz.prog 98 #[.pointer (some ⟨R, 0, none⟩), .int .i64 k] w fun e w' => e = (if st.needs = true then thrown k else .returned (.tuple #[])) ∧ w = w' := by
  obtain ⟨D, av, bv, ov, avs, bvs, h⟩ := h
  obtain ⟨c0, c1, c2, c3, c4, c5, c6⟩ := cells7 h.blk
  obtain ⟨p, c, rfl⟩ := owns_slice h.block.row
  have hl := h.block.len
  have HB : Hid (st.block = [] ↔ bvs.length = 0) := by rw [hl]; exact List.length_eq_zero_iff.symm
  clear h hl c0 c1 c3 c4 c5
  unfold RS.needs
  generalize hd : st.dot = d at *
  by_cases hz : bvs.length = 0
  · rw [decide_eq_true (HB.out.2 hz), Bool.true_or, if_pos rfl]
    rw [hz] at c2
    go_enter Tryz.func98, Tryz.ntmps98
    go_wp2
    exact ⟨rfl, rfl, rfl⟩
  · rw [decide_eq_false (fun e => hz (HB.out.1 e)), Bool.false_or]
    have hne : (((bvs.length : Nat) : Int) == 0) = false := by rw [beq_eq_false_iff_ne]; omega
    cases d with
    | true =>
      rw [if_pos rfl]
      go_enter Tryz.func98, Tryz.ntmps98
      go_wp2
      exact ⟨rfl, rfl, rfl⟩
    | false =>
      rw [if_neg (by decide)]
      go_enter Tryz.func98, Tryz.ntmps98
      go_wp2
      exact bodyPost_end (results_none rfl _ _ _) rfl ⟨rfl, rfl⟩

set_option maxRecDepth 20000 in
set_option maxHeartbeats 1000000 in
theorem mark_any (R : Nat) (n : Int) (m : Bool) (st : RS) (w : World) (h : Rd w R n st) :
    Calls Tryz.prog 100 #[.pointer (some ⟨R, 0, none⟩), .bool m] w fun e w' => Goes w R n (st.mark m) e w' := by
  obtain ⟨D, av, bv, ov, avs, bvs, h⟩ := h
  have hblk := h.blk
  obtain ⟨c0, c1, c2, c3, c4, c5, c6⟩ := cells7 h.blk
  have f3 := frozen7 h.blk 3
  have f4 := frozen7 h.blk 4
  obtain ⟨p, c, hbe⟩ := owns_slice h.block.row
  have hl := h.block.len
  have HB : Hid (st.block = [] ↔ bvs.length = 0) := by rw [hl]; exact List.length_eq_zero_iff.symm
  have HH := hide h
  rw [hbe] at c2
  clear hl c0 c1 c5 c6 hblk
  cases hm : st.marked with
  | true =>
    have HM : Hid ((st.mark m).1 = 4) := by show _ = _; unfold RS.mark; rw [if_pos (Or.inl hm)]
    rw [hm] at c3
    clear h hbe
    go_enter Tryz.func100, Tryz.ntmps100
    go_wp2
    exact ⟨rfl, Goes.bad HM.out (by decide) (Bel.refl _ _)⟩
  | false =>
    rw [hm] at c3
    by_cases hz : bvs.length = 0
    · have he := HB.out.2 hz
      have HM : Hid (st.mark m = (0, { st with marked := true, mirrored := m })) := by show _ = _; unfold RS.mark; rw [if_neg (by simp [he, hm])]
      have hR := (h.flags true st.mirrored st.dot 3 (.bool true) rfl)
      have hR2 := (hR.flags true m st.dot 4 (.bool m) rfl)
      have HR2 := hide hR2
      have hB : Bel R w ((w.setCell ⟨R, 3, none⟩ (.bool true)).setCell ⟨R, 4, none⟩ (.bool m)) := ((Bel.refl R w).setCell (p := ⟨R, 3, none⟩) (Nat.le_refl _) _).setCell (p := ⟨R, 4, none⟩) (Nat.le_refl _) _
      rw [hz] at c2
      clear h hbe hR hR2 hm hz he
      go_enter Tryz.func100, Tryz.ntmps100
      go_wp2
      exact bodyPost_end (results_none rfl _ _ _) rfl (Goes.ok HM.out hB ⟨D, av, bv, ov, avs, bvs, HR2.out⟩)
    · have HM : Hid ((st.mark m).1 = 4) := by show _ = _; unfold RS.mark; rw [if_pos (Or.inr (fun e => hz (HB.out.1 e)))]
      have hpos : (0 : Int) < ((bvs.length : Nat) : Int) := by omega
      clear h hbe
      go_enter Tryz.func100, Tryz.ntmps100
      go_wp2
      exact ⟨rfl, Goes.bad HM.out (by decide) (Bel.refl _ _)⟩

end Go.Proofs.YtfngadfkopfhcaaGreatDoor

/- Contract: (*reader).add. -/
namespace Go.Proofs.YtfngadfkopfhcaaGreatDoor
open Go.RowKit

section
variable {w : World} {R D : Nat} {n : Int} {av bv ov : Value} {avs bvs : List Value} {st : RS}

theorem LL.kept_row {w w' : World} {base : Nat} {v : Value} {vs : List Value} {xss : List (List Int)} {u : Value} {k : Nat} {us : List Value} (h : LL w base v vs xss) (hu : w.ownsRow base 30 1 u k us) (hg : w.grownBy w' u.ownBlock) (hne : v.ownBlock = none ∨ v.ownBlock ≠ u.ownBlock) : LL w' base v vs xss :=
  ⟨h.row.kept hg hne, h.all.mono (fun _ _ _ h' => owns_kept_ty h' hu hg)⟩

/-- One more change of the block. -/
theorem RdAt.push {w5 : World} {v' pv : Value} {ps : List Int} (h : RdAt w R D n av bv (.slice none 0 0) avs bvs st) (ho : st.opn = []) (hp : w.ownsRow (R + 1) 3 1 pv ps.length (ps.map (Value.int .i64)))
    (hown : w5.ownsRow (R + 1) 30 1 v' (bvs.length + 1) (bvs ++ [pv])) (hg : w.grownBy w5 bv.ownBlock) (hk : v'.ownBlock = bv.ownBlock ∨ (v'.ownBlock = some w.heap.size ∧ w.grownBy w5 none)) :
    RdAt (w5.setCell ⟨R, 2, none⟩ v') R w5.heap.size n av v' (.slice none 0 0) avs (bvs ++ [pv]) { st with block := st.block ++ [ps] } ∧ w5.heap[R]? = w.heap[R]? ∧ Bel R w w5 := by
  have hRb : some R ≠ bv.ownBlock := fun e => by have := (h.block.row.lt R e.symm).1; omega
  have hblk := (hg.block R h.lt hRb).trans h.blk
  have hall : LL w5 (R + 1) av avs st.all := h.all.kept_row h.block.row hg h.sep
  have hbl : LL w5 (R + 1) v' (bvs ++ [pv]) (st.block ++ [ps]) := ⟨by rw [List.length_append]; exact hown, OwnAll.snoc (owns_kept_ty hp h.block.row hg) (h.block.all.mono (fun _ _ _ h' => owns_kept_ty h' h.block.row hg))⟩
  refine ⟨⟨by rw [heap_set7 hblk]; rfl, hall.setR, hbl.setR, by rw [ho]; exact World.ownsRow_nil _ _ _ _, ?_, ?_, ?_, by simp [World.setCell], fun _ => rfl⟩, hg.block R h.lt hRb, ?_⟩
  · intro u hu b hb
    rcases List.mem_append.1 hu with hu | hu
    · exact hall.lt u hu b hb
    · exact hbl.lt u hu b hb
  · rcases hk with hk | ⟨hk, _⟩
    · rw [hk]; exact h.sep
    · rw [hk]
      cases hav : av.ownBlock with
      | none => exact Or.inl rfl
      | some b =>
        refine Or.inr (fun e => ?_)
        have h1 := (h.all.row.lt b hav).2
        have h2 : b = w.heap.size := Option.some.inj e
        omega
  · have := h.lt; have := hg.size; omega
  · exact Bel.grown h.block.row (Nat.le_refl _) (Nat.le_of_lt h.lt) hg

end

set_option maxRecDepth 20000 in
set_option maxHeartbeats 4000000 in
theorem add_any (R D : Nat) (n : Int) (av bv : Value) (avs bvs : List Value) (st : RS) (pv : Value) (ps : List Int) (w : World) (h : RdAt w R D n av bv (.slice none 0 0) avs bvs st) (ho : st.opn = []) (hn1 : 1 ≤ n) (hn2 : n ≤ 12) (hbl : bvs.length ≤ 1000)
    (hp : w.ownsRow (R + 1) 3 1 pv ps.length (ps.map (Value.int .i64))) :
    Calls Tryz.prog 97 #[.pointer (some ⟨R, 0, none⟩), pv] w fun e w' => Goes w R n (st.add n ps) e w' := by
  obtain ⟨i0, hi, hz0, hz1, hz2⟩ := info_parts Tryz.info30
  obtain ⟨c0, c1, c2, c3, c4, c5, c6⟩ := cells7 h.blk
  have HC := hide (pcheck_any n pv ps w hn1 hn2 (Ints.own hp))
  have HH := hide h
  have HP := hide hp
  have hRl := h.lt
  obtain ⟨bp, bc, hbe⟩ := owns_slice h.block.row
  obtain ⟨pp, pc, hpe⟩ := owns_slice hp
  rw [hbe] at c2
  have HPE := hide hpe
  have HBE := hide hbe
  have HO := hide ho
  clear h hp hbe ho c1 c3 c4 c5
  rw [hpe] at HC
  rw [hpe]
  clear hpe
  by_cases hok : okc n 0 ps = true
  · have HM : Hid (st.add n ps = (if 200 < (st.block ++ [ps]).length then 3 else 0, { st with block := st.block ++ [ps], dot := false })) := by show _ = _; unfold RS.add; rw [if_pos hok]
    have hz : pck n ps = 0 := by unfold pck; rw [if_pos hok]
    rw [hz] at HC
    clear hz hok
    generalize hpl : ps.length = pl at *
    have HPL := hide hpl
    clear hpl
    have hA := HH.out.later ((Below.refl _ _).alloc (Nat.le_refl _) (.cells #[.slice pp pl pc] 30))
    have hrowA := hA.block.row
    have HA := hide hA
    rw [HBE.out] at hrowA
    clear hA
    go_enter Tryz.func97, Tryz.ntmps97
    go_wp2_with fail
    refine HC.out.mono ?_
    rintro e w' ⟨rfl, rfl⟩
    go_wp2_with (at_builtin; refine wpList_append_keep _ rfl _ _ 22 rfl (R + 1) 30 i0 (.slice none 0 0) 1 24 Tryz.underlying22 hi hz0 hz1 hz2 rfl (by decide) _ _ _ rfl hrowA ⟨w.heap.size, 0, none⟩ 1 1 [.slice pp pl pc] rfl rfl ?c1 ?c2 ?c3 ?c4 ?c5 ?_)
    case c1 => exact cell_one_new _ _ _
    case c2 => intro u hu; simp at hu; subst hu; rfl
    case c3 => unfold maxLen; omega
    case c4 => omega
    case c5 => simp; omega
    · intro v' w5 hown5 hg5 hk5
      have hpA : (w.alloc (.cells #[.slice pp pl pc] 30)).ownsRow (R + 1) 3 1 (.slice pp pl pc) ps.length (ps.map (Value.int .i64)) := by
        have := HP.out.alloc (.cells #[.slice pp pl pc] 30)
        rw [HPE.out] at this
        rw [HPL.out]
        exact this
      have hsz : (w.alloc (.cells #[.slice pp pl pc] 30)).heap.size = w.heap.size + 1 := by simp
      obtain ⟨hR5, hb5, hB5⟩ := HA.out.push HO.out hpA hown5 (by rw [HBE.out]; exact hg5) (by rw [HBE.out, hsz]; exact hk5)
      have hblk5 := hb5.trans HA.out.blk
      obtain ⟨d0, d1, d2, d3, d4, d5, d6⟩ := cells7 hblk5
      have f2 := frozen7 hblk5 2
      have f6 := frozen7 hR5.blk 6
      have e6 := (cells7 hR5.blk).2.2.2.2.2.2
      have hR6 := hR5.flags st.marked st.mirrored false 6 (.bool false) rfl
      have g2 := (cells7 hR6.blk).2.2.1
      have HR6 := hide hR6
      have hBt : Bel R w w5 := ((Bel.refl R w).alloc (Nat.le_of_lt hRl) _).trans hB5
      have hB6 : Bel R w ((w5.setCell ⟨R, 2, none⟩ v').setCell ⟨R, 6, none⟩ (.bool false)) := (hBt.setCell (p := ⟨R, 2, none⟩) (Nat.le_refl _) _).setCell (p := ⟨R, 6, none⟩) (Nat.le_refl _) _
      have HNR := hide (needRoom_any v' (bvs ++ [.slice pp pl pc]) _ (R + 1) hR6.block.row (by rw [List.length_append]; simp; omega))
      have hlenb : (bvs ++ [Value.slice pp pl pc]).length = (st.block ++ [ps]).length := hR6.block.len
      rw [hlenb] at HNR
      obtain ⟨vp, vc, rfl⟩ := owns_slice hown5
      clear hR5 hR6 hown5 hg5 hk5 hb5 hB5 hblk5 d0 d1 d3 d4 d5 d6 hpA hlenb hrowA
      go_wp2_with fail
      refine HNR.out.mono ?_
      rintro e w' ⟨rfl, rfl⟩
      by_cases h2 : 200 < (st.block ++ [ps]).length
      · rw [if_pos h2]
        have HM2 : Hid ((st.add n ps).1 = 3) := by show _ = _; rw [HM.out]; exact if_pos h2
        unfold thrown
        go_wp2
        exact ⟨rfl, Goes.bad HM2.out (by decide) hB6⟩
      · rw [if_neg h2]
        have HM2 : Hid (st.add n ps = (0, { st with block := st.block ++ [ps], dot := false })) := by show _ = _; rw [HM.out, if_neg h2]
        go_wp2
        exact bodyPost_end (results_none rfl _ _ _) rfl (Goes.ok HM2.out hB6 ⟨_, _, _, _, _, _, HR6.out⟩)
  · have HM : Hid ((st.add n ps).1 = 6) := by show _ = _; unfold RS.add; rw [if_neg hok]
    have hz : pck n ps = 6 := by unfold pck; rw [if_neg hok]
    rw [hz] at HC
    clear hz hok
    go_enter Tryz.func97, Tryz.ntmps97
    go_wp2_with fail
    refine HC.out.mono ?_
    rintro e w' ⟨rfl, rfl⟩
    go_wp2
    exact ⟨rfl, Goes.bad HM.out (by decide) (Bel.refl _ _)⟩

end Go.Proofs.YtfngadfkopfhcaaGreatDoor

/- Several cells of a row are set. -/
namespace Go.Proofs.YtfngadfkopfhcaaGreatDoor
open Go.RowKit

theorem heap_setCell_row {w : World} {g o : Nat} {cur : Array Value} {e : TypeId} {v : Value} (h : w.heap[g]? = some (.cells cur e)) : (w.setCell ⟨g, o, none⟩ v).heap[g]? = some (.cells (cur.setIfInBounds o v) e) := by
  simp [World.setCell, Array.getElem?_modify, h]

theorem heap_setCells_row (g : Nat) (e : TypeId) : ∀ (vs : List Value) (o : Nat) (w : World) (cur : Array Value), w.heap[g]? = some (.cells cur e) → o + vs.length ≤ cur.size →
    (w.setCells g o vs).heap[g]? = some (.cells (cur.toList.take o ++ vs ++ cur.toList.drop (o + vs.length)).toArray e)
  | [], o, w, cur, h, _ => by
    show w.heap[g]? = _
    rw [h]
    simp
  | v :: vs, o, w, cur, h, hl => by
    have hl' : o + 1 + vs.length ≤ (cur.setIfInBounds o v).size := by simp at hl ⊢; omega
    have ho : o < cur.toList.length := by simp at hl ⊢; omega
    have := heap_setCells_row g e vs (o + 1) (w.setCell ⟨g, o, none⟩ v) (cur.setIfInBounds o v) (heap_setCell_row h) hl'
    show ((w.setCell ⟨g, o, none⟩ v).setCells g (o + 1) vs).heap[g]? = _
    rw [this, Array.toList_setIfInBounds]
    congr 3
    rw [List.drop_set_of_lt (by omega), List.take_set, List.take_succ_eq_append_getElem ho, List.set_append_right _ _ (by simp; omega)]
    simp only [List.length_take, List.append_assoc, List.length_cons]
    rw [show o - min o cur.toList.length = 0 from by omega]
    simp only [List.set_cons_zero, List.nil_append, List.cons_append]
    rw [show o + (vs.length + 1) = o + 1 + vs.length from by omega]

theorem heap_setCells_off (g : Nat) : ∀ (vs : List Value) (o : Nat) (w : World) (k : Nat), k ≠ g → (w.setCells g o vs).heap[k]? = w.heap[k]?
  | [], _, _, _, _ => rfl
  | v :: vs, o, w, k, hk => by
    show ((w.setCell ⟨g, o, none⟩ v).setCells g (o + 1) vs).heap[k]? = _
    rw [heap_setCells_off g vs (o + 1) _ k hk]
    have hg : g ≠ k := fun h => hk h.symm
    simp [World.setCell, Array.getElem?_modify, hg]

theorem size_setCells' (g : Nat) : ∀ (vs : List Value) (o : Nat) (w : World), (w.setCells g o vs).heap.size = w.heap.size
  | [], _, _ => rfl
  | v :: vs, o, w => by
    show ((w.setCell ⟨g, o, none⟩ v).setCells g (o + 1) vs).heap.size = _
    rw [size_setCells' g vs (o + 1) _]
    simp [World.setCell]

theorem rest_setCells (g : Nat) : ∀ (vs : List Value) (o : Nat) (w : World), (w.setCells g o vs).os = w.os ∧ (w.setCells g o vs).tape = w.tape ∧ (w.setCells g o vs).output = w.output
  | [], _, _ => ⟨rfl, rfl, rfl⟩
  | v :: vs, o, w => rest_setCells g vs (o + 1) (w.setCell ⟨g, o, none⟩ v)

theorem map_get_some {zs : List Int} {j : Nat} {u : Value} (h : (zs.map (Value.int .i64))[j]? = some u) : j < zs.length ∧ u = .int .i64 (zs.getD j 0) := by
  rw [List.getElem?_map] at h
  cases hz : zs[j]? with
  | none => rw [hz] at h; cases h
  | some z =>
    rw [hz] at h
    have hj : j < zs.length := (List.getElem?_eq_some_iff.1 hz).1
    refine ⟨hj, ?_⟩
    simp only [List.getD, hz, Option.getD_some]
    simpa using h.symm

theorem owns_setCells {w : World} {base e g n cap o : Nat} {xs vs : List Value} (h : w.ownsRow base e 1 (.slice (some ⟨g, 0, none⟩) n cap) n xs) (ho : o + vs.length ≤ n) :
    (w.setCells g o vs).ownsRow base e 1 (.slice (some ⟨g, 0, none⟩) n cap) n (xs.take o ++ vs ++ xs.drop (o + vs.length)) := by
  obtain ⟨h1, h2⟩ := h
  refine ⟨by simp at h1 ⊢; omega, ?_⟩
  rcases h2 with ⟨h2, _⟩ | ⟨g', cap', cur, hv, hb, hh, hn, hx, hs, ht⟩
  · cases h2
  · injection hv with e1 _ e3
    injection e1 with e1
    injection e1 with e1
    subst e1; subst e3
    have hl : cur.toList.length = cap := by simp; omega
    refine Or.inr ⟨g, cap, _, rfl, hb, heap_setCells_row g e vs o w cur hh (by omega), hn, hx, by simp; omega, ?_⟩
    rw [← ht, List.toList_toArray, Nat.mul_one]
    apply List.ext_getElem?
    intro j
    by_cases hj : j < n
    · rw [List.getElem?_take_of_lt hj]
      rcases Nat.lt_or_ge j o with hjo | hjo
      · rw [List.append_assoc, List.append_assoc, List.getElem?_append_left (by simp; omega), List.getElem?_append_left (by simp; omega), List.getElem?_take_of_lt hjo, List.getElem?_take_of_lt hjo, List.getElem?_take_of_lt hj]
      · rcases Nat.lt_or_ge j (o + vs.length) with hjv | hjv
        · have key : ∀ (A B : List Value), A.length = o → (A ++ vs ++ B)[j]? = vs[j - o]? := fun A B hA => by
            rw [List.getElem?_append_left (by simp; omega), List.getElem?_append_right (by omega), hA]
          rw [key _ _ (by simp; omega), key _ _ (by simp; omega)]
        · have key : ∀ (A B : List Value), A.length = o → (A ++ vs ++ B)[j]? = B[j - (o + vs.length)]? := fun A B hA => by
            rw [List.getElem?_append_right (by simp; omega)]
            congr 1
            simp; omega
          rw [key _ _ (by simp; omega), key _ _ (by simp; omega), List.getElem?_drop, List.getElem?_drop, List.getElem?_take_of_lt (by omega)]
    · rw [List.getElem?_eq_none (by simp; omega), List.getElem?_eq_none (by simp; omega)]

theorem below_setCells {B g : Nat} {a w : World} (h : Below B a w) (hB : B ≤ g) (o : Nat) (vs : List Value) : Below B a (w.setCells g o vs) := by
  have r := rest_setCells g vs o w
  refine h.trans ⟨r.1, r.2.1, r.2.2, by rw [size_setCells']; exact Nat.le_refl _, fun k hk => heap_setCells_off g vs o w k (by omega)⟩

/-- copy onto a row of the call's own. -/
theorem run_copy_row {t t' : TypeId} (ht : Tryz.prog.underlying t = some (.slice 3)) {w : World} {base g n cap o dl dc sl sc : Nat} {zs cs : List Int} {a : Addr} (hown : w.ownsRow base 3 1 (.slice (some ⟨g, 0, none⟩) n cap) n (zs.map (Value.int .i64)))
    (hcs : ∀ j, j < cs.length → w.cell? (a.add j) = some (.int .i64 (cs.getD j 0))) (hlen : cs.length = Nat.min sl dl) (hfit : o + cs.length ≤ n) (ty : TypeId) :
    (Builtin.copy_ #[t, t'] ty #[.slice (some ⟨g, o, none⟩) dl dc, .slice (some a) sl sc]).run Tryz.prog w = .ok (goInt cs.length) (w.setCells g o (cs.map (Value.int .i64))) := by
  obtain ⟨i0, hi, hz0, hz1, hz2⟩ := info_parts Tryz.info3
  have := run_copy_cells (P := Tryz.prog) w t t' ty 3 g o dl dc a sl sc (cs.map (Value.int .i64)) ht (by rw [hi]; simp [hz1]) (by rw [List.length_map]; exact hlen)
    (fun j v hj => by obtain ⟨h1, rfl⟩ := map_get_some hj; exact hcs j h1)
    (fun j hj => by rw [List.length_map] at hj; rw [(owns_cell hown (by omega)).1]; rfl)
    (fun j hj => by rw [List.length_map] at hj; exact (owns_cell hown (by omega)).2)
    (fun v hv => by obtain ⟨z, _, rfl⟩ := List.mem_map.1 hv; rfl)
  rw [List.length_map] at this
  exact this

theorem owns_setCells_int {w : World} {base e g n cap o : Nat} {zs cs : List Int} (h : w.ownsRow base e 1 (.slice (some ⟨g, 0, none⟩) n cap) n (zs.map (Value.int .i64))) (ho : o + cs.length ≤ n) :
    (w.setCells g o (cs.map (Value.int .i64))).ownsRow base e 1 (.slice (some ⟨g, 0, none⟩) n cap) n ((zs.take o ++ cs ++ zs.drop (o + cs.length)).map (Value.int .i64)) := by
  have := owns_setCells h (o := o) (vs := cs.map (Value.int .i64)) (by rw [List.length_map]; exact ho)
  rw [List.length_map] at this
  rw [List.map_append, List.map_append, List.map_take, List.map_drop]
  exact this

end Go.Proofs.YtfngadfkopfhcaaGreatDoor

/- Contracts: slices.Insert of one number ahead of a row of the call's own, slices.Clone. -/
namespace Go.Proofs.YtfngadfkopfhcaaGreatDoor
open Go.RowKit Go.Lib

def rnI : Go.Shelf.Ren := ⟨fun x => match x with | 21 => 117 | 27 => 127 | 28 => 128 | 35 => 131 | 39 => 132 | y => y,
  fun x => match x with | 22 => 30 | 3 => 3 | 4 => 4 | 0 => 0 | y => y, fun x => x⟩

theorem lays21 : Go.Proofs.Lays2.n21 Tryz.prog rnI where
  mixed := by kernel_rfl
  f21 := by kernel_rfl
  f27 := by kernel_rfl
  f28 := by kernel_rfl
  f35 := by kernel_rfl
  f39 := by kernel_rfl
  t0 := by kernel_rfl
  a0 := fun w => by kernel_rfl
  z0 := fun w => by kernel_rfl
  v0 := fun w => by kernel_rfl
  t3 := by kernel_rfl
  a3 := fun w => by kernel_rfl
  z3 := fun w => by kernel_rfl
  v3 := fun w => by kernel_rfl
  t4 := by kernel_rfl
  a4 := fun w => by kernel_rfl
  z4 := fun w => by kernel_rfl
  v4 := fun w => by kernel_rfl
  t22 := by kernel_rfl
  a22 := fun w => by kernel_rfl
  z22 := fun w => by kernel_rfl
  v22 := fun w => by kernel_rfl
  i3 := by kernel_rfl

theorem ahead_take {A M R : List Value} {v : Value} {n : Nat} (hA : A.length = 1) (hM : M.length = n) : List.take ((n + 1) * 1) (List.take (0 + 0) (A ++ M ++ R) ++ [v] ++ List.drop (0 + 0 + [v].length) (A ++ M ++ R)) = v :: M := by
  have hd : List.drop 1 (A ++ M ++ R) = M ++ R := by rw [List.append_assoc, List.drop_left' hA]
  show List.take ((n + 1) * 1) (List.take 0 (A ++ M ++ R) ++ [v] ++ List.drop 1 (A ++ M ++ R)) = _
  rw [hd, List.take_zero, List.nil_append, List.singleton_append, Nat.mul_one, List.take_succ_cons, List.take_append_of_le_length (by omega), List.take_of_length_le (by omega)]

theorem behind_take {Z M : List Value} {v : Value} {n : Nat} (hM : M.length = n) : List.take ((n + 1) * 1) (List.take (0 + 1) (List.take 0 Z ++ [v] ++ List.drop (0 + [v].length) Z) ++ M ++ List.drop (0 + 1 + M.length) (List.take 0 Z ++ [v] ++ List.drop (0 + [v].length) Z)) = v :: M := by
  rw [List.take_zero, List.nil_append, List.singleton_append, Nat.zero_add, List.take_succ_cons, List.take_zero, List.singleton_append, List.cons_append, Nat.mul_one, List.take_succ_cons, List.take_append_of_le_length (by omega), List.take_of_length_le (by omega)]

set_option maxHeartbeats 1000000 in
theorem ins_own {base g n cap vb : Nat} {zs : List Int} {w : World} (h : w.ownsRow base 3 1 (.slice (some ⟨g, 0, none⟩) n cap) n (zs.map (Value.int .i64))) (hn : 1 ≤ n) (hb : base ≤ w.heap.size) (hbig : n ≤ 1000000) (hv : w.heap[vb]? = some (.cells #[.int .i64 1] 3)) (hne : vb ≠ g) :
    Calls Tryz.prog 117 #[.slice (some ⟨g, 0, none⟩) n cap, .int .i64 0, .slice (some ⟨vb, 0, none⟩) 1 1] w fun e w' =>
      ∃ v', e = .returned v' ∧ w'.ownsRow base 3 1 v' (n + 1) (((1 : Int) :: zs).map (Value.int .i64)) ∧ w.grownBy w' (some g) := by
  have hl : zs.length = n := by have := h.1; simpa using this
  rcases h.2 with ⟨h2, _⟩ | ⟨g', cap', cur, hve, hbg, hh, hnc, hm, hs, ht⟩
  · cases h2
  injection hve with e1 _ e3
  injection e1 with e1
  injection e1 with e1
  subst e1; subst e3
  have hs' : cur.size = cap := by rw [hs]; omega
  have hcs : ∀ j v, (zs.map (Value.int .i64))[j]? = some v → w.cell? ⟨g, 0 + j, none⟩ = some v := by
    intro j v hj
    obtain ⟨hj', rfl⟩ := map_get_some hj
    rw [Nat.zero_add]
    exact (owns_cell h (by omega)).1
  have hvs : ∀ j v, [Value.int .i64 1][j]? = some v → w.cell? ⟨vb, 0 + j, none⟩ = some v := by
    intro j v hj
    match j, hj with
    | 0, hj => simp [World.cell?, hv]; simpa using hj
    | j + 1, hj => simp at hj
  have h1c : ∀ v ∈ zs.map (Value.int .i64), v.oneCell' = true := by
    intro v hv'
    obtain ⟨z, _, rfl⟩ := List.mem_map.1 hv'
    rfl
  have h1v : ∀ v ∈ [Value.int .i64 1], v.oneCell' = true := by intro v hv'; simp at hv'; subst hv'; rfl
  by_cases hroom : n + 1 ≤ cap
  · have hsp : ∀ j, j < n + 1 → (w.cell? ⟨g, 0 + j, none⟩).isSome = true := by
      intro j hj
      have hj' : j < cur.size := by omega
      simp [World.cell?, hh, Nat.zero_add, hj']
    have hfz : ∀ j, j < n + 1 → w.frozen? ⟨g, 0 + j, none⟩ = false := by
      intro j hj; simp [World.frozen?, hh]
    refine (Go.Proofs.Any2.slices_Insert_int_shift lays21 g 0 n cap 0 vb 0 1 1 (zs.map (Value.int .i64)) [.int .i64 1] w (by omega) (by omega) hroom (by unfold maxLen at hm; omega) hne (by simp [hl]) rfl hcs hsp hfz hvs h1c h1v 3 3 1 cap
      (by simp [World.shape?, hv]) (by simp [World.shape?, hh, hs']) (by omega) (by simp [World.frozen?, hv]) (by simp [World.frozen?, hv])).mono ?_
    rintro e w' ⟨rfl, rfl⟩
    have k1 : (w.drew.setCells g (0 + (0 + 1)) ((zs.map (Value.int .i64)).drop 0)).heap[g]? = some (.cells (cur.toList.take 1 ++ zs.map (Value.int .i64) ++ cur.toList.drop (1 + n)).toArray 3) := by
      have := heap_setCells_row g 3 (zs.map (Value.int .i64)) 1 w.drew cur hh (by rw [List.length_map, hl]; omega)
      rw [List.length_map, hl] at this
      simpa using this
    have k2 := heap_setCells_row g 3 [.int .i64 1] (0 + 0) _ _ k1 (by simp; omega)
    refine ⟨_, rfl, ⟨by simp [hl], Or.inr ⟨g, cap, _, rfl, hbg, k2, hroom, hm, by simp [hl]; omega, ?_⟩⟩, ?_⟩
    · rw [List.toList_toArray, List.toList_toArray]
      exact ahead_take (by simp; omega) (by simp [hl])
    · have r1 := rest_setCells g ((zs.map (Value.int .i64)).drop 0) (0 + (0 + 1)) w.drew
      have r2 := rest_setCells g [.int .i64 1] (0 + 0) (w.drew.setCells g (0 + (0 + 1)) ((zs.map (Value.int .i64)).drop 0))
      refine ⟨r2.1.trans r1.1, r2.2.1.trans r1.2.1, r2.2.2.trans r1.2.2, ?_, fun k _ hk => ?_⟩
      · rw [size_setCells', size_setCells']; exact Nat.le_refl _
      · rw [heap_setCells_off g _ _ _ k (fun e => hk (by rw [e])), heap_setCells_off g _ _ _ k (fun e => hk (by rw [e]))]; rfl
  · refine (Go.Proofs.Any2.slices_Insert_int_grow lays21 g 0 n cap 0 vb 0 1 1 (zs.map (Value.int .i64)) [.int .i64 1] w (by omega) (by omega) hnc (by omega) (by omega) (by simp [hl]) rfl hcs hvs h1c h1v).mono ?_
    rintro e w' ⟨rfl, rfl⟩
    have hge := grownCap_ge w (n + 1) cap (rnI.t 3)
    have hle := grownCap_le_maxLen w (n + 1) cap (rnI.t 3) (by unfold maxLen; omega)
    generalize grownCap w (n + 1) cap (rnI.t 3) = C at *
    generalize hZ : ((List.take 0 (zs.map (Value.int .i64))).toArray ++ Builtin.zeroCells (Value.int .i64 0).cells (n + 1 - 0) ++ Builtin.zeroCells (Value.int .i64 0).cells (C - (n + 1))) = Z at *
    have hZs : Z.size = C := by rw [← hZ]; simp [Builtin.zeroCells, Value.cells]; omega
    have k0 : (w.alloc (.cells Z (rnI.t 3))).drew.heap[w.heap.size]? = some (.cells Z 3) := heap_alloc_new w _
    have k1 := heap_setCells_row w.heap.size 3 [.int .i64 1] 0 _ _ k0 (by rw [hZs]; simp; omega)
    have k2 := heap_setCells_row w.heap.size 3 ((zs.map (Value.int .i64)).drop 0) (0 + 1) ((w.alloc (.cells Z (rnI.t 3))).drew.setCells w.heap.size 0 [.int .i64 1]).drew _ k1 (by simp [hl, hZs]; omega)
    refine ⟨_, rfl, ⟨by simp [hl], Or.inr ⟨w.heap.size, C, _, rfl, hb, k2, hge, hle, by simp [hl, hZs]; omega, ?_⟩⟩, ?_⟩
    · rw [List.toList_toArray, List.toList_toArray]
      exact behind_take (by simp [hl])
    · have r1 := rest_setCells w.heap.size [.int .i64 1] 0 (w.alloc (.cells Z (rnI.t 3))).drew
      have r2 := rest_setCells w.heap.size ((zs.map (Value.int .i64)).drop 0) (0 + 1) ((w.alloc (.cells Z (rnI.t 3))).drew.setCells w.heap.size 0 [.int .i64 1]).drew
      refine ⟨r2.1.trans r1.1, r2.2.1.trans r1.2.1, r2.2.2.trans r1.2.2, ?_, fun k hk' _ => ?_⟩
      · rw [size_setCells']
        show w.heap.size ≤ ((w.alloc (.cells Z (rnI.t 3))).drew.setCells w.heap.size 0 [.int .i64 1]).heap.size
        rw [size_setCells']
        show w.heap.size ≤ (w.alloc (.cells Z (rnI.t 3))).heap.size
        simp
      · rw [heap_setCells_off w.heap.size _ _ _ k (by omega)]
        show ((w.alloc (.cells Z (rnI.t 3))).drew.setCells w.heap.size 0 [.int .i64 1]).heap[k]? = _
        rw [heap_setCells_off w.heap.size _ _ _ k (by omega)]
        exact Below.heap_alloc w _ k hk'

end Go.Proofs.YtfngadfkopfhcaaGreatDoor
