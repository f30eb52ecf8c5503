/- Joined: SrtB, SrtC, Rno, Name, ChRow, Meth, Pick, Raw, ChOf, LL, RowAt. -/
import Derived.Test.YtigiigoembpcdaaJ4
import Derived.Test.YtigiigoembpcdaaJ3
import Derived.Shelf.SlSortCmp.NoneTotal
import Derived.Test.YtigiigoembpcdaaJ2
import Derived.Lib.RuneCount
import Derived.Lib.DecodeN
import Derived.Test.YtigiigoembpcdaaJ1
/- Contract: slices.SortFunc with slices.Compare over a list of rows that the call owns: they are the same rows, in some order. -/

namespace Go.Proofs.Ytigiigoembpcdaa
open Go.RowKit Go.Shelf Go.Lib Go.Sort

/-- A row of n bells that the call owns. -/
structure El (w : World) (base n : Nat) where
  v : Value
  xs : List Int
  own : w.ownsRow base 3 1 v n (xs.map (Value.int .i64))

theorem El.len {w : World} {base n : Nat} (e : El w base n) : e.xs.length = n := by have := e.own.1; simpa using this

theorem els {w : World} {base n : Nat} : ∀ {vs : List Value} {X : List (List Int)}, OwnAll w base vs X → (∀ x, x ∈ X → x.length = n) → ∃ l : List (El w base n), l.map El.v = vs ∧ l.map El.xs = X
  | [], [], _, _ => ⟨[], rfl, rfl⟩
  | [], _ :: _, h, _ => h.elim
  | _ :: _, [], h, _ => h.elim
  | v :: vs, x :: X, h, hx => by
    obtain ⟨l, h1, h2⟩ := els (vs := vs) (X := X) h.2 (fun y hy => hx y (List.mem_cons_of_mem _ hy))
    have hl : x.length = n := hx x List.mem_cons_self
    refine ⟨⟨v, x, by have := h.1; rw [hl] at this; exact this⟩ :: l, ?_, ?_⟩
    · rw [List.map_cons, h1]
    · rw [List.map_cons, h2]

section
variable {α : Type} [Inhabited α]

theorem sw_block (enc : α → Value) (w : World) (blk off m : Nat) (dk : Array α) (os : Array Obj) {b : Nat} (hne : b ≠ blk) (hb : b < w.heap.size) : (sortWorld enc w blk off m dk os).heap[b]? = w.heap[b]? := by
  unfold sortWorld grow putRow mapBlock Sort.ahead
  simp only
  rw [Array.getElem?_append_left (by simpa using hb), Array.getElem?_modify, if_neg (fun e => hne e.symm)]

theorem sw_own (enc : α → Value) (w : World) (blk off m : Nat) (dk : Array α) (os : Array Obj) {base e size n : Nat} {v : Value} {xs : List Value} (h : w.ownsRow base e size v n xs) (hne : ∀ g, v.ownBlock = some g → g ≠ blk) : (sortWorld enc w blk off m dk os).ownsRow base e size v n xs := by
  refine ⟨h.1, ?_⟩
  rcases h.2 with h2 | ⟨g, cap, cur, hv, hgg, hh, r⟩
  · exact Or.inl h2
  · refine Or.inr ⟨g, cap, cur, hv, hgg, ?_, r⟩
    rw [sw_block enc w blk off m dk os (hne g (by rw [hv]; rfl)) (Array.getElem?_eq_some_iff.1 hh).1]
    exact hh

theorem sw_row (enc : α → Value) (w : World) (blk m : Nat) (dk : Array α) (os : Array Obj) {cur : Array Value} {e : TypeId} (h : w.heap[blk]? = some (.cells cur e (0, 0))) : (sortWorld enc w blk 0 m dk os).heap[blk]? = some (.cells (putCells enc 0 dk cur) e (0, 0)) := by
  have hb := (Array.getElem?_eq_some_iff.1 h).1
  unfold sortWorld grow putRow mapBlock Sort.ahead
  simp only
  rw [Array.getElem?_append_left (by simpa using hb), Array.getElem?_modify, if_pos rfl, h]
  rfl

theorem put_take (enc : α → Value) (dk : Array α) (cur : Array Value) (h : dk.size ≤ cur.size) : (putCells enc 0 dk cur).toList.take dk.size = dk.toList.map enc := by
  refine List.ext_getElem (by simp [putCells]; omega) (fun i h1 h2 => ?_)
  have hi : i < dk.size := by simpa using h2
  simp only [putCells, List.getElem_take, Array.toList_mapIdx, List.getElem_mapIdx, List.getElem_map, Array.getElem_toList]
  rw [if_pos ⟨Nat.zero_le _, by omega⟩, Nat.sub_zero, getElem!_pos dk i hi]
end

theorem all_of_els {w' : World} {base w0b n : Nat} {w : World} : ∀ (l : List (El w w0b n)), (∀ e : El w w0b n, w'.ownsRow base 3 1 e.v n (e.xs.map (Value.int .i64))) → OwnAll w' base (l.map El.v) (l.map El.xs)
  | [], _ => trivial
  | e :: l, h => by
    refine ⟨?_, all_of_els l h⟩
    have h9 := h e
    have hl := e.len
    cases e with
    | mk v xs own =>
      simp only at h9 hl
      show w'.ownsRow base 3 1 v xs.length (xs.map (Value.int .i64))
      rw [hl]
      exact h9

set_option maxRecDepth 20000 in
set_option maxHeartbeats 2000000 in
theorem sort_ok (n base : Nat) (u : Value) (vs : List Value) (X : List (List Int)) (w : World) (hLL : LL w base u vs X) (hX : ∀ x, x ∈ X → x.length = n) (h1 : 1 ≤ n) (hN : 1 ≤ X.length) (hN2 : X.length ≤ 40000) :
    Calls Try.prog 14 #[u, .func (.func 15) #[] #[]] w fun e w' => e = .returned (.tuple #[]) ∧ ∃ vs' X', X'.Perm X ∧ LL w' base u vs' X' ∧ Below base w w' := by
  obtain ⟨l, hv, hx⟩ := els hLL.all hX
  have hll : l.length = X.length := by rw [← hx, List.length_map]
  have hne : l ≠ [] := fun e => by rw [e] at hll; simp at hll; omega
  haveI : Inhabited (El w base n) := ⟨l.head hne⟩
  have hvl : vs.length = l.length := by rw [← hv, List.length_map]
  have hrow := hLL.row
  rcases hrow.2 with ⟨_, h0⟩ | ⟨g, cap, cur, hu, hgb, hh, hc1, hc2, hcs, hct⟩
  · omega
  have hg := (Array.getElem?_eq_some_iff.1 hh).1
  have hoff : ∀ (e : El w base n) g', e.v.ownBlock = some g' → g' ≠ g := by
    intro e g' hg' e'
    have h9 := e.own.2
    rcases h9 with ⟨h9, h0⟩ | ⟨g2, cap2, cur2, hv2, _, hh2, _⟩
    · rw [h9] at hg'; cases hg'
    · rw [hv2] at hg'
      have e2 : g2 = g' := by cases hg'; rfl
      rw [e2, e', hh] at hh2
      cases hh2
  have hcmp : CmpLays1 Try.prog 15 #[] (El.v (w := w) (base := base) (n := n)) (fun x y => lcmp x.xs y.xs) g 0 l.toArray.size w := by
    intro m os dk _ x y
    have i1 := Ints.own (sw_own El.v w g 0 m dk os x.own (hoff x))
    have i2 := Ints.own (sw_own El.v w g 0 m dk os y.own (hoff y))
    refine (compare_ok x.v y.v x.xs y.xs (sortWorld El.v w g 0 m dk os) i1 i2 (by rw [x.len]; exact h1) (by rw [x.len, y.len])).mono ?_
    rintro e w' ⟨rfl, rfl⟩
    exact ⟨rfl, 0, #[], by simp [World.drewN]⟩
  have hO : SWO (ltOf (fun x y : El w base n => lcmp x.xs y.xs)) := by
    refine ⟨fun x => ?_, fun x y z a1 a2 => ?_, fun x y z a1 a2 => ?_⟩
    · show decide (lcmp x.xs x.xs < 0) = false
      rw [lcmp_self]; decide
    · unfold ltOf at *; exact decide_eq_true (lcmp_trans _ _ _ (of_decide_eq_true a1) (of_decide_eq_true a2))
    · unfold ltOf at *; exact decide_eq_false (lcmp_ntrans _ _ _ (of_decide_eq_false a1) (of_decide_eq_false a2))
  have h1c : OneCell (El.v (w := w) (base := base) (n := n)) := fun x => by
    obtain ⟨p, c, e⟩ := owns_slice x.own
    rw [e]; rfl
  have hH : Holds (El.v (w := w) (base := base) (n := n)) w g 0 l.toArray := by
    intro j hj
    have hj' : j < l.length := by simpa using hj
    refine ⟨?_, by simp [World.frozen?, hh]⟩
    rw [hu] at hrow
    rw [Nat.zero_add, owns_val hrow (by omega), getElem!_pos _ j hj, ← hv]
    simp [List.getD, hj']
  have eg : ∀ args w, (callFunc 15 args).run Try.prog w = .ok (.enter 15 args) w := enters_of Try.func15 (by kernel_rfl) rfl
  have hcon := Any.slices_SortFunc laysS (El.v (w := w) (base := base) (n := n)) h1c (fun x y => lcmp x.xs y.xs) hO 15 #[] g 0 cap l.toArray w eg hcmp hH hg (by simp; omega)
  have hsz : l.toArray.size = vs.length := by simp [hvl]
  rw [hsz] at hcon
  rw [hu]
  refine Calls.mono (show Calls Try.prog 14 _ _ _ from hcon) ?_
  rintro e w' ⟨rfl, d', k, os, hp, _, rfl⟩
  have hds : d'.size = vs.length := by rw [hp.1, hsz]
  have hperm : d'.toList.Perm l := by
    have h9 := hp.2.2
    have e1 : (d'.extract 0 vs.length).toList = d'.toList := by rw [← hds]; simp
    have e2 : (l.toArray.extract 0 vs.length).toList = l := by rw [← hsz]; simp
    rw [e1, e2] at h9
    exact h9
  refine ⟨rfl, d'.toList.map El.v, d'.toList.map El.xs, ?_, ⟨?_, ?_⟩, ?_⟩
  · rw [← hx]; exact hperm.map _
  · have hlen : (d'.toList.map El.v).length = vs.length := by simp [hds]
    rw [hlen]
    refine ⟨by rw [hlen, Nat.mul_one], Or.inr ⟨g, cap, putCells El.v 0 d' cur, rfl, hgb, sw_row El.v w g k d' os hh, hc1, hc2, ?_, ?_⟩⟩
    · rw [← hcs]; simp [putCells]
    · rw [Nat.mul_one, ← hds]
      exact put_take El.v d' cur (by rw [hds, hcs, Nat.mul_one]; exact hc1)
  · exact all_of_els d'.toList (fun e => sw_own El.v w g 0 k d' os e.own (hoff e))
  · refine ⟨rfl, rfl, rfl, ?_, fun b hb => sw_block El.v w g 0 k d' os (by omega) (by omega)⟩
    unfold sortWorld grow putRow mapBlock Sort.ahead
    simp

end Go.Proofs.Ytigiigoembpcdaa

/- Contract: slices.SortFunc with slices.Compare over a list of rows that the call owns, none among them too. -/
namespace Go.Proofs.Ytigiigoembpcdaa
open Go.RowKit Go.Shelf

theorem sort_any (n base : Nat) (u : Value) (vs : List Value) (X : List (List Int)) (w : World) (hLL : LL w base u vs X) (hX : ∀ x, x ∈ X → x.length = n) (h1 : 1 ≤ n) (hN2 : X.length ≤ 40000) :
    Calls Try.prog 14 #[u, .func (.func 15) #[] #[]] w fun e w' => e = .returned (.tuple #[]) ∧ ∃ vs' X', X'.Perm X ∧ LL w' base u vs' X' ∧ Below base w w' := by
  by_cases hN : 1 ≤ X.length
  · exact sort_ok n base u vs X w hLL hX h1 hN hN2
  · have hv0 : vs.length = 0 := by rw [hLL.len]; omega
    obtain ⟨p, c, hu⟩ := owns_slice hLL.row
    have hS := AnyF.slices_SortFunc_none (P := Try.prog) (ρ := rnS) { laysS with } p c (.func (.func 15) #[] #[]) w
    rw [hu, hv0]
    refine Calls.mono (show Calls Try.prog 14 _ _ _ from hS) ?_
    rintro e w' ⟨rfl, rfl⟩
    refine ⟨rfl, vs, X, List.Perm.refl _, ?_, Below.refl _ _⟩
    rw [hu, hv0] at hLL
    exact hLL

end Go.Proofs.Ytigiigoembpcdaa

/- Plain: the runes of a text. -/
namespace Go.Proofs.Ytigiigoembpcdaa
open Go.RowKit Go.Lib

/-- The runes of a text from a place on, at most so many. -/
def rns (s : ByteArray) : Nat → Nat → List Nat
  | 0, _ => []
  | f + 1, pos => if pos < s.size then (Utf8.decode s pos).1 :: rns s f (pos + (Utf8.decode s pos).2) else []

def runesOf (s : ByteArray) : List Nat := rns s s.size 0

theorem rns_length (s : ByteArray) : ∀ f pos, (rns s f pos).length ≤ f
  | 0, _ => by simp [rns]
  | f + 1, pos => by
    have ih := rns_length s f (pos + (Utf8.decode s pos).2)
    unfold rns
    split
    · simp; omega
    · simp

theorem runesOf_length (s : ByteArray) : (runesOf s).length ≤ s.size := rns_length s _ _

/-- Runes up to a place, and the rest. -/
def RunesTo (s : ByteArray) (pre : List Nat) (pos : Nat) : Prop := ∃ f, s.size - pos ≤ f ∧ runesOf s = pre ++ rns s f pos

theorem runesTo_start (s : ByteArray) : RunesTo s [] 0 := ⟨s.size, by omega, rfl⟩

theorem RunesTo.next {s : ByteArray} {pre : List Nat} {pos : Nat} (h : RunesTo s pre pos) (hp : pos < s.size) : RunesTo s (pre ++ [(Utf8.decode s pos).1]) (pos + (Utf8.decode s pos).2) := by
  obtain ⟨f, hf, e⟩ := h
  have hw := decode_width_pos s pos hp
  match f, hf, e with
  | 0, hf, _ => omega
  | f + 1, hf, e =>
    refine ⟨f, by omega, ?_⟩
    rw [e, rns, if_pos hp, List.append_assoc, List.singleton_append]

theorem RunesTo.done {s : ByteArray} {pre : List Nat} {pos : Nat} (h : RunesTo s pre pos) (hp : ¬ pos < s.size) : runesOf s = pre := by
  obtain ⟨f, hf, e⟩ := h
  rw [e]
  cases f with
  | zero => simp [rns]
  | succ f => rw [rns, if_neg hp, List.append_nil]

theorem RunesTo.mem {s : ByteArray} {pre : List Nat} {pos : Nat} (h : RunesTo s pre pos) (hp : pos < s.size) : (Utf8.decode s pos).1 ∈ runesOf s ∧ pre.length < s.size := by
  obtain ⟨f, hf, e⟩ := h.next hp
  constructor
  · rw [e]; simp
  · have := runesOf_length s
    rw [e] at this
    simp at this
    omega

theorem decode_le (s : ByteArray) (pos : Nat) : (Utf8.decode s pos).1 ≤ 1114111 := by
  rw [decode_at]
  have h0 : (s.get! pos).toNat < 256 := UInt8.toNat_lt _
  unfold decodeN
  repeat' split
  all_goals simp only
  all_goals omega

end Go.Proofs.Ytigiigoembpcdaa

/- Contracts: ofName, Name of package method, at every text. -/
namespace Go.Proofs.Ytigiigoembpcdaa
open Go.RowKit Go.Lib

/-- May a rune be in a name? -/
def ofn (r : Nat) : Bool := decide (65 ≤ r ∧ r ≤ 90 ∨ 97 ≤ r ∧ r ≤ 122 ∨ 48 ≤ r ∧ r ≤ 57 ∨ r = 32 ∨ (192 ≤ r ∧ r ≤ 382 ∧ r ≠ 215 ∧ r ≠ 247))

set_option maxRecDepth 20000 in
set_option maxHeartbeats 4000000 in
theorem ofName_any (r : Nat) (w : World) (hr : r ≤ 1114111) : Calls Try.prog 47 #[.int .i32 r] w fun e w' => e = .returned (.bool (ofn r)) ∧ w = w' := by
  have hcase : r < 32 ∨ r = 32 ∨ (33 ≤ r ∧ r ≤ 47) ∨ (48 ≤ r ∧ r ≤ 57) ∨ (58 ≤ r ∧ r ≤ 64) ∨ (65 ≤ r ∧ r ≤ 90) ∨ (91 ≤ r ∧ r ≤ 96) ∨ (97 ≤ r ∧ r ≤ 122) ∨ (123 ≤ r ∧ r ≤ 191) ∨ (192 ≤ r ∧ r ≤ 214) ∨ r = 215 ∨ (216 ≤ r ∧ r ≤ 246) ∨ r = 247 ∨ (248 ≤ r ∧ r ≤ 382) ∨ 383 ≤ r := by omega
  rcases hcase with h | h | ⟨h1, h2⟩ | ⟨h1, h2⟩ | ⟨h1, h2⟩ | ⟨h1, h2⟩ | ⟨h1, h2⟩ | ⟨h1, h2⟩ | ⟨h1, h2⟩ | ⟨h1, h2⟩ | h | ⟨h1, h2⟩ | h | ⟨h1, h2⟩ | h
  · have hb : Hid (ofn r = false) := by show _ = _; unfold ofn; exact decide_eq_false (by omega)
    have e32 : ((r : Int) == 32) = false := by rw [beq_eq_false_iff_ne]; omega
    have e215 : ((r : Int) == 215) = false := by rw [beq_eq_false_iff_ne]; omega
    have e247 : ((r : Int) == 247) = false := by rw [beq_eq_false_iff_ne]; omega
    go_enter Try.func47, Try.ntmps47
    go_wp2
    go_ret
    exact ⟨ret_bool (by first | exact hb.out.symm | (rw [hb.out]; exact decide_eq_true (by omega)) | (rw [hb.out]; exact decide_eq_false (by omega))), rfl⟩
  · have hb : Hid (ofn r = true) := by show _ = _; unfold ofn; exact decide_eq_true (by omega)
    subst h
    go_enter Try.func47, Try.ntmps47
    go_wp2
    go_ret
    exact ⟨ret_bool (by first | exact hb.out.symm | (rw [hb.out]; exact decide_eq_true (by omega)) | (rw [hb.out]; exact decide_eq_false (by omega))), rfl⟩
  · have hb : Hid (ofn r = false) := by show _ = _; unfold ofn; exact decide_eq_false (by omega)
    have e32 : ((r : Int) == 32) = false := by rw [beq_eq_false_iff_ne]; omega
    have e215 : ((r : Int) == 215) = false := by rw [beq_eq_false_iff_ne]; omega
    have e247 : ((r : Int) == 247) = false := by rw [beq_eq_false_iff_ne]; omega
    go_enter Try.func47, Try.ntmps47
    go_wp2
    go_ret
    exact ⟨ret_bool (by first | exact hb.out.symm | (rw [hb.out]; exact decide_eq_true (by omega)) | (rw [hb.out]; exact decide_eq_false (by omega))), rfl⟩
  · have hb : Hid (ofn r = true) := by show _ = _; unfold ofn; exact decide_eq_true (by omega)
    have e32 : ((r : Int) == 32) = false := by rw [beq_eq_false_iff_ne]; omega
    have e215 : ((r : Int) == 215) = false := by rw [beq_eq_false_iff_ne]; omega
    have e247 : ((r : Int) == 247) = false := by rw [beq_eq_false_iff_ne]; omega
    go_enter Try.func47, Try.ntmps47
    go_wp2
    go_ret
    exact ⟨ret_bool (by first | exact hb.out.symm | (rw [hb.out]; exact decide_eq_true (by omega)) | (rw [hb.out]; exact decide_eq_false (by omega))), rfl⟩
  · have hb : Hid (ofn r = false) := by show _ = _; unfold ofn; exact decide_eq_false (by omega)
    have e32 : ((r : Int) == 32) = false := by rw [beq_eq_false_iff_ne]; omega
    have e215 : ((r : Int) == 215) = false := by rw [beq_eq_false_iff_ne]; omega
    have e247 : ((r : Int) == 247) = false := by rw [beq_eq_false_iff_ne]; omega
    go_enter Try.func47, Try.ntmps47
    go_wp2
    go_ret
    exact ⟨ret_bool (by first | exact hb.out.symm | (rw [hb.out]; exact decide_eq_true (by omega)) | (rw [hb.out]; exact decide_eq_false (by omega))), rfl⟩
  · have hb : Hid (ofn r = true) := by show _ = _; unfold ofn; exact decide_eq_true (by omega)
    have e32 : ((r : Int) == 32) = false := by rw [beq_eq_false_iff_ne]; omega
    have e215 : ((r : Int) == 215) = false := by rw [beq_eq_false_iff_ne]; omega
    have e247 : ((r : Int) == 247) = false := by rw [beq_eq_false_iff_ne]; omega
    go_enter Try.func47, Try.ntmps47
    go_wp2
    go_ret
    exact ⟨ret_bool (by first | exact hb.out.symm | (rw [hb.out]; exact decide_eq_true (by omega)) | (rw [hb.out]; exact decide_eq_false (by omega))), rfl⟩
  · have hb : Hid (ofn r = false) := by show _ = _; unfold ofn; exact decide_eq_false (by omega)
    have e32 : ((r : Int) == 32) = false := by rw [beq_eq_false_iff_ne]; omega
    have e215 : ((r : Int) == 215) = false := by rw [beq_eq_false_iff_ne]; omega
    have e247 : ((r : Int) == 247) = false := by rw [beq_eq_false_iff_ne]; omega
    go_enter Try.func47, Try.ntmps47
    go_wp2
    go_ret
    exact ⟨ret_bool (by first | exact hb.out.symm | (rw [hb.out]; exact decide_eq_true (by omega)) | (rw [hb.out]; exact decide_eq_false (by omega))), rfl⟩
  · have hb : Hid (ofn r = true) := by show _ = _; unfold ofn; exact decide_eq_true (by omega)
    have e32 : ((r : Int) == 32) = false := by rw [beq_eq_false_iff_ne]; omega
    have e215 : ((r : Int) == 215) = false := by rw [beq_eq_false_iff_ne]; omega
    have e247 : ((r : Int) == 247) = false := by rw [beq_eq_false_iff_ne]; omega
    go_enter Try.func47, Try.ntmps47
    go_wp2
    go_ret
    exact ⟨ret_bool (by first | exact hb.out.symm | (rw [hb.out]; exact decide_eq_true (by omega)) | (rw [hb.out]; exact decide_eq_false (by omega))), rfl⟩
  · have hb : Hid (ofn r = false) := by show _ = _; unfold ofn; exact decide_eq_false (by omega)
    have e32 : ((r : Int) == 32) = false := by rw [beq_eq_false_iff_ne]; omega
    have e215 : ((r : Int) == 215) = false := by rw [beq_eq_false_iff_ne]; omega
    have e247 : ((r : Int) == 247) = false := by rw [beq_eq_false_iff_ne]; omega
    go_enter Try.func47, Try.ntmps47
    go_wp2
    go_ret
    exact ⟨ret_bool (by first | exact hb.out.symm | (rw [hb.out]; exact decide_eq_true (by omega)) | (rw [hb.out]; exact decide_eq_false (by omega))), rfl⟩
  · have hb : Hid (ofn r = true) := by show _ = _; unfold ofn; exact decide_eq_true (by omega)
    have e32 : ((r : Int) == 32) = false := by rw [beq_eq_false_iff_ne]; omega
    have e215 : ((r : Int) == 215) = false := by rw [beq_eq_false_iff_ne]; omega
    have e247 : ((r : Int) == 247) = false := by rw [beq_eq_false_iff_ne]; omega
    go_enter Try.func47, Try.ntmps47
    go_wp2
    go_ret
    exact ⟨ret_bool (by first | exact hb.out.symm | (rw [hb.out]; exact decide_eq_true (by omega)) | (rw [hb.out]; exact decide_eq_false (by omega))), rfl⟩
  · have hb : Hid (ofn r = false) := by show _ = _; unfold ofn; exact decide_eq_false (by omega)
    subst h
    go_enter Try.func47, Try.ntmps47
    go_wp2
    go_ret
    exact ⟨ret_bool (by first | exact hb.out.symm | (rw [hb.out]; exact decide_eq_true (by omega)) | (rw [hb.out]; exact decide_eq_false (by omega))), rfl⟩
  · have hb : Hid (ofn r = true) := by show _ = _; unfold ofn; exact decide_eq_true (by omega)
    have e32 : ((r : Int) == 32) = false := by rw [beq_eq_false_iff_ne]; omega
    have e215 : ((r : Int) == 215) = false := by rw [beq_eq_false_iff_ne]; omega
    have e247 : ((r : Int) == 247) = false := by rw [beq_eq_false_iff_ne]; omega
    go_enter Try.func47, Try.ntmps47
    go_wp2
    go_ret
    exact ⟨ret_bool (by first | exact hb.out.symm | (rw [hb.out]; exact decide_eq_true (by omega)) | (rw [hb.out]; exact decide_eq_false (by omega))), rfl⟩
  · have hb : Hid (ofn r = false) := by show _ = _; unfold ofn; exact decide_eq_false (by omega)
    subst h
    go_enter Try.func47, Try.ntmps47
    go_wp2
    go_ret
    exact ⟨ret_bool (by first | exact hb.out.symm | (rw [hb.out]; exact decide_eq_true (by omega)) | (rw [hb.out]; exact decide_eq_false (by omega))), rfl⟩
  · have hb : Hid (ofn r = true) := by show _ = _; unfold ofn; exact decide_eq_true (by omega)
    have e32 : ((r : Int) == 32) = false := by rw [beq_eq_false_iff_ne]; omega
    have e215 : ((r : Int) == 215) = false := by rw [beq_eq_false_iff_ne]; omega
    have e247 : ((r : Int) == 247) = false := by rw [beq_eq_false_iff_ne]; omega
    go_enter Try.func47, Try.ntmps47
    go_wp2
    go_ret
    exact ⟨ret_bool (by first | exact hb.out.symm | (rw [hb.out]; exact decide_eq_true (by omega)) | (rw [hb.out]; exact decide_eq_false (by omega))), rfl⟩
  · have hb : Hid (ofn r = false) := by show _ = _; unfold ofn; exact decide_eq_false (by omega)
    have e32 : ((r : Int) == 32) = false := by rw [beq_eq_false_iff_ne]; omega
    have e215 : ((r : Int) == 215) = false := by rw [beq_eq_false_iff_ne]; omega
    have e247 : ((r : Int) == 247) = false := by rw [beq_eq_false_iff_ne]; omega
    go_enter Try.func47, Try.ntmps47
    go_wp2
    go_ret
    exact ⟨ret_bool (by first | exact hb.out.symm | (rw [hb.out]; exact decide_eq_true (by omega)) | (rw [hb.out]; exact decide_eq_false (by omega))), rfl⟩

/-- The k-th byte; 0 beyond. -/
def bt (s : ByteArray) (k : Nat) : Nat := ((s.data.toList[k]?).getD 0).toNat

theorem bt_get {s : ByteArray} {k : Nat} (h : k < s.size) : (s[k]'h).toNat = bt s k := by
  have h' : k < s.data.toList.length := by rw [Array.length_toList]; exact h
  unfold bt
  rw [List.getElem?_eq_getElem h', Option.getD_some]
  rfl

theorem bt_lt (s : ByteArray) (k : Nat) : bt s k < 256 := by unfold bt; exact UInt8.toNat_lt _

/-- Is it a name? -/
def nm (s : ByteArray) : Bool := (runesOf s).all ofn && decide (1 ≤ (runesOf s).length ∧ (runesOf s).length ≤ 20 ∧ bt s 0 ≠ 32 ∧ bt s (s.size - 1) ≠ 32)

theorem nm_bad {s : ByteArray} {r : Nat} (h : r ∈ runesOf s) (hr : ofn r = false) : nm s = false := by
  unfold nm
  rw [show (runesOf s).all ofn = false from by rw [List.all_eq_false]; exact ⟨r, h, by simp [hr]⟩]
  rfl

structure NameRel (w wr : World) (s : ByteArray) (pre : List Nat) (pos : Nat) : Prop where
  iter : wr.heap[w.heap.size]? = some (.stringIter s pos)
  rto : RunesTo s pre pos
  all : pre.all ofn = true
  size : w.heap.size < wr.heap.size
  below : Below w.heap.size w wr
set_option maxRecDepth 20000 in
set_option maxHeartbeats 4000000 in
theorem name_any (s : ByteArray) (w : World) (hs : s.size ≤ 9223372036854775807) :
    Calls Try.prog 32 #[.string s] w fun e w' => e = .returned (.bool (nm s)) ∧ Below w.heap.size w w' := by
  go_enter Try.func32, Try.ntmps32
  go_wp2
  go_loopw [3] (fun c wr => ∃ pos pre, c = .int .i64 ((pre.length : Nat) : Int) ∧ NameRel w wr s pre pos) (fun _ wr => s.size - wr.iterPos w.heap.size)
  case atStart => exact ⟨0, [], rfl, ⟨World.iter_heap w s 0, runesTo_start s, rfl, by simp [World.iter], below_iter w s 0⟩⟩
  case round =>
    obtain ⟨pos, pre, rfl, hr⟩ := hrel
    by_cases hp : pos < s.size
    · have hnx : ∀ ty, (Instr.next (.pointer (some ⟨w.heap.size, 0, none⟩)) true ty).run Try.prog wr = .ok (.tuple #[.bool true, .int .i64 (pos : Int), .int .i32 (((Utf8.decode s pos).1 : Nat) : Int)]) (wr.iterAt w.heap.size s (pos + (Utf8.decode s pos).2)) := by
        intro ty
        exact run_next_any_at wr w.heap.size s pos ty hr.iter hp
      have hmem := hr.rto.mem hp
      have HO := hide (ofName_any (Utf8.decode s pos).1 (wr.iterAt w.heap.size s (pos + (Utf8.decode s pos).2)) (decode_le s pos))
      have HIt := hide (iterAt_heap wr w.heap.size s pos (pos + (Utf8.decode s pos).2) hr.iter)
      have HTo := hide (hr.rto.next hp)
      have HI := hide (iterPos_of hr.iter)
      have hbw := hide (below_iterAt hr.below (Nat.le_refl _) s (pos + (Utf8.decode s pos).2))
      have HA := hide hr.all
      have HSz : Hid (w.heap.size < (wr.iterAt w.heap.size s (pos + (Utf8.decode s pos).2)).heap.size) := by show _ < _; rw [iterAt_size]; exact hr.size
      have HW := hide (decode_width_pos s pos hp)
      have hc := hmem.2
      have HM := hide hmem.1
      clear hmem hr
      generalize (Utf8.decode s pos).1 = r at *
      generalize (Utf8.decode s pos).2 = n at *
      cases ho : ofn r with
      | false =>
        have HNM := hide (nm_bad HM.out ho)
        rw [ho] at HO
        clear ho
        go_wp2_with fail
        refine HO.out.mono ?_
        rintro e w' ⟨rfl, rfl⟩
        go_wp2
        go_ret
        exact ⟨ret_bool HNM.out.symm, hbw.out⟩
      | true =>
        rw [ho] at HO
        have HAA : Hid ((pre ++ [r]).all ofn = true) := by show _ = _; rw [List.all_append, HA.out]; simp [ho]
        clear ho
        go_wp2_with fail
        refine HO.out.mono ?_
        rintro e w' ⟨rfl, rfl⟩
        go_wp2
        go_roundw
        case rel => exact ⟨pos + n, pre ++ [r], by rw [List.length_append]; go_num, ⟨HIt.out, HTo.out, HAA.out, HSz.out, hbw.out⟩⟩
        case measure => rw [HI.out, iterPos_of HIt.out]; have := HW.out; omega
    · have hnx := fun ty => run_next_end_at (P := Try.prog) wr w.heap.size s pos ty hr.iter hp
      have HE := hide (hr.rto.done hp)
      have HA := hide hr.all
      have hbw := hr.below
      have hle := runesOf_length s
      rw [HE.out] at hle
      have HNM : Hid (nm s = decide (1 ≤ pre.length ∧ pre.length ≤ 20 ∧ bt s 0 ≠ 32 ∧ bt s (s.size - 1) ≠ 32)) := by
        show _ = _; unfold nm; rw [HE.out, HA.out, Bool.true_and]
      clear hr hp
      generalize pre.length = L at *
      by_cases c1 : 1 ≤ L
      · by_cases c2 : L ≤ 20
        · have hs0 : 0 < s.size := by omega
          have hs1 : s.size - 1 < s.size := by omega
          have hx1 := index_byte s (s.size - 1) hs1 wr
          rw [bt_get hs1] at hx1
          rw [show ((s.size - 1 : Nat) : Int) = (s.size : Int) - 1 from by omega] at hx1
          generalize bt s (s.size - 1) = b1 at *
          have hb0 := bt_get hs0
          generalize hq : (s[0]'hs0).toNat = b0 at *
          by_cases c3 : b0 = 32
          · have hv : Hid (nm s = false) := by show _ = _; rw [HNM.out]; exact decide_eq_false (by omega)
            have hn0 : (((s[0]'hs0).toNat : Int) != 32) = false := by rw [hq, c3]; rfl
            clear c3 hb0 hq
            go_wp2
            go_ret
            exact ⟨ret_bool hv.out.symm, hbw⟩
          · have hn0 : (((s[0]'hs0).toNat : Int) != 32) = true := by rw [hq, bne_iff_ne]; omega
            by_cases c4 : b1 = 32
            · have hv : Hid (nm s = false) := by show _ = _; rw [HNM.out]; exact decide_eq_false (by omega)
              subst c4
              clear c3 hb0 hq
              go_wp2
              go_ret
              exact ⟨ret_bool hv.out.symm, hbw⟩
            · have hv : Hid (nm s = true) := by show _ = _; rw [HNM.out]; exact decide_eq_true (by omega)
              have hn1 : ((b1 : Int) != 32) = true := by rw [bne_iff_ne]; omega
              clear c3 c4 hb0 hq
              go_wp2
              go_ret
              exact ⟨ret_bool hv.out.symm, hbw⟩
        · have hv : Hid (nm s = false) := by show _ = _; rw [HNM.out]; exact decide_eq_false (by omega)
          go_wp2
          go_ret
          exact ⟨ret_bool hv.out.symm, hbw⟩
      · have hv : Hid (nm s = false) := by show _ = _; rw [HNM.out]; exact decide_eq_false (by omega)
        go_wp2
        go_ret
        exact ⟨ret_bool hv.out.symm, hbw⟩

end Go.Proofs.Ytigiigoembpcdaa

/- Contracts: place.Row, ChangeOf. -/
namespace Go.Proofs.Ytigiigoembpcdaa
open Go.RowKit

/-- A row that is changed up to a tile. -/
def Upto (n : Nat) (s : List Bool) (zs : List Int) : Prop := zs.length = n ∧ ∀ j, j < n → zs.getD j 0 = if j < tsz s then (trow s).getD j 0 else (j : Int)

theorem upto_start (n : Nat) : Upto n [] (rnd n) := ⟨rnd_length n, fun j hj => by rw [rnd_get hj, if_neg (by simp [tsz])]⟩

theorem upto_end {n : Nat} {t : List Bool} {zs : List Int} (h : Upto n t zs) (ht : tsz t = n) : zs = trow t :=
  ext_getD (by rw [h.1, trow_length, ht]) (fun j hj => by rw [h.2 j (by rw [← h.1]; exact hj), if_pos (by rw [ht, ← h.1]; exact hj)])

theorem trow_get_old {b : Bool} {s : List Bool} {j : Nat} (h : j < tsz s) : (trow (b :: s)).getD j 0 = (trow s).getD j 0 := by
  have hl : j < (trow s).length := by rw [trow_length]; exact h
  cases b <;> simp only [trow, List.getD] <;> rw [List.getElem?_append_left hl]

theorem trow_get_one (s : List Bool) : (trow (true :: s)).getD (tsz s) 0 = (tsz s : Nat) := by
  simp only [trow, List.getD]; rw [List.getElem?_append_right (by rw [trow_length]; omega), trow_length, Nat.sub_self]; rfl

theorem trow_get_fst (s : List Bool) : (trow (false :: s)).getD (tsz s) 0 = ((tsz s + 1 : Nat) : Int) := by
  simp only [trow, List.getD]; rw [List.getElem?_append_right (by rw [trow_length]; omega), trow_length, Nat.sub_self]; rfl

theorem trow_get_snd (s : List Bool) : (trow (false :: s)).getD (tsz s + 1) 0 = (tsz s : Nat) := by
  simp only [trow, List.getD]; rw [List.getElem?_append_right (by rw [trow_length]; omega), trow_length, show tsz s + 1 - tsz s = 1 from by omega]; rfl

theorem upto_one {n : Nat} {s : List Bool} {zs : List Int} (h : Upto n s zs) : Upto n (true :: s) zs := by
  have e : tsz (true :: s) = tsz s + 1 := rfl
  refine ⟨h.1, fun j hj => ?_⟩
  rw [h.2 j hj]
  by_cases h1 : j < tsz s
  · rw [if_pos h1, if_pos (by omega), trow_get_old h1]
  · by_cases h2 : j = tsz s
    · subst h2; rw [if_neg h1, if_pos (by omega), trow_get_one]
    · rw [if_neg h1, if_neg (by omega)]

theorem upto_two {n : Nat} {s : List Bool} {zs : List Int} (h : Upto n s zs) (hn : tsz s + 2 ≤ n) : Upto n (false :: s) ((zs.set (tsz s) ((tsz s + 1 : Nat) : Int)).set (tsz s + 1) (tsz s : Nat)) := by
  have e : tsz (false :: s) = tsz s + 2 := rfl
  refine ⟨by simp [h.1], fun j hj => ?_⟩
  rw [getD_set (by simp [h.1]; omega), getD_set (by rw [h.1]; omega), h.2 j hj]
  by_cases h1 : tsz s + 1 = j
  · subst h1; rw [if_pos rfl, if_pos (by omega), trow_get_snd]
  · rw [if_neg h1]
    by_cases h2 : tsz s = j
    · subst h2; rw [if_pos rfl, if_pos (by omega), trow_get_fst]
    · rw [if_neg h2]
      by_cases h3 : j < tsz s
      · rw [if_pos h3, if_pos (by omega), trow_get_old h3]
      · rw [if_neg h3, if_neg (by omega)]

theorem upto_at {n : Nat} {s : List Bool} {zs : List Int} (h : Upto n s zs) {j : Nat} (hj : j < n) (hs : tsz s ≤ j) : zs[j]?.getD 0 = (j : Int) := by
  have := h.2 j hj
  rw [if_neg (by omega)] at this
  exact this

set_option maxHeartbeats 4000000 in
theorem prow_ok (t : List Bool) (n : Nat) (v : Value) (w : World) (hn : tsz t = n) (h1 : 1 ≤ n) (h2 : n ≤ 12) (i1 : Ints w v (tpl t)) :
    Calls Try.prog 22 #[.int .i64 n, v] w fun e w' => ∃ v', e = .returned (.tuple #[v', .int .i64 0]) ∧ w'.ownsRow w.heap.size 3 1 v' n ((trow t).map (Value.int .i64)) ∧ Below w.heap.size w w' := by
  have HC := hide (pcheck_any n v (tpl t) w (by omega) (by omega) i1)
  rw [pck_til hn] at HC
  have HI := hide i1
  have HT := hide hn
  clear i1 hn
  go_enter Try.func22, Try.ntmps22
  go_wp2_with fail
  refine HC.out.mono ?_
  rintro e w' ⟨rfl, rfl⟩
  clear HC
  go_wp2_with fail
  refine (rounds_ok n w h1 h2).mono ?_
  rintro e w0 ⟨v', rfl, hown0, hb0⟩
  obtain ⟨g, cap, rfl, hg1, hg2, hcap, hcap2⟩ := owns_form hown0 h1
  go_wp2
  go_loopw [9] (fun i wr => ∃ (u s : List Bool) (zs : List Int), Hid (t = u ++ s) ∧ Hid (Upto n s zs) ∧ tsz s ≤ n ∧ i = .int .i64 (tsz s : Nat) ∧ wr.ownsRow w.heap.size 3 1 (.slice (some ⟨g, 0, none⟩) n cap) n (zs.map (Value.int .i64)) ∧ Below w.heap.size w wr) (fun i _ => n - (intOf i).toNat)
  case atStart => exact ⟨t, [], rnd n, by show _ = _; simp, upto_start n, Nat.zero_le _, rfl, hown0, hb0⟩
  case round =>
    obtain ⟨u, s, zs, hus, hup, hsn, rfl, hown, hbw⟩ := hrel
    clear hown0 hb0
    by_cases hlt : tsz s < n
    · obtain ⟨u', b, hu, hus'⟩ := til_next (u := u) (s := s) (by rw [← hus.out, HT.out]; exact hlt)
      have HU : Hid (t = u' ++ b :: s) := by show _ = _; rw [hus.out, hus']
      have HCo := hide (contains_any v (tpl t) ((tsz s : Nat) + 1) wr (HI.out.below hbw))
      have hm := mem_next u' s b
      rw [← HU.out] at hm
      have hsz : tsz (b :: s) ≤ n := by have := tsz_mono (b :: s) u'; rw [← HU.out, HT.out] at this; exact this
      clear hu hus' hus
      cases b with
      | true =>
        rw [decide_eq_true (hm.2 rfl)] at HCo
        have HZ := hide (upto_one hup.out)
        clear hm hup
        simp only [tsz] at hsz
        go_wp2_with fail
        refine HCo.out.mono ?_
        rintro e w' ⟨rfl, rfl⟩
        go_wp2
        go_roundw
        case rel => exact ⟨u', true :: s, zs, HU, HZ, hsz, by simp only [tsz]; go_num, hown, hbw⟩
        case measure => simp [intOf]; omega
      | false =>
        rw [decide_eq_false (by rw [hm]; decide)] at HCo
        simp only [tsz] at hsz
        have HZ := hide (upto_two hup.out hsz)
        have hl1 : tsz s < n := by omega
        have hl2 : tsz s + 1 < n := by omega
        obtain ⟨y, hy, hcx, hfx⟩ := owns_cellAt hown hl1
        obtain ⟨z, hz, hcz, hfz⟩ := owns_cellAt hown hl2
        have hyv : y = ((tsz s : Nat) : Int) := by rw [← hy.out]; exact upto_at hup.out hl1 (Nat.le_refl _)
        have hzv : z = ((tsz s + 1 : Nat) : Int) := by rw [← hz.out]; exact upto_at hup.out hl2 (by omega)
        clear hm hup hy hz
        have hown1 := owns_set_int (m := tsz s) hown z
        have hown2 := owns_set_int (m := tsz s + 1) hown1 y
        rw [hzv, hyv] at hown2
        have HOW := hide hown2
        generalize hS : tsz s = S' at *
        subst hyv hzv
        clear hown1 hown2
        go_wp2_with fail
        refine HCo.out.mono ?_
        rintro e w' ⟨rfl, rfl⟩
        go_wp2
        go_region
        all_goals
          go_wp2
          go_roundw
          case rel => exact ⟨u', false :: s, _, HU, HZ, by simp only [tsz]; omega, by simp only [tsz]; go_num, HOW.out, ((hbw.setCell (p := ⟨g, S', none⟩) hg1 _).setCell (p := ⟨g, S' + 1, none⟩) hg1 _).drew⟩
          case measure => simp [intOf]; omega
    · have hs : tsz s = n := by omega
      have hu : u = [] := til_whole (by rw [← hus.out, HT.out, hs]; exact Nat.le_refl _)
      have hts : t = s := by rw [hus.out, hu, List.nil_append]
      have hzt : zs = trow t := by rw [hts]; exact upto_end hup.out hs
      have HOW := hide hown
      rw [hzt] at HOW
      clear hown hup hus hzt hts hu
      go_wp2
      go_ret2
      exact ⟨_, rfl, HOW.out, hbw⟩

end Go.Proofs.Ytigiigoembpcdaa

/- Contracts: method.Check. -/
namespace Go.Proofs.Ytigiigoembpcdaa
open Go.RowKit

/-- A method as a value. -/
abbrev meth (s : ByteArray) (n : Int) (v : Value) : Value := .agg #[.string s, .int .i64 n, v]

set_option maxHeartbeats 400000 in
theorem mmay_yes (n : Int) (w : World) (h1 : 2 ≤ n) (h2 : n ≤ 12) :
    Calls Try.prog 33 #[.int .i64 n] w fun e w' => e = .returned (.bool true) ∧ w = w' := by
  go_enter Try.func33, Try.ntmps33
  go_wp2
  go_ret
  exact ⟨rfl, rfl⟩

set_option maxHeartbeats 400000 in
theorem mmay_no (n : Int) (w : World) (h : n < 2 ∨ 12 < n) :
    Calls Try.prog 33 #[.int .i64 n] w fun e w' => e = .returned (.bool false) ∧ w = w' := by
  rcases h with h | h
  · go_enter Try.func33, Try.ntmps33
    go_wp2
    go_ret
    exact ⟨rfl, rfl⟩
  · have h1 : 2 ≤ n := by omega
    have h2 : decide (n ≤ 12) = false := by simp; omega
    go_enter Try.func33, Try.ntmps33
    go_wp2
    go_ret
    exact ⟨rfl, rfl⟩

/-- Where a method lies. -/
structure Box (w : World) (B : Nat) (s : ByteArray) (n : Int) (v : Value) : Prop where
  c0 : w.cell? ⟨B, 0, none⟩ = some (.string s)
  c1 : w.cell? ⟨B, 1, none⟩ = some (.int .i64 n)
  c2 : w.cell? ⟨B, 2, none⟩ = some v
  lt : B < w.heap.size

theorem Box.start (w : World) (s : ByteArray) (n : Int) (v : Value) (t : TypeId) : Box (w.alloc (.cells #[.string s, .int .i64 n, v] t)) w.heap.size s n v := by
  refine ⟨?_, ?_, ?_, by simp⟩ <;> simp

theorem Box.below {w w' : World} {B : Nat} {s : ByteArray} {n : Int} {v : Value} (h : Box w B s n v) (hb : Below w.heap.size w w') : Box w' B s n v :=
  ⟨(hb.cell (p := ⟨B, 0, none⟩) h.lt).trans h.c0, (hb.cell (p := ⟨B, 1, none⟩) h.lt).trans h.c1, (hb.cell (p := ⟨B, 2, none⟩) h.lt).trans h.c2, Nat.lt_of_lt_of_le h.lt hb.size⟩

set_option maxRecDepth 20000 in
set_option maxHeartbeats 4000000 in
theorem mcheck_name (s : ByteArray) (n : Int) (v : Value) (w : World) (hs : s.size ≤ 9223372036854775807) (hn : nm s = false) :
    Calls Try.prog 20 #[meth s n v] w fun e w' => e = .returned (.int .i64 7) ∧ Below w.heap.size w w' := by
  unfold meth
  have HN := hide (fun W => name_any s W hs)
  rw [hn] at HN
  clear hn
  go_enter Try.func20, Try.ntmps20
  go_wp2_with fail
  refine (HN.out _).mono ?_
  rintro e w1 ⟨rfl, hb1⟩
  have hB : Below w.heap.size w w1 := ((Below.refl _ _).alloc (Nat.le_refl _) _).trans (hb1.mono (by simp))
  clear hb1 HN
  go_wp2
  go_ret
  exact ⟨rfl, hB⟩

set_option maxRecDepth 20000 in
set_option maxHeartbeats 4000000 in
theorem mcheck_ok (s : ByteArray) (n : Nat) (v : Value) (css : List (List Int)) (w : World) (hs : s.size ≤ 9223372036854775807) (hn : nm s = true) (h1 : 2 ≤ n) (h2 : n ≤ 12) (hl1 : 1 ≤ css.length) (hl2 : css.length ≤ 200) (hv : IntsAll w v css)
    (hok : ∀ k, k < css.length → okc n 0 (css.getD k []) = true) :
    Calls Try.prog 20 #[meth s n v] w fun e w' => e = .returned (.int .i64 0) ∧ Below w.heap.size w w' := by
  unfold meth
  have HN := hide (fun W => name_any s W hs)
  rw [hn] at HN
  obtain ⟨b, off, cap, rfl, hb, hc1, hc2, hcell⟩ := hv.cell hl1
  have HC := hide hcell
  have HOK := hide hok
  clear hn hv hok hcell
  go_enter Try.func20, Try.ntmps20
  go_wp2_with fail
  refine (HN.out _).mono ?_
  rintro e w1 ⟨rfl, hb1⟩
  have hB : Below w.heap.size w w1 := ((Below.refl _ _).alloc (Nat.le_refl _) _).trans (hb1.mono (by simp))
  have hx := (Box.start w s n (.slice (some ⟨b, off, none⟩) css.length cap) 28).below hb1
  have g1 := hx.c1
  have g2 := hx.c2
  have HX := hide hx
  clear hb1 HN hx
  go_wp2_with fail
  refine (mmay_yes _ _ (by omega) (by omega)).mono ?_
  rintro e w' ⟨rfl, rfl⟩
  go_wp2
  go_loop [29] (fun i => ∃ k : Nat, k ≤ css.length ∧ i = .int .i64 k) (fun i => css.length - (intOf i).toNat)
  case atStart => exact ⟨0, by omega, rfl⟩
  case round =>
    obtain ⟨k, hk, rfl⟩ := hrel
    by_cases hlt : k < css.length
    · obtain ⟨p, c, hcx, hix⟩ := HC.out k hlt
      have gx := (hB.cell (p := ⟨b, off + k, none⟩) (by exact hb)).trans hcx
      have HCk := hide (pcheck_any n _ _ w1 (by omega) (by omega) (hix.out.below hB))
      rw [show pck n (css.getD k []) = 0 from by unfold pck; rw [if_pos (HOK.out k hlt)]] at HCk
      generalize (css.getD k []).length = L at *
      clear hcx hix
      go_wp2_with fail
      refine HCk.out.mono ?_
      rintro e w' ⟨rfl, rfl⟩
      go_wp2
      go_round
      case rel => exact ⟨k + 1, by omega, by go_num⟩
      case measure => simp [intOf]; omega
    · go_wp2
      go_ret
      exact ⟨rfl, hB⟩

end Go.Proofs.Ytigiigoembpcdaa

/- Contract: Pick. -/
namespace Go.Proofs.Ytigiigoembpcdaa
open Go.RowKit

set_option maxHeartbeats 400000 in
theorem pick_any (c n : Int) (w : World) (h1 : -9223372036854775808 ≤ c) (h2 : c ≤ 9223372036854775807) (h3 : 0 < n) (h4 : n ≤ 9223372036854775807) :
    Calls Try.prog 7 #[.int .i64 c, .int .i64 n] w fun e w' => ∃ k : Int, 0 ≤ k ∧ k < n ∧ e = .returned (.int .i64 k) ∧ w = w' := by
  by_cases h : c < 0
  · go_enter Try.func7, Try.ntmps7
    go_wp2
    go_ret
    refine ⟨_, ?_, ?_, rfl, rfl⟩
    · rw [← Int.neg_tmod]; exact Int.tmod_nonneg _ (by omega)
    · rw [← Int.neg_tmod]; exact Int.tmod_lt_of_pos _ h3
  · go_enter Try.func7, Try.ntmps7
    go_wp2
    go_ret
    refine ⟨_, ?_, ?_, rfl, rfl⟩
    · exact Int.emod_nonneg _ (by omega)
    · exact Int.emod_lt_of_pos _ h3

/-- Which of n things a raw number speaks of. -/
def pk (c n : Int) : Int := (if c < 0 then -(c + 1) else c) % n

theorem pk_range (c : Int) {n : Int} (h : 0 < n) : 0 ≤ pk c n ∧ pk c n < n := ⟨Int.emod_nonneg _ (by omega), Int.emod_lt_of_pos _ h⟩

set_option maxHeartbeats 400000 in
theorem pick_det (c n : Int) (w : World) (h1 : -9223372036854775808 ≤ c) (h2 : c ≤ 9223372036854775807) (h3 : 0 < n) (h4 : n ≤ 9223372036854775807) :
    Calls Try.prog 7 #[.int .i64 c, .int .i64 n] w fun e w' => e = .returned (.int .i64 (pk c n)) ∧ w = w' := by
  by_cases h : c < 0
  · have HP : Hid (pk c n = (-(c + 1)) % n) := by show _ = _; unfold pk; rw [if_pos h]
    go_enter Try.func7, Try.ntmps7
    go_wp2
    go_ret
    refine ⟨ret_int ?_, rfl⟩
    rw [HP.out, ← Int.neg_tmod, Int.tmod_eq_emod_of_nonneg (by omega)]
  · have HP : Hid (pk c n = c % n) := by show _ = _; unfold pk; rw [if_neg h]
    go_enter Try.func7, Try.ntmps7
    go_wp2
    go_ret
    exact ⟨ret_int HP.out.symm, rfl⟩

end Go.Proofs.Ytigiigoembpcdaa

/- Contract: Raw. -/
namespace Go.Proofs.Ytigiigoembpcdaa
open Go.RowKit

theorem wrap_I64 (x : Int) : I64 (wrap64 x) := by
  unfold I64 wrap64
  omega

set_option maxRecDepth 20000 in
set_option maxHeartbeats 400000 in
theorem raw_any (v : Value) (xs : List Int) (k : Nat) (w : World) (h : Ints w v xs) (hx : ∀ x, x ∈ xs → I64 x) (hk : k ≤ 1000000) :
    Calls Try.prog 30 #[v, .int .i64 k] w fun e w' => ∃ x, I64 x ∧ e = .returned (.int .i64 x) ∧ w = w' := by
  rcases h with ⟨rfl, p, c, rfl⟩ | ⟨b, off, cap, rfl, h0, hc, hm, hb, hcell⟩
  · go_enter Try.func30, Try.ntmps30
    go_wp2
    go_ret
    exact ⟨0, ⟨by omega, by omega⟩, rfl, rfl⟩
  · have hml : k % xs.length < xs.length := Nat.mod_lt _ h0
    have hme : (k : Int) % (xs.length : Int) = ((k % xs.length : Nat) : Int) := (Int.natCast_emod k xs.length).symm
    obtain ⟨x, hxe, hcx⟩ := cellAt hcell hml
    have hxm : I64 x := hx x (by rw [← hxe.out, List.getElem?_eq_getElem hml]; exact List.getElem_mem hml)
    have hne : ((xs.length : Int) == 0) = false := by rw [beq_eq_false_iff_ne]; omega
    generalize k % xs.length = m at *
    have HX := hide hx
    clear hcell hx hxe
    go_enter Try.func30, Try.ntmps30
    go_wp2
    go_ret
    exact ⟨x, hxm, rfl, rfl⟩

end Go.Proofs.Ytigiigoembpcdaa

/- Contract: ChangeOf. -/
namespace Go.Proofs.Ytigiigoembpcdaa
open Go.RowKit

set_option maxRecDepth 20000 in
set_option maxHeartbeats 2000000 in
theorem changeOf_ok (c : Int) (n : Nat) (w : World) (hc : I64 c) (h1 : 1 ≤ n) (h2 : n ≤ 12) :
    Calls Try.prog 29 #[.int .i64 c, .int .i64 n] w fun e w' => ∃ v t, e = .returned v ∧ tsz t = n ∧ w'.ownsRow w.heap.size 3 1 v (tpl t).length ((tpl t).map (Value.int .i64)) ∧ Below w.heap.size w w' := by
  obtain ⟨i0, hi, hz0, hz1, hz2⟩ := info_parts Try.info3
  obtain ⟨l0, u0⟩ := hc
  go_enter Try.func29, Try.ntmps29
  go_wp2_with fail
  refine (pick_any _ _ _ l0 u0 (by omega) (by omega)).mono ?_
  rintro e wa ⟨q0, hq0, hq1, rfl, rfl⟩
  clear l0 u0
  go_wp2
  go_loopw [0, 5, 6] (fun c v a wr => ∃ (q : Int) (t : List Bool), 0 ≤ q ∧ q < 1099511627776 ∧ tsz t ≤ n ∧ c = .int .i64 q ∧ a = .int .i64 ((tsz t + 1 : Nat) : Int) ∧ wr.ownsRow w.heap.size 3 1 v (tpl t).length ((tpl t).map (Value.int .i64)) ∧ Below w.heap.size w wr) (fun _ _ a _ => n + 1 - (intOf a).toNat)
  case atStart => exact ⟨q0, [], hq0, hq1, Nat.zero_le _, rfl, rfl, World.ownsRow_nil _ _ _ _, Below.refl _ _⟩
  case round =>
    obtain ⟨q, t, hq0, hq1, hts, rfl, rfl, hown, hbw⟩ := hrel
    have hbs := hbw.size
    have htl : (tpl t).length ≤ tsz t := by have := tpl_length t; omega
    by_cases hlt : tsz t + 1 ≤ n
    · have hq3 : 0 ≤ q / 3 := by omega
      have hq4 : q / 3 < 1099511627776 := by omega
      have HT1 : Hid (tpl (true :: t) = tpl t ++ [((tsz t + 1 : Nat) : Int)]) := rfl
      have HT2 : Hid (tsz (true :: t) = tsz t + 1) := rfl
      by_cases hc : q % 3 = 0 ∨ tsz t + 1 = n
      · have hstep : ∀ (W : World) (v' : Value), W.ownsRow w.heap.size 3 1 v' ((tpl t).length + 1) ((tpl t).map (Value.int .i64) ++ [Value.int .i64 ((tsz t + 1 : Nat) : Int)]) → W.ownsRow w.heap.size 3 1 v' (tpl (true :: t)).length ((tpl (true :: t)).map (Value.int .i64)) := by
          intro W v' h
          rw [HT1.out, List.length_append, List.map_append]
          exact h
        have HST := hide hstep
        clear hstep
        by_cases hc1 : q % 3 = 0
        · have hd1 : (q % 3 == 0) = true := by simpa using hc1
          clear hc hc1
          go_wp2_with (at_builtin; refine wpList_append_own _ rfl _ _ 22 rfl w.heap.size 3 i0 (.int .i64 0) 1 8 Try.underlying22 hi hz0 hz1 hz2 rfl (by decide) _ _ _ rfl (hown.alloc _) ⟨wr.heap.size, 0, none⟩ 1 1 [.int .i64 ((tsz t + 1 : Nat) : Int)] rfl rfl ?c1 ?c2 ?c3 ?c4 ?c5 ?_)
          case c1 => exact cell_one_new _ _ _
          case c2 => intro u hu; simp at hu; subst hu; rfl
          case c3 => unfold maxLen; omega
          case c4 => omega
          case c5 => simp; omega
          · intro v' w1 hown' hgrow _
            go_wp2
            go_roundw
            case rel => exact ⟨q / 3, true :: t, hq3, hq4, by rw [HT2.out]; omega, by go_num, by rw [HT2.out]; go_num, HST.out _ _ hown', (hbw.alloc hbw.size _).grown hgrow (by simp; omega) (fun g hg => (hown.lt g hg).1)⟩
            case measure => simp [intOf]; omega
        · have hd1 : (q % 3 == 0) = false := by simpa using hc1
          have hc2 : tsz t + 1 = n := by rcases hc with h | h; exact absurd h hc1; exact h
          have hd2 : (((tsz t + 1 : Nat) : Int) == (n : Int)) = true := by rw [hc2]; simp
          clear hc hc1 hc2
          go_wp2_with (at_builtin; refine wpList_append_own _ rfl _ _ 22 rfl w.heap.size 3 i0 (.int .i64 0) 1 8 Try.underlying22 hi hz0 hz1 hz2 rfl (by decide) _ _ _ rfl (hown.alloc _) ⟨wr.heap.size, 0, none⟩ 1 1 [.int .i64 ((tsz t + 1 : Nat) : Int)] rfl rfl ?c1 ?c2 ?c3 ?c4 ?c5 ?_)
          case c1 => exact cell_one_new _ _ _
          case c2 => intro u hu; simp at hu; subst hu; rfl
          case c3 => unfold maxLen; omega
          case c4 => omega
          case c5 => simp; omega
          · intro v' w1 hown' hgrow _
            go_wp2
            go_roundw
            case rel => exact ⟨q / 3, true :: t, hq3, hq4, by rw [HT2.out]; omega, by go_num, by rw [HT2.out]; go_num, HST.out _ _ hown', (hbw.alloc hbw.size _).grown hgrow (by simp; omega) (fun g hg => (hown.lt g hg).1)⟩
            case measure => simp [intOf]; omega
      · have hd1 : (q % 3 == 0) = false := by simp; omega
        have hd2 : (((tsz t + 1 : Nat) : Int) == (n : Int)) = false := by rw [beq_eq_false_iff_ne]; omega
        have hl2 : tsz t + 2 ≤ n := by omega
        have HT3 : Hid (tsz (false :: t) = tsz t + 2) := rfl
        clear hc
        go_wp2
        go_roundw
        case rel => exact ⟨q / 3, false :: t, hq3, hq4, by rw [HT3.out]; omega, by go_num, by rw [HT3.out]; go_num, hown, hbw⟩
        case measure => simp [intOf]; omega
    · go_wp2
      go_ret
      exact ⟨_, t, rfl, by omega, hown, hbw⟩

end Go.Proofs.Ytigiigoembpcdaa

/- Contract: ChangesOf. -/
namespace Go.Proofs.Ytigiigoembpcdaa
open Go.RowKit

set_option maxRecDepth 20000 in
set_option maxHeartbeats 2000000 in
theorem changesOf_ok (v : Value) (xs : List Int) (f n m : Nat) (w : World) (h : Ints w v xs) (hx : ∀ x, x ∈ xs → I64 x) (hf : f ≤ 1000) (h1 : 1 ≤ n) (h12 : n ≤ 12) (hm : m ≤ 1000) :
    Calls Try.prog 16 #[v, .int .i64 f, .int .i64 n, .int .i64 m] w fun e w' => ∃ (u : Value) (vs : List Value) (ts : List (List Bool)), e = .returned u ∧ ts.length = m ∧ (∀ t, t ∈ ts → tsz t = n) ∧ LL w' w.heap.size u vs (ts.map tpl) ∧ Below w.heap.size w w' := by
  obtain ⟨i0, hi, hz0, hz1, hz2⟩ := info_parts Try.info22
  have HI := hide h
  have HX := hide hx
  clear h hx
  go_enter Try.func16, Try.ntmps16
  go_wp2
  go_loopw [9, 10] (fun u i wr => ∃ (k : Nat) (vs : List Value) (ts : List (List Bool)), k ≤ m ∧ i = .int .i64 k ∧ Hid (ts.length = k) ∧ Hid (vs.length = k) ∧ Hid (∀ t, t ∈ ts → tsz t = n) ∧ Hid (LL wr w.heap.size u vs (ts.map tpl)) ∧ Below w.heap.size w wr) (fun _ i _ => m - (intOf i).toNat)
  case atStart => exact ⟨0, [], [], by omega, rfl, rfl, rfl, (fun t ht => by cases ht), LL.nil _ _, Below.refl _ _⟩
  case round =>
    obtain ⟨k, vs, ts, hk, rfl, hl, hlv, hts, hL, hbw⟩ := hrel
    have hbs := hbw.size
    by_cases hlt : k < m
    · have e1 : (f : Int) + (k : Int) = ((f + k : Nat) : Int) := by omega
      have HRaw1 := hide (raw_any v xs (f + k) wr (HI.out.below hbw) HX.out (by omega))
      rw [← e1] at HRaw1
      clear e1
      go_wp2_with fail
      refine HRaw1.out.mono ?_
      rintro e wa ⟨x1, hx1, rfl, rfl⟩
      go_wp2_with fail
      refine (changeOf_ok x1 n _ hx1 h1 h12).mono ?_
      rintro e w1 ⟨u, t, rfl, ht, ho, hb1⟩
      have hL1 := hL.out.below hb1
      have hrow1 := hL1.row
      have hou := owns_base ho hbs
      obtain ⟨p, c, rfl⟩ := owns_slice ho
      have HOU := hide hou
      have HL1 := hide hL1
      have HT := hide ht
      have hb2 := hbw.trans (hb1.mono hbs)
      have hs1 := hb2.size
      rw [hlv.out] at hrow1
      generalize hpl : (tpl t).length = pl at *
      clear ho hou hL1 hL ht hb1 hbw
      go_wp2_with (at_builtin; refine wpList_append_own _ rfl _ _ 23 rfl w.heap.size 22 i0 (.slice none 0 0) 1 24 Try.underlying23 hi hz0 hz1 hz2 rfl (by decide) _ _ _ rfl (hrow1.alloc _) ⟨w1.heap.size, 0, none⟩ 1 1 [.slice p pl c] rfl rfl ?c1 ?c2 ?c3 ?c4 ?c5 ?_)
      case c1 => exact cell_one_new _ _ _
      case c2 => intro u hu; simp at hu; subst hu; rfl
      case c3 => unfold maxLen; omega
      case c4 => omega
      case c5 => simp; omega
      · intro v' w4 hown4 hgrow _
        have HL4 : Hid (LL w4 w.heap.size v' (vs ++ [.slice p pl c]) ((ts ++ [t]).map tpl)) := by
          show LL _ _ _ _ _
          rw [List.map_append]
          exact HL1.out.push (by rw [hpl]; exact HOU.out) (by rw [hlv.out]; exact hown4) hgrow
        have hB4 := HL1.out.step hb2 (Nat.le_refl _) hs1 hgrow
        have HLE : Hid ((ts ++ [t]).length = k + 1) := by show _ = _; rw [List.length_append, hl.out]; rfl
        have HLV : Hid ((vs ++ [Value.slice p pl c]).length = k + 1) := by show _ = _; rw [List.length_append, hlv.out]; rfl
        have HTS : Hid (∀ t', t' ∈ ts ++ [t] → tsz t' = n) := by
          intro t' ht'
          rcases List.mem_append.1 ht' with h | h
          · exact hts.out t' h
          · rw [List.mem_singleton.1 h]; exact HT.out
        clear hown4 hgrow hrow1 hpl
        go_wp2
        go_roundw
        case rel => exact ⟨k + 1, _, ts ++ [t], by omega, by go_num, HLE, HLV, HTS, HL4, hB4⟩
        case measure => simp [intOf]; omega
    · go_wp2
      go_ret
      exact ⟨_, vs, ts, rfl, by have := hl.out; omega, hts.out, hL.out, hbw⟩

end Go.Proofs.Ytigiigoembpcdaa

/- What is known of a row behind a slice; the contracts of package row in its terms. -/
namespace Go.Proofs.Ytigiigoembpcdaa
open Go.RowKit

/-- What is known of a row behind a slice. -/
structure RowAt (w : World) (v : Value) (n : Nat) (X : List Int) : Prop where
  ints : Ints w v X
  row : isRow X
  len : X.length = n

theorem RowAt.below {w w' : World} {v : Value} {n : Nat} {X : List Int} (h : RowAt w v n X) (hb : Below w.heap.size w w') : RowAt w' v n X := ⟨h.ints.below hb, h.row, h.len⟩

theorem times_row {n : Nat} {v1 v2 : Value} {X Y : List Int} {w : World} (h1 : 1 ≤ n) (h2 : n ≤ 12) (hx : RowAt w v1 n X) (hy : RowAt w v2 n Y) :
    Calls Try.prog 23 #[v1, v2] w fun e w' => ∃ v, e = .returned (.tuple #[v, .int .i64 0]) ∧ RowAt w' v n (by_ X Y) ∧ Below w.heap.size w w' := by
  have e1 := hx.len
  have e2 := hy.len
  refine (times_ok v1 v2 X Y w hx.ints hy.ints hx.row hy.row (by omega) (by omega) (by omega)).mono ?_
  rintro e w' ⟨v, rfl, hi, hb⟩
  exact ⟨v, rfl, ⟨hi, isRow_by hx.row hy.row (by omega), by rw [by_length]; exact e2⟩, hb⟩

theorem back_row {n : Nat} {v1 : Value} {X : List Int} {w : World} (h1 : 1 ≤ n) (h2 : n ≤ 12) (hx : RowAt w v1 n X) :
    Calls Try.prog 25 #[v1] w fun e w' => ∃ v Z, e = .returned (.tuple #[v, .int .i64 0]) ∧ RowAt w' v n Z ∧ by_ X Z = rnd n ∧ Below w.heap.size w w' := by
  have e1 := hx.len
  refine (back_ok v1 X w hx.ints hx.row (by omega) (by omega)).mono ?_
  rintro e w' ⟨v, Z, rfl, hi, hu, hb⟩
  exact ⟨v, Z, rfl, ⟨hi, isRow_undoes hx.row hu, hu.1.trans e1⟩, by rw [by_undoes hx.row hu, e1], hb⟩

theorem RowAt.own {w : World} {base : Nat} {v : Value} {n : Nat} {X : List Int} (h : w.ownsRow base 3 1 v n (X.map (Value.int .i64))) (hr : isRow X) : RowAt w v n X :=
  ⟨Ints.own h, hr, by have := h.1; simpa using this⟩

end Go.Proofs.Ytigiigoembpcdaa
