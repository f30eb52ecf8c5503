/- Joined: BqC, BqD, BqE, BqF, BqG, BqH. -/
import Derived.Test.YtffnfchekbafmaaGreatDoorJ9
import Derived.Deep.RegionHeld3
import Derived.Deep.QuietTactic
import Derived.Deep.CutRange
import Derived.BigRegion
import Derived.RegionTactic
import Derived.BigQuiet
/- Entries in a row that are moved about; slices.swapRangeCmpFunc. -/
namespace Go.Proofs.YtffnfchekbafmaaGreatDoor
open Go.RowKit Go.Lib
set_option maxRecDepth 100000
set_option linter.unusedVariables false

/-- An entry. -/
abbrev enE (x : Value × Nat) : Value := .iface 75 x.1

/-- What entries lie in the row. -/
def vls (n : Nat) (f : TagF Value) : List Value := (lstF n f).map enE

theorem vls_length (n : Nat) (f : TagF Value) : (vls n f).length = n := by unfold vls; rw [List.length_map, lstF_length]

theorem vls_get {n : Nat} {f : TagF Value} {k : Nat} (h : k < n) : (vls n f)[k]? = some (enE (f k)) := by unfold vls; rw [List.getElem?_map, lstF_get h]; rfl

theorem vls_swF {n i j : Nat} (f : TagF Value) (hi : i < n) (hj : j < n) : ((vls n f).set i (enE (f j))).set j (enE (f i)) = vls n (swF f i j) := by
  apply List.ext_getElem?
  intro k
  by_cases hk : k < n
  · rw [vls_get hk]
    by_cases e2 : k = j
    · subst e2
      rw [List.getElem?_set_self (by rw [List.length_set, vls_length]; exact hk), swF_right]
    · rw [List.getElem?_set_ne (fun e => e2 e.symm)]
      by_cases e1 : k = i
      · subst e1
        rw [List.getElem?_set_self (by rw [vls_length]; exact hk), swF_left]
      · rw [List.getElem?_set_ne (fun e => e1 e.symm), vls_get hk, swF_other f e1 e2]
  · rw [List.getElem?_eq_none (by rw [List.length_set, List.length_set, vls_length]; omega), List.getElem?_eq_none (by rw [vls_length]; omega)]

/-- A row of entries of the call's own. -/
def EnR (w : World) (B g n c : Nat) (f : TagF Value) : Prop := w.ownsRow B 39 1 (.slice (some ⟨g, 0, none⟩) n c) n (vls n f)

theorem EnR.cell {w : World} {B g n c : Nat} {f : TagF Value} (h : EnR w B g n c f) {k : Nat} (hk : k < n) : w.cell? ⟨g, k, none⟩ = some (enE (f k)) ∧ w.frozen? ⟨g, k, none⟩ = false := by
  rcases h.2 with ⟨e, _⟩ | ⟨g', cap, cur, e, hg, hh, h1, h2, h3, h4⟩
  · cases e
  · simp only [Value.slice.injEq, Option.some.injEq, Addr.mk.injEq, and_true] at e
    obtain ⟨rfl, _, rfl⟩ := e
    have h5 := vls_get (f := f) hk
    rw [← h4, List.getElem?_take, if_pos (by omega), Array.getElem?_toList] at h5
    exact ⟨by rw [World.cell?, hh]; exact h5, by simp [World.frozen?, hh]⟩

theorem EnR.blk {w : World} {B g n c : Nat} {f : TagF Value} (h : EnR w B g n c f) : ∃ cur, w.heap[g]? = some (.cells cur 39) ∧ B ≤ g ∧ n ≤ c ∧ c ≤ 9223372036854775807 := by
  rcases h.2 with ⟨e, _⟩ | ⟨g', cap, cur, e, hg, hh, h1, h2, h3, h4⟩
  · cases e
  · simp only [Value.slice.injEq, Option.some.injEq, Addr.mk.injEq, and_true] at e
    obtain ⟨rfl, _, rfl⟩ := e
    exact ⟨cur, hh, hg, h1, by unfold maxLen at h2; omega⟩

theorem EnR.swap {w : World} {B g n c i j : Nat} {f : TagF Value} (h : EnR w B g n c f) (hi : i < n) (hj : j < n) :
    EnR ((w.setCell ⟨g, i, none⟩ (enE (f j))).setCell ⟨g, j, none⟩ (enE (f i))) B g n c (swF f i j) := by
  unfold EnR at h ⊢
  rw [← vls_swF f hi hj]
  exact owns_set (owns_set h _) _

theorem EnR.drew {w : World} {B g n c : Nat} {f : TagF Value} (h : EnR w B g n c f) : EnR w.drew B g n c f := h

theorem EnR.below {w w' : World} {B g n c : Nat} {f : TagF Value} (h : EnR w B g n c f) (hb : Below w.heap.size w w') : EnR w' B g n c f := fr_block h (fun k hk => hb.block k (h.lt k hk).2)

theorem But.swap {w : World} {g : Nat} {a b : Nat} {x y : Value} : But g w ((w.setCell ⟨g, a, none⟩ x).setCell ⟨g, b, none⟩ y) :=
  ⟨rfl, rfl, rfl, by rw [World.size_setCell, World.size_setCell]; exact Nat.le_refl _, fun k hk hkg => (setCell_at _ _ _ k hkg).trans (setCell_at _ _ _ k hkg)⟩

theorem But.drewR {w w' : World} {g : Nat} (h : But g w w') : But g w w'.drew := ⟨h.os, h.tape, h.output, h.size, h.block⟩

theorem But.refl (w : World) (g : Nat) : But g w w := ⟨rfl, rfl, rfl, Nat.le_refl _, fun _ _ _ => rfl⟩

set_option maxHeartbeats 4000000 in
theorem swapRange_ok (B g n c a b m : Nat) (f : TagF Value) (cv : Value) (w : World) (h : EnR w B g n c f) (h1 : a + m ≤ b) (h2 : b + m ≤ n) :
    Calls Tryz.prog 77 #[.slice (some ⟨g, 0, none⟩) n c, .int .i64 (a : Int), .int .i64 (b : Int), .int .i64 (m : Int), cv] w fun e w' => e = .returned (.tuple #[]) ∧ EnR w' B g n c (swrF f a b m) ∧ But g w w' := by
  obtain ⟨cur, hh, hBg, hn1, hn2⟩ := h.blk
  have HE := hide h
  clear h hh
  go_enter Tryz.func77, Tryz.ntmps77
  go_wp2
  go_loopw [10] (fun iv wr => ∃ k : Nat, k ≤ m ∧ iv = .int .i64 (k : Int) ∧ Hid (EnR wr B g n c (swrF f a b k)) ∧ Hid (But g w wr)) (fun iv _ => m - (RowKit.intOf iv).toNat)
  case atStart => exact ⟨0, Nat.zero_le _, rfl, by show EnR _ _ _ _ _ _; rw [swrF_zero]; exact HE.out, But.refl _ _⟩
  case round =>
    obtain ⟨k, hk, rfl, HE, HB⟩ := hrel
    by_cases hlt : k < m
    · have hi1 : (k : Int) < (m : Int) := by omega
      obtain ⟨ca, fa⟩ := HE.out.cell (k := a + k) (by omega)
      obtain ⟨cb, fb⟩ := HE.out.cell (k := b + k) (by omega)
      have HNX : Hid (EnR ((wr.setCell ⟨g, a + k, none⟩ (enE (swrF f a b k (b + k)))).setCell ⟨g, b + k, none⟩ (enE (swrF f a b k (a + k)))) B g n c (swrF f a b (k + 1))) := by
        have := HE.out.swap (i := a + k) (j := b + k) (by omega) (by omega)
        rw [swrF_succ f (by omega)] at this
        exact this
      unfold enE at ca cb HNX
      generalize (swrF f a b k (b + k)).1 = xb at *
      generalize (swrF f a b k (a + k)).1 = xa at *
      have hwa : IntKind.i64.wrap ((a : Int) + (k : Int)) = (a : Int) + (k : Int) := by rw [IntKind.wrap_i64]; omega
      have hwb : IntKind.i64.wrap ((b : Int) + (k : Int)) = (b : Int) + (k : Int) := by rw [IntKind.wrap_i64]; omega
      have hta : ((a : Int) + (k : Int)).toNat = a + k := by omega
      have htb : ((b : Int) + (k : Int)).toNat = b + k := by omega
      have hba : 0 ≤ (a : Int) + (k : Int) ∧ (a : Int) + (k : Int) < (n : Int) := by omega
      have hbb : 0 ≤ (b : Int) + (k : Int) ∧ (b : Int) + (k : Int) < (n : Int) := by omega
      have hn1' : ¬ a + k = b + k := by omega
      have hn2' : ¬ b + k = a + k := by omega
      clear HE
      go_upto_region 3 with fail
      go_region
      have HBN : Hid (But g w ((wr.setCell ⟨g, a + k, none⟩ (.iface 75 xb)).setCell ⟨g, b + k, none⟩ (.iface 75 xa)).drew) := (HB.out.trans But.swap).drewR
      have HNY : Hid (EnR ((wr.setCell ⟨g, a + k, none⟩ (.iface 75 xb)).setCell ⟨g, b + k, none⟩ (.iface 75 xa)).drew B g n c (swrF f a b (k + 1))) := HNX.out.drew
      clear ca cb fa fb hn1' hn2' hba hbb hwa hwb hta htb
      go_wp2
      go_roundw
      case rel => exact ⟨k + 1, by omega, by go_num, HNY, HBN⟩
      case measure => simp [RowKit.intOf]; omega
    · have hi1 : ¬ (k : Int) < (m : Int) := by omega
      obtain rfl : k = m := by omega
      go_wp2
      exact bodyPost_end (results_none rfl _ _ _) rfl ⟨rfl, HE.out, HB.out⟩

end Go.Proofs.YtffnfchekbafmaaGreatDoor

/- Contract: slices.rotateCmpFunc. -/
namespace Go.Proofs.YtffnfchekbafmaaGreatDoor
open Go.RowKit Go.Lib
set_option maxRecDepth 100000
set_option linter.unusedVariables false

set_option maxHeartbeats 4000000 in
theorem rotate_ok (B g n c s m e : Nat) (f : TagF Value) (cv : Value) (w : World) (h : EnR w B g n c f) (h1 : s < m) (h2 : m < e) (h3 : e ≤ n) :
    Calls Tryz.prog 70 #[.slice (some ⟨g, 0, none⟩) n c, .int .i64 (s : Int), .int .i64 (m : Int), .int .i64 (e : Int), cv] w fun e' w' => e' = .returned (.tuple #[]) ∧ EnR w' B g n c (rotF f s m e) ∧ But g w w' := by
  obtain ⟨cur, hh, hBg, hn1, hn2⟩ := h.blk
  have HE := hide h
  clear h hh
  go_enter Tryz.func70, Tryz.ntmps70
  have hw1 : IntKind.i64.wrap ((m : Int) - (s : Int)) = ((m - s : Nat) : Int) := by rw [IntKind.wrap_i64]; omega
  have hw2 : IntKind.i64.wrap ((e : Int) - (m : Int)) = ((e - m : Nat) : Int) := by rw [IntKind.wrap_i64]; omega
  go_wp2
  go_loopw [10, 11] (fun iv jv wr => ∃ (i j : Nat) (f' : TagF Value), i ≤ m - s ∧ j ≤ e - m ∧ 1 ≤ i ∧ 1 ≤ j ∧ iv = .int .i64 (i : Int) ∧ jv = .int .i64 (j : Int) ∧ Hid (EnR wr B g n c f') ∧ Hid (rotF f' (m - i) m (m + j) = rotF f s m e) ∧ Hid (But g w wr)) (fun iv jv _ => (RowKit.intOf iv).toNat + (RowKit.intOf jv).toNat)
  case atStart =>
    refine ⟨m - s, e - m, f, Nat.le_refl _, Nat.le_refl _, by omega, by omega, by go_num, by go_num, HE, ?_, But.refl _ _⟩
    show rotF f (m - (m - s)) m (m + (e - m)) = _
    rw [show m - (m - s) = s by omega, show m + (e - m) = e by omega]
  case round =>
    obtain ⟨i, j, f', hi, hj, hi1, hj1, rfl, rfl, HE', HR, HB⟩ := hrel
    clear hw1 hw2 HE
    have hmi : ((m : Int) - (i : Int)) = ((m - i : Nat) : Int) := by omega
    by_cases hij : i = j
    · subst hij
      have hne : ((i : Int) != (i : Int)) = false := by simp
      have HS := hide (swapRange_ok B g n c (m - i) m i f' cv wr HE'.out (by omega) (by omega))
      have hw1 : IntKind.i64.wrap ((m : Int) - (i : Int)) = ((m - i : Nat) : Int) := by rw [IntKind.wrap_i64]; omega
      have HEQ : Hid (swrF f' (m - i) m i = rotF f s m e) := by show _ = _; rw [← HR.out]; exact rot_even f' (by omega)
      clear hmi
      go_wp2_with fail
      refine HS.out.mono ?_
      rintro e9 w1 ⟨rfl, h5, h6⟩
      rw [HEQ.out] at h5
      have HF : Hid (EnR w1 B g n c (rotF f s m e) ∧ But g w w1) := ⟨h5, HB.out.trans h6⟩
      clear h5 h6 HS
      go_wp2
      exact bodyPost_end (results_none rfl _ _ _) rfl ⟨rfl, HF.out.1, HF.out.2⟩
    · have hne : ((i : Int) != (j : Int)) = true := by rw [bne_iff_ne]; omega
      by_cases hlt : j < i
      · have hgt : (j : Int) < (i : Int) := by omega
        have HS := hide (swapRange_ok B g n c (m - i) m j f' cv wr HE'.out (by omega) (by omega))
        have hw1 : IntKind.i64.wrap ((m : Int) - (i : Int)) = ((m - i : Nat) : Int) := by rw [IntKind.wrap_i64]; omega
        have hw2 : IntKind.i64.wrap ((i : Int) - (j : Int)) = ((i - j : Nat) : Int) := by rw [IntKind.wrap_i64]; omega
        have HEQ : Hid (rotF (swrF f' (m - i) m j) (m - (i - j)) m (m + j) = rotF f s m e) := by show _ = _; rw [← HR.out]; exact rot_left f' (by omega) hlt
        clear hmi
        go_wp2_with fail
        refine HS.out.mono ?_
        rintro e9 w1 ⟨rfl, h5, h6⟩
        have HF : Hid (EnR w1 B g n c (swrF f' (m - i) m j)) := h5
        have HB2 : Hid (But g w w1) := HB.out.trans h6
        clear h5 h6 HS
        go_wp2
        go_roundw
        case rel => exact ⟨i - j, j, _, by omega, hj, by omega, hj1, by go_num, rfl, HF, HEQ, HB2⟩
        case measure => simp [RowKit.intOf]; omega
      · have hgt : ¬ (j : Int) < (i : Int) := by omega
        have hgt2 : (i : Int) ≤ (j : Int) := by omega
        have HS := hide (swapRange_ok B g n c (m - i) (m + j - i) i f' cv wr HE'.out (by omega) (by omega))
        have hw1 : IntKind.i64.wrap ((m : Int) - (i : Int)) = ((m - i : Nat) : Int) := by rw [IntKind.wrap_i64]; omega
        have hw2 : IntKind.i64.wrap ((j : Int) - (i : Int)) = ((j - i : Nat) : Int) := by rw [IntKind.wrap_i64]; omega
        have hw3 : IntKind.i64.wrap ((m : Int) + (j : Int)) = (m : Int) + (j : Int) := by rw [IntKind.wrap_i64]; omega
        have hw4 : IntKind.i64.wrap ((m : Int) + (j : Int) - (i : Int)) = ((m + j - i : Nat) : Int) := by rw [IntKind.wrap_i64]; omega
        have HEQ : Hid (rotF (swrF f' (m - i) (m + j - i) i) (m - i) m (m + (j - i)) = rotF f s m e) := by show _ = _; rw [← HR.out]; exact rot_right f' (by omega) (by omega)
        clear hmi
        go_wp2_with fail
        refine HS.out.mono ?_
        rintro e9 w1 ⟨rfl, h5, h6⟩
        have HF : Hid (EnR w1 B g n c (swrF f' (m - i) (m + j - i) i)) := h5
        have HB2 : Hid (But g w w1) := HB.out.trans h6
        clear h5 h6 HS
        go_wp2
        go_roundw
        case rel => exact ⟨i, j - i, _, hi, by omega, hi1, by omega, rfl, by go_num, HF, HEQ, HB2⟩
        case measure => simp [RowKit.intOf]; omega

end Go.Proofs.YtffnfchekbafmaaGreatDoor

/- Contracts: byDay's comparison, slices.insertionSortCmpFunc. -/
namespace Go.Proofs.YtffnfchekbafmaaGreatDoor
open Go.RowKit Go.Lib
set_option maxRecDepth 100000
set_option linter.unusedVariables false

/-- The insertion of what stood at i: now it stands at j. -/
structure InsF {α : Type} (key : α → Int) (n a i j : Nat) (f g : TagF α) : Prop where
  pw : Pw n a (i + 1) f g
  at_ : g j = f i
  srd : ∀ x y, a ≤ x → x < y → y ≤ i → x ≠ j → y ≠ j → LtK key (g x) (g y)
  up : ∀ y, j < y → y ≤ i → LtK key (f i) (g y)
  plc : ∀ x, a ≤ x → x ≤ i → x ≠ j → (g x).2 < (f i).2
  lo : a ≤ j
  hi : j ≤ i

theorem InsF.start {α : Type} {key : α → Int} {n a b i : Nat} {f g : TagF α} (hp : Pw n a i f g) (hs : Srd key g a i) (hf : ∀ x y, a ≤ x → x < y → y < b → (f x).2 < (f y).2) (ha : a ≤ i) (hi : i < b) : InsF key n a i i f g :=
  ⟨hp.mono (Nat.le_refl _) (by omega), hp.out i (by omega), fun x y hx hxy hy _ hyi => hs x y hx hxy (by omega), fun y h1 h2 => absurd h1 (by omega), fun x hx hxi hne => by
    obtain ⟨z, z1, z2, e⟩ := hp.come x hx (by omega)
    rw [e]
    exact hf z i z1 z2 hi, ha, Nat.le_refl _⟩

theorem InsF.step {α : Type} {key : α → Int} {n a i j : Nat} {f g : TagF α} (h : InsF key n a i j f g) (hj : a < j) (hn : i < n) (hk : key (f i).1 < key (g (j - 1)).1) : InsF key n a i (j - 1) f (swF g j (j - 1)) := by
  have hlo := h.lo
  have hhi := h.hi
  have e0 : swF g j (j - 1) j = g (j - 1) := swF_left g j (j - 1)
  have e1 : swF g j (j - 1) (j - 1) = g j := swF_right g j (j - 1)
  have e2 : ∀ x, x ≠ j → x ≠ j - 1 → swF g j (j - 1) x = g x := fun x h1 h2 => swF_other g h1 h2
  refine ⟨h.pw.trans (Pw.swF g ⟨by omega, by omega⟩ ⟨by omega, by omega⟩ (by omega)), by rw [e1]; exact h.at_, fun x y hx hxy hy h1 h2 => ?_, fun y h1 h2 => ?_, fun x hx hxi hne => ?_, by omega, by omega⟩
  · by_cases c1 : x = j
    · rw [c1, e0, e2 y (by omega) (by omega)]
      exact h.srd (j - 1) y (by omega) (by omega) hy (by omega) (by omega)
    · by_cases c2 : y = j
      · rw [c2, e0, e2 x c1 h1]
        exact h.srd x (j - 1) hx (by omega) (by omega) c1 (by omega)
      · rw [e2 x c1 h1, e2 y c2 h2]
        exact h.srd x y hx hxy hy c1 c2
  · by_cases c1 : y = j
    · rw [c1, e0]; exact Or.inl hk
    · rw [e2 y c1 (by omega)]; exact h.up y (by omega) h2
  · by_cases c1 : x = j
    · rw [c1, e0]; exact h.plc (j - 1) (by omega) (by omega) (by omega)
    · rw [e2 x c1 hne]; exact h.plc x hx hxi c1

theorem InsF.done {α : Type} {key : α → Int} {n a i j : Nat} {f g : TagF α} (h : InsF key n a i j f g) (hj : j = a ∨ ¬ key (f i).1 < key (g (j - 1)).1) : Srd key g a (i + 1) := fun x y hx hxy hy => by
  have hlo := h.lo
  by_cases c1 : x = j
  · rw [c1, h.at_]; exact h.up y (by omega) (by omega)
  · by_cases c2 : y = j
    · rw [c2, h.at_]
      rcases hj with hj | hj
      · omega
      · have l1 : LtK key (g (j - 1)) (f i) := by
          have h1 := h.plc (j - 1) (by omega) (by have := h.hi; omega) (by omega)
          unfold LtK
          omega
        by_cases c3 : x = j - 1
        · rw [c3]; exact l1
        · exact (h.srd x (j - 1) hx (by omega) (by have := h.hi; omega) c1 (by omega)).trans l1
    · exact h.srd x y hx hxy (by omega) c1 c2

/-- An entry's day. -/
def kOf : Value → Int
  | .agg cs => match cs.toList with
    | Value.int _ d :: _ => d
    | _ => 0
  | _ => 0

/-- An entry that is told by its parts. -/
def GoodE (x : Value) : Prop := ∃ (d c : Int) (m : ByteArray) (p : Option Addr) (l cap : Nat), x = .agg #[.int .i64 d, .int .i64 c, .string m, .slice p l cap]

/-- The comparison by days. -/
def cmpV : Value := .func (.func 28) #[] #[]

set_option maxHeartbeats 2000000 in
theorem compare_ok (a b : Int) (w : World) : Calls Tryz.prog 29 #[.int .i64 a, .int .i64 b] w fun e w' => (∃ z : Int, e = .returned (.int .i64 z) ∧ (z < 0 ↔ a < b)) ∧ w = w' := by
  have HN : Hid (∀ x W, Calls Tryz.prog 40 #[.int .i64 x] W fun e w' => e = .returned (.bool false) ∧ W = w') := fun x W => by
    go_enter Tryz.func40, Tryz.ntmps40
    go_wp2
    go_ret
    exact ⟨rfl, rfl⟩
  go_enter Tryz.func29, Tryz.ntmps29
  go_wp2_with fail
  refine (HN.out _ _).mono ?_
  rintro e w1 ⟨rfl, rfl⟩
  go_wp2_with fail
  refine (HN.out _ _).mono ?_
  rintro e w1 ⟨rfl, rfl⟩
  by_cases h1 : a < b
  · go_wp2
    go_ret
    exact ⟨⟨-1, rfl, by omega⟩, rfl⟩
  · by_cases h2 : b < a
    · go_wp2
      go_ret
      exact ⟨⟨1, rfl, by omega⟩, rfl⟩
    · go_wp2
      go_ret
      exact ⟨⟨0, rfl, by omega⟩, rfl⟩

set_option maxHeartbeats 2000000 in
theorem day_ok (d c : Int) (m : ByteArray) (p : Option Addr) (l cap : Nat) (w : World) : Calls Tryz.prog 106 #[.agg #[.int .i64 d, .int .i64 c, .string m, .slice p l cap]] w fun e w' => e = .returned (.int .i64 d) ∧ Below w.heap.size w w' := by
  go_enter Tryz.func106, Tryz.ntmps106
  go_wp2
  go_ret
  exact ⟨rfl, (Below.refl _ _).alloc (Nat.le_refl _) _⟩

set_option maxHeartbeats 2000000 in
theorem cmp_ok (x y : Value) (w : World) (hx : GoodE x) (hy : GoodE y) : Calls Tryz.prog 28 #[.iface 75 x, .iface 75 y] w fun e w' => (∃ z : Int, e = .returned (.int .i64 z) ∧ (z < 0 ↔ kOf x < kOf y)) ∧ Below w.heap.size w w' := by
  obtain ⟨d1, c1, m1, p1, l1, k1, rfl⟩ := hx
  obtain ⟨d2, c2, m2, p2, l2, k2, rfl⟩ := hy
  have HK : Hid (∀ z : Int, (z < 0 ↔ d1 < d2) → (z < 0 ↔ kOf (.agg #[.int .i64 d1, .int .i64 c1, .string m1, .slice p1 l1 k1]) < kOf (.agg #[.int .i64 d2, .int .i64 c2, .string m2, .slice p2 l2 k2]))) := fun z h => h
  generalize kOf (.agg #[.int .i64 d1, .int .i64 c1, .string m1, .slice p1 l1 k1]) = q1 at *
  generalize kOf (.agg #[.int .i64 d2, .int .i64 c2, .string m2, .slice p2 l2 k2]) = q2 at *
  go_enter Tryz.func28, Tryz.ntmps28
  go_wp2_with fail
  refine (day_ok _ _ _ _ _ _ _).mono ?_
  rintro e w1 ⟨rfl, hb1⟩
  have HB1 := hide hb1
  clear hb1
  go_wp2_with fail
  refine (day_ok _ _ _ _ _ _ _).mono ?_
  rintro e w2 ⟨rfl, hb2⟩
  have HB2 : Hid (Below w.heap.size w w2) := HB1.out.trans (hb2.mono HB1.out.size)
  clear hb2
  go_wp2_with fail
  refine (compare_ok _ _ _).mono ?_
  rintro e w3 ⟨⟨z, rfl, hz⟩, rfl⟩
  have HZ := hide (HK.out z hz)
  clear hz
  go_wp2
  go_ret
  exact ⟨⟨z, rfl, HZ.out⟩, HB2.out⟩

theorem But.of' {g : Nat} {w w' : World} (h : Below w.heap.size w w') : But g w w' := But.of h

theorem GoodE.come {n a b : Nat} {f g : TagF Value} (h : ∀ k, k < n → GoodE (f k).1) (p : Pw n a b f g) (hb : b ≤ n) : ∀ k, k < n → GoodE (g k).1 := fun k hk => by
  by_cases c : a ≤ k ∧ k < b
  · obtain ⟨j, j1, j2, e⟩ := p.come k c.1 c.2
    rw [e]; exact h j (by omega)
  · rw [p.out k c]; exact h k hk

set_option maxHeartbeats 8000000 in
theorem insSort_ok (B g n c a b : Nat) (f : TagF Value) (w : World) (h : EnR w B g n c f) (hG : ∀ k, k < n → GoodE (f k).1) (hp : ∀ x y, a ≤ x → x < y → y < b → (f x).2 < (f y).2) (h1 : a ≤ n) (h2 : b ≤ n) (h3 : B ≤ g) (hnn : n ≤ 1000000) :
    Calls Tryz.prog 54 #[.slice (some ⟨g, 0, none⟩) n c, .int .i64 (a : Int), .int .i64 (b : Int), cmpV] w fun e w' => ∃ f', e = .returned (.tuple #[]) ∧ EnR w' B g n c f' ∧ Pw n a b f f' ∧ Srd kOf f' a b ∧ But g w w' := by
  obtain ⟨cur, hh, hBg, hn1, hn2⟩ := h.blk
  have HE := hide h
  have HG := hide hG
  have HPL := hide hp
  clear h hh hG hp
  unfold cmpV
  go_enter Tryz.func54, Tryz.ntmps54
  have hw1 : IntKind.i64.wrap ((a : Int) + 1) = ((a + 1 : Nat) : Int) := by rw [IntKind.wrap_i64]; omega
  go_wp2
  go_loopw [8] (fun iv wr => ∃ (i : Nat) (f' : TagF Value), a + 1 ≤ i ∧ (i ≤ b ∨ b ≤ a + 1) ∧ (b ≤ a + 1 → i = a + 1) ∧ iv = .int .i64 (i : Int) ∧ Hid (EnR wr B g n c f') ∧ Hid (i ≤ b → Pw n a i f f' ∧ Srd kOf f' a i) ∧ Hid (b ≤ a + 1 → f' = f) ∧ Hid (∀ k, k < n → GoodE (f' k).1) ∧ Hid (But g w wr)) (fun iv _ => b - (RowKit.intOf iv).toNat)
  case atStart =>
    exact ⟨a + 1, f, Nat.le_refl _, by omega, fun _ => rfl, by go_num, HE, (fun _ => ⟨Pw.refl _ _ _ _, fun x y hx hxy hy => absurd hxy (by omega)⟩), (fun _ => rfl), HG, But.refl _ _⟩
  case round =>
    obtain ⟨i, f', hi1, hi2, hi3, rfl, HE', HPS, HF, HGf, HB⟩ := hrel
    by_cases hlt : i < b
    · have hi4 : (i : Int) < (b : Int) := by omega
      have HIN : Hid (InsF kOf n a i i f f') := InsF.start (HPS.out (by omega)).1 (HPS.out (by omega)).2 HPL.out (by omega) hlt
      clear HPS HF hw1 HE
      go_wp2_with fail
      go_loopw [9] (fun jv wr => ∃ (j : Nat) (f2 : TagF Value), jv = .int .i64 (j : Int) ∧ j ≤ i ∧ a ≤ j ∧ Hid (EnR wr B g n c f2) ∧ Hid (InsF kOf n a i j f f2) ∧ Hid (∀ k, k < n → GoodE (f2 k).1) ∧ Hid (But g w wr)) (fun jv _ => (RowKit.intOf jv).toNat)
      case atStart => exact ⟨i, f', rfl, Nat.le_refl _, by omega, HE', HIN, HGf, HB⟩
      case round =>
        obtain ⟨j, f2, rfl, hji, haj, HE2, HI, HG2, HB2⟩ := hrel
        clear HE' HIN HB
        have HCJ := HE2.out.cell (k := j) (by omega)
        obtain ⟨cj, fj⟩ := HCJ
        go_upto_region 4 with fail
        go_cut [34] from 18 to 52 (fun v wx => ∃ bo : Bool, v = .bool bo ∧ (bo = true → a < j) ∧ Hid (bo = true → kOf (f i).1 < kOf (f2 (j - 1)).1) ∧ Hid (bo = false → j = a ∨ ¬ kOf (f i).1 < kOf (f2 (j - 1)).1) ∧ Hid (EnR wx B g n c f2) ∧ Hid (But g w wx))
        case first =>
          by_cases hja : a < j
          · obtain ⟨cj1, fj1⟩ := HE2.out.cell (k := j - 1) (by omega)
            have hgt : (a : Int) < (j : Int) := by omega
            have hsub : ((j : Int) - 1) = ((j - 1 : Nat) : Int) := by omega
            have hw2 : IntKind.i64.wrap ((j : Int) - 1) = ((j - 1 : Nat) : Int) := by rw [IntKind.wrap_i64]; omega
            have hb1 : 0 ≤ (j : Int) ∧ (j : Int) < (n : Int) := by omega
            have hb2 : 0 ≤ ((j - 1 : Nat) : Int) ∧ ((j - 1 : Nat) : Int) < (n : Int) := by omega
            have HCM : Hid (∀ W, Calls Tryz.prog 28 #[.iface 75 (f2 j).1, .iface 75 (f2 (j - 1)).1] W fun e w' => (∃ z : Int, e = .returned (.int .i64 z) ∧ (z < 0 ↔ kOf (f2 j).1 < kOf (f2 (j - 1)).1)) ∧ Below W.heap.size W w') := fun W => cmp_ok _ _ W (HG2.out j (by omega)) (HG2.out (j - 1) (by omega))
            have HAT : Hid ((f2 j).1 = (f i).1) := by show _ = _; rw [HI.out.at_]
            unfold enE at cj cj1
            generalize (f2 j).1 = xj at *
            generalize (f2 (j - 1)).1 = xk at *
            generalize (f i).1 = xi at *
            generalize hJ : j - 1 = j1 at *
            clear hsub
            refine wp_region_held_drew (S := fun W' => W'.cell? ⟨g, j, none⟩ = some (.iface 75 xj) ∧ W'.cell? ⟨g, j1, none⟩ = some (.iface 75 xk)) (by kernel_rfl) ⟨cj, cj1⟩ (fun hS => ?_)
            refine wpAnyH_take (i := 0) (v := .int .i64 (j : Int)) rfl (by kernel_rfl) (by kernel_rfl) (by kernel_rfl) (fun _ _ _ h => h) (Or.inl ⟨by kernel_rfl, fun w' hS' => by clear hS'; go_simp⟩) hS ?_
            refine wpAnyH_take (i := 1) (v := .int .i64 (a : Int)) rfl (by kernel_rfl) (by kernel_rfl) (by kernel_rfl) (fun _ _ _ h => h) (Or.inl ⟨by kernel_rfl, fun w' hS' => by clear hS'; go_simp⟩) hS ?_
            refine wpAnyH_take (i := 2) (v := .bool true) rfl (by kernel_rfl) (by kernel_rfl) (by kernel_rfl) (fun _ _ _ h => h) (Or.inl ⟨by kernel_rfl, fun w' hS' => by clear hS'; go_simp⟩) hS ?_
            refine wpAnyH_take (i := 3) (v := .bool true) rfl (by kernel_rfl) (by kernel_rfl) (by kernel_rfl) (fun _ _ _ h => h) (Or.inl ⟨by kernel_rfl, fun w' hS' => by clear hS'; go_simp⟩) hS ?_
            refine wpAnyH_take (i := 4) (v := .func (.func 28) #[] #[]) rfl (by kernel_rfl) (by kernel_rfl) (by kernel_rfl) (fun _ _ _ h => h) (Or.inl ⟨by kernel_rfl, fun w' hS' => by clear hS'; go_simp⟩) hS ?_
            refine wpAnyH_take (i := 5) (v := .slice (some ⟨g, 0, none⟩) n c) rfl (by kernel_rfl) (by kernel_rfl) (by kernel_rfl) (fun _ _ _ h => h) (Or.inl ⟨by kernel_rfl, fun w' hS' => by clear hS'; go_simp⟩) hS ?_
            refine wpAnyH_take (i := 6) (v := .int .i64 (j : Int)) rfl (by kernel_rfl) (by kernel_rfl) (by kernel_rfl) (fun _ _ _ h => h) (Or.inl ⟨by kernel_rfl, fun w' hS' => by clear hS'; go_simp⟩) hS ?_
            refine wpAnyH_take (i := 7) (v := .pointer (some ⟨g, j, none⟩)) rfl (by kernel_rfl) (by kernel_rfl) (by kernel_rfl) (fun _ _ _ h => h) (Or.inl ⟨by kernel_rfl, fun w' hS' => by clear hS'; go_simp⟩) hS ?_
            refine wpAnyH_take (i := 8) (v := .iface 75 xj) rfl (by kernel_rfl) (by kernel_rfl) (by kernel_rfl) (fun _ _ _ h => h) (Or.inl ⟨by kernel_rfl, fun w' hS' => by have hq := hS'.1; clear hS'; go_simp⟩) hS ?_
            refine wpAnyH_take (i := 9) (v := .slice (some ⟨g, 0, none⟩) n c) rfl (by kernel_rfl) (by kernel_rfl) (by kernel_rfl) (fun _ _ _ h => h) (Or.inl ⟨by kernel_rfl, fun w' hS' => by clear hS'; go_simp⟩) hS ?_
            refine wpAnyH_take (i := 10) (v := .int .i64 (j : Int)) rfl (by kernel_rfl) (by kernel_rfl) (by kernel_rfl) (fun _ _ _ h => h) (Or.inl ⟨by kernel_rfl, fun w' hS' => by clear hS'; go_simp⟩) hS ?_
            refine wpAnyH_take (i := 11) (v := .int .i64 ((j1 : Nat) : Int)) rfl (by kernel_rfl) (by kernel_rfl) (by kernel_rfl) (fun _ _ _ h => h) (Or.inl ⟨by kernel_rfl, fun w' hS' => by clear hS'; go_simp⟩) hS ?_
            refine wpAnyH_take (i := 12) (v := .pointer (some ⟨g, j1, none⟩)) rfl (by kernel_rfl) (by kernel_rfl) (by kernel_rfl) (fun _ _ _ h => h) (Or.inl ⟨by kernel_rfl, fun w' hS' => by clear hS'; go_simp⟩) hS ?_
            refine wpAnyH_take (i := 13) (v := .iface 75 xk) rfl (by kernel_rfl) (by kernel_rfl) (by kernel_rfl) (fun _ _ _ h => h) (Or.inl ⟨by kernel_rfl, fun w' hS' => by have hq := hS'.2; clear hS'; go_simp⟩) hS ?_
            refine wpAnyH_ready (rs := [14]) (by kernel_rfl) (by simp) ?_
            refine AllReadyH.cons rfl (fun K hK => ?_) AllReadyH.nil
            go_simp
            refine (HCM.out _).mono ?_
            rintro e w4 ⟨⟨z, rfl, hz⟩, hb4⟩
            have hb4' : Below wr.heap.size wr w4 := ((Below.refl wr.heap.size wr).drew).trans hb4
            refine hK.out _ _ ⟨(hb4'.cell (p := ⟨g, j, none⟩) (World.block_lt_of_cell? _ _ cj)).trans cj, (hb4'.cell (p := ⟨g, j1, none⟩) (World.block_lt_of_cell? _ _ cj1)).trans cj1⟩ (fun hS => ?_)
            clear hK
            have HR1 : Hid (decide (z < 0) = true → kOf xi < kOf xk) := fun h => by have h5 := HAT.out; have h6 := hz.1 (of_decide_eq_true h); rw [h5] at h6; exact h6
            have HR2 : Hid (decide (z < 0) = false → j = a ∨ ¬ kOf xi < kOf xk) := fun h => Or.inr (fun h7 => by have h5 := HAT.out; rw [← h5] at h7; exact absurd (hz.2 h7) (of_decide_eq_false h))
            clear hz
            refine wpAnyH_take (i := 15) (v := .bool (decide (z < 0))) rfl (by kernel_rfl) (by kernel_rfl) (by kernel_rfl) (fun _ _ _ h => h) (Or.inl ⟨by kernel_rfl, fun w' hS' => by clear hS'; go_simp⟩) hS ?_
            refine wpAnyH_take (i := 16) (v := .bool (decide (z < 0))) rfl (by kernel_rfl) (by kernel_rfl) (by kernel_rfl) (fun _ _ _ h => h) (Or.inl ⟨by kernel_rfl, fun w' hS' => by clear hS'; go_simp⟩) hS ?_
            refine wpAnyH_done (by kernel_rfl) ?_ _
            have HEX : Hid (EnR w4 B g n c f2) := HE2.out.below hb4'
            have HBX : Hid (But g w w4) := HB2.out.trans (But.of hb4')
            clear hb4 hb4' hS HE2 HB2
            go_simp
            go_step
            go_meet
            exact ⟨_, rfl, fun _ => hja, HR1, HR2, HEX, HBX⟩
          · have hgt : ¬ (a : Int) < (j : Int) := by omega
            have hgt2 : decide ((a : Int) < (j : Int)) = false := decide_eq_false hgt
            have HJA : Hid (j = a) := by show _ = _; omega
            go_quiet (fail)
            go_simp
            go_step
            go_meet
            exact ⟨false, rfl, fun h => by (cases h), fun h => by (cases h), fun _ => Or.inl HJA.out, HE2.out, HB2.out.trans (But.of (below_drewN (Below.refl _ _) nq))⟩
        case rest =>
          obtain ⟨bo, rfl, hja, HR1, HR2, HE3, HB3⟩ := hcut
          clear HE2 HB2 cj fj
          generalize wc = W3 at *
          cases bo with
          | true =>
            have hja2 := hja rfl
            obtain ⟨cj, fj⟩ := HE3.out.cell (k := j) (by omega)
            obtain ⟨ck, fk⟩ := HE3.out.cell (k := j - 1) (by omega)
            have hw2 : IntKind.i64.wrap ((j : Int) - 1) = ((j - 1 : Nat) : Int) := by rw [IntKind.wrap_i64]; omega
            have hb1 : 0 ≤ (j : Int) ∧ (j : Int) < (n : Int) := by omega
            have hb2 : 0 ≤ ((j - 1 : Nat) : Int) ∧ ((j - 1 : Nat) : Int) < (n : Int) := by omega
            have hn1' : ¬ j = j - 1 := by omega
            have hn2' : ¬ j - 1 = j := by omega
            have HNX := hide (HE3.out.swap (i := j) (j := j - 1) (by omega) (by omega))
            have HIN := hide (HI.out.step hja2 (by omega) (HR1.out rfl))
            have HG3 : Hid (∀ k, k < n → GoodE (swF f2 j (j - 1) k).1) := GoodE.come HG2.out (Pw.swF (n := n) (a := 0) (b := n) f2 ⟨Nat.zero_le _, by omega⟩ ⟨Nat.zero_le _, by omega⟩ (Nat.le_refl _)) (Nat.le_refl _)
            unfold enE at cj ck HNX
            have hjl : j - 1 ≤ i := by omega
            have hal : a ≤ j - 1 := by omega
            have hlt9 : j - 1 < j := by omega
            have hwm : ((j : Int) - 1) = ((j - 1 : Nat) : Int) := by omega
            generalize (f2 j).1 = xj at *
            generalize (f2 (j - 1)).1 = xk at *
            generalize hJ : j - 1 = j1 at *
            clear hJ hja HR1 HR2 HI
            go_upto_region 6 with fail
            go_region
            have HBN : Hid (But g w ((W3.setCell ⟨g, j, none⟩ (.iface 75 xk)).setCell ⟨g, j1, none⟩ (.iface 75 xj)).drew) := (HB3.out.trans But.swap).drewR
            have HNY : Hid (EnR ((W3.setCell ⟨g, j, none⟩ (.iface 75 xk)).setCell ⟨g, j1, none⟩ (.iface 75 xj)).drew B g n c (swF f2 j j1)) := HNX.out.drew
            clear cj ck fj fk hn1' hn2' hb1 hb2
            go_wp2
            go_roundw
            case rel => exact ⟨j1, _, by go_num, hjl, hal, HNY, HIN, HG3, HBN⟩
            case measure => simp [RowKit.intOf]; omega
          | false =>
            have HS := hide (HI.out.done (HR2.out rfl))
            have HPW := hide HI.out.pw
            clear hja HR1 HR2 HI
            go_wp2
            go_roundw
            case rel => exact ⟨i + 1, f2, by omega, by omega, fun h => by omega, by go_num, HE3, (fun _ => ⟨HPW.out, HS.out⟩), (fun h => absurd h (by omega)), HG2, HB3⟩
            case measure => simp [RowKit.intOf]; omega
    · have hi4 : ¬ (i : Int) < (b : Int) := by omega
      have HFIN : Hid (Pw n a b f f' ∧ Srd kOf f' a b) := by
        by_cases hab : b ≤ a + 1
        · have e := HF.out hab
          refine ⟨by rw [e]; exact Pw.refl _ _ _ _, fun x y hx hxy hy => absurd hxy (by omega)⟩
        · have e : i = b := by omega
          have := HPS.out (by omega)
          rw [e] at this
          exact this
      clear HPS HF hw1
      go_wp2
      exact bodyPost_end (results_none rfl _ _ _) rfl ⟨rfl, f', HE'.out, HFIN.out.1, HFIN.out.2, HB.out⟩

end Go.Proofs.YtffnfchekbafmaaGreatDoor

/- Plain: merging in place: one thing alone on a side; both halves. -/
/- Plain: merging in place: one thing alone on a side; both halves. -/
namespace Go.Proofs.YtffnfchekbafmaaGreatDoor
variable {α : Type}

theorem rot_up (f : TagF α) {a k : Nat} (h : a ≤ k) : swF (rotF f a (a + 1) (k + 1)) k (k + 1) = rotF f a (a + 1) (k + 2) := by
  funext x
  unfold swF rotF
  by_cases c1 : x = k
  · subst c1
    rw [if_pos rfl, if_pos (show x + 1 < a ∨ x + 1 ≤ x + 1 by omega)]
    by_cases c2 : x < a ∨ x + 2 ≤ x
    · omega
    · rw [if_neg c2, if_pos (show x < a + (x + 2 - (a + 1)) by omega)]; congr 1; omega
  · rw [if_neg c1]
    by_cases c2 : x = k + 1
    · rw [if_pos c2, if_neg (show ¬ (k < a ∨ k + 1 ≤ k) by omega), if_neg (show ¬ k < a + (k + 1 - (a + 1)) by omega), if_neg (show ¬ (x < a ∨ k + 2 ≤ x) by omega), if_neg (show ¬ x < a + (k + 2 - (a + 1)) by omega)]; congr 1; omega
    · rw [if_neg c2]
      by_cases c3 : x < a ∨ k + 1 ≤ x
      · rw [if_pos c3, if_pos (show x < a ∨ k + 2 ≤ x by omega)]
      · rw [if_neg c3, if_pos (show x < a + (k + 1 - (a + 1)) by omega), if_neg (show ¬ (x < a ∨ k + 2 ≤ x) by omega), if_pos (show x < a + (k + 2 - (a + 1)) by omega)]

theorem rot_down (f : TagF α) {k m : Nat} (h : k ≤ m) (h1 : 1 ≤ k) : swF (rotF f k m (m + 1)) k (k - 1) = rotF f (k - 1) m (m + 1) := by
  funext x
  unfold swF rotF
  by_cases c1 : x = k
  · subst c1
    rw [if_pos rfl, if_pos (show x - 1 < x ∨ m + 1 ≤ x - 1 by omega), if_neg (show ¬ (x < x - 1 ∨ m + 1 ≤ x) by omega), if_neg (show ¬ x < x - 1 + (m + 1 - m) by omega)]; congr 1; omega
  · rw [if_neg c1]
    by_cases c2 : x = k - 1
    · rw [if_pos c2, if_neg (show ¬ (k < k ∨ m + 1 ≤ k) by omega), if_pos (show k < k + (m + 1 - m) by omega), if_neg (show ¬ (x < k - 1 ∨ m + 1 ≤ x) by omega), if_pos (show x < k - 1 + (m + 1 - m) by omega)]; congr 1; omega
    · rw [if_neg c2]
      by_cases c3 : x < k ∨ m + 1 ≤ x
      · rw [if_pos c3, if_pos (show x < k - 1 ∨ m + 1 ≤ x by omega)]
      · rw [if_neg c3, if_neg (show ¬ x < k + (m + 1 - m) by omega), if_neg (show ¬ (x < k - 1 ∨ m + 1 ≤ x) by omega), if_neg (show ¬ x < k - 1 + (m + 1 - m) by omega)]

/-- One alone on the left. -/
theorem merge_one_left {key : α → Int} {f : TagF α} {a b i : Nat} (hR : Srd key f (a + 1) b) (hP : Plc f a (a + 1) (a + 1) b) (h1 : a + 1 ≤ i) (h2 : i ≤ b)
    (hlo : ∀ j, a + 1 ≤ j → j < i → key (f j).1 < key (f a).1) (hhi : ∀ j, i ≤ j → j < b → key (f a).1 ≤ key (f j).1) : Srd key (rotF f a (a + 1) i) a b := fun x y hx hxy hy => by
  have r1 : ∀ k, a ≤ k → k < i - 1 → rotF f a (a + 1) i k = f (k + 1) := fun k k1 k2 => by unfold rotF; rw [if_neg (by omega), if_pos (by omega)]; congr 1; omega
  have r2 : rotF f a (a + 1) i (i - 1) = f a := by unfold rotF; rw [if_neg (by omega), if_neg (by omega)]; congr 1; omega
  have r3 : ∀ k, i ≤ k → rotF f a (a + 1) i k = f k := fun k k1 => by unfold rotF; rw [if_pos (by omega)]
  by_cases cx : x < i - 1
  · rw [r1 x hx cx]
    by_cases cy : y < i - 1
    · rw [r1 y (by omega) cy]; exact hR _ _ (by omega) (by omega) (by omega)
    · by_cases cz : y = i - 1
      · rw [cz, r2]; exact Or.inl (hlo _ (by omega) (by omega))
      · rw [r3 y (by omega)]; exact hR _ _ (by omega) (by omega) hy
  · by_cases cz : x = i - 1
    · rw [cz, r2, r3 y (by omega)]
      have e1 := hhi y (by omega) hy
      have e2 := hP a y (Nat.le_refl _) (by omega) (by omega) hy
      unfold LtK
      omega
    · rw [r3 x (by omega), r3 y (by omega)]; exact hR _ _ (by omega) hxy hy

/-- One alone on the right. -/
theorem merge_one_right {key : α → Int} {f : TagF α} {a m i : Nat} (hL : Srd key f a m) (hP : Plc f a m m (m + 1)) (h1 : a ≤ i) (h2 : i ≤ m)
    (hlo : ∀ j, a ≤ j → j < i → key (f j).1 ≤ key (f m).1) (hhi : ∀ j, i ≤ j → j < m → key (f m).1 < key (f j).1) : Srd key (rotF f i m (m + 1)) a (m + 1) := fun x y hx hxy hy => by
  have r1 : ∀ k, k < i → rotF f i m (m + 1) k = f k := fun k k1 => by unfold rotF; rw [if_pos (by omega)]
  have r2 : rotF f i m (m + 1) i = f m := by unfold rotF; rw [if_neg (by omega), if_pos (by omega)]; congr 1; omega
  have r3 : ∀ k, i < k → k < m + 1 → rotF f i m (m + 1) k = f (k - 1) := fun k k1 k2 => by unfold rotF; rw [if_neg (by omega), if_neg (by omega)]; congr 1; omega
  by_cases cx : x < i
  · rw [r1 x cx]
    by_cases cy : y < i
    · rw [r1 y cy]; exact hL _ _ hx hxy (by omega)
    · by_cases cz : y = i
      · rw [cz, r2]
        have e1 := hlo x hx cx
        have e2 := hP x m hx (by omega) (Nat.le_refl _) (by omega)
        unfold LtK
        omega
      · rw [r3 y (by omega) hy]; exact hL _ _ hx (by omega) (by omega)
  · by_cases cz : x = i
    · rw [cz, r2, r3 y (by omega) hy]; exact Or.inl (hhi _ (by omega) (by omega))
    · rw [r3 x (by omega) (by omega), r3 y (by omega) hy]; exact hL _ _ (by omega) (by omega) (by omega)

/-- Both halves, each put in order by itself. -/
theorem merge_halves {key : α → Int} {n a mid b : Nat} {g g1 g2 : TagF α} (hB : Bfr key g a mid mid b) (h1 : a ≤ mid) (h2 : mid ≤ b) (p1 : Pw n a mid g g1) (s1 : Srd key g1 a mid) (p2 : Pw n mid b g1 g2) (s2 : Srd key g2 mid b) : Srd key g2 a b ∧ Pw n a b g g2 :=
  ⟨(s1.kept p2 (Or.inr (Nat.le_refl _))).join s2 ((hB.moved p1 (Nat.le_refl _)).moved2 p2 (Nat.le_refl _)), (p1.mono (Nat.le_refl _) h2).trans (p2.mono h1 (Nat.le_refl _))⟩

/-- A part that is empty on a side is in order already. -/
theorem srd_none {key : α → Int} {f : TagF α} {a m b : Nat} (h : a = m ∨ m = b) (h1 : Srd key f a m) (h2 : Srd key f m b) : Srd key f a b := by
  rcases h with h | h
  · rw [h]; exact h2
  · rw [← h]; exact h1

/-- Places stay apart where each side is moved within itself. -/
theorem Plc.moved {n a b c d : Nat} {f g : TagF α} (h : Plc f a b c d) (p : Pw n a b f g) (hbc : b ≤ c) : Plc g a b c d := fun i j i1 i2 j1 j2 => by
  obtain ⟨i', x1, x2, e⟩ := p.come i i1 i2
  rw [e, p.out j (by omega)]
  exact h i' j x1 x2 j1 j2

theorem Plc.kept {n a b c d lo hi : Nat} {f g : TagF α} (h : Plc f a b c d) (p : Pw n lo hi f g) (h1 : hi ≤ a ∨ b ≤ lo) (h2 : hi ≤ c ∨ d ≤ lo) : Plc g a b c d := fun i j i1 i2 j1 j2 => by
  rw [p.out i (by omega), p.out j (by omega)]
  exact h i j i1 i2 j1 j2

end Go.Proofs.YtffnfchekbafmaaGreatDoor

/- Contract: slices.symMergeCmpFunc, where one thing stands alone on the left. -/
namespace Go.Proofs.YtffnfchekbafmaaGreatDoor
open Go.RowKit Go.Lib
set_option maxRecDepth 100000
set_option linter.unusedVariables false

set_option maxHeartbeats 8000000 in
theorem symA_ok (B g n c a b : Nat) (f : TagF Value) (w : World) (h : EnR w B g n c f) (hG : ∀ k, k < n → GoodE (f k).1) (hR : Srd kOf f (a + 1) b) (hP : Plc f a (a + 1) (a + 1) b) (h1 : a + 1 ≤ b) (h2 : b ≤ n) (hnn : n ≤ 1000000) :
    Calls Tryz.prog 55 #[.slice (some ⟨g, 0, none⟩) n c, .int .i64 (a : Int), .int .i64 ((a + 1 : Nat) : Int), .int .i64 (b : Int), cmpV] w fun e w' => ∃ f', e = .returned (.tuple #[]) ∧ EnR w' B g n c f' ∧ Pw n a b f f' ∧ Srd kOf f' a b ∧ But g w w' := by
  obtain ⟨cur, hh, hBg, hn1, hn2⟩ := h.blk
  have HE := hide h
  have HG := hide hG
  have HRR := hide hR
  have HPP := hide hP
  obtain ⟨m, hm⟩ : ∃ m, a + 1 = m := ⟨_, rfl⟩
  rw [hm] at HRR HPP ⊢
  have HM := hide hm
  have ham : a < m := by omega
  have hmb : m ≤ b := by omega
  clear h hh hG hR hP h1
  unfold cmpV
  go_enter Tryz.func55, Tryz.ntmps55
  have hw1 : IntKind.i64.wrap ((m : Int) - (a : Int)) = 1 := by rw [IntKind.wrap_i64]; omega
  clear hm
  go_wp2
  go_loopw [10, 11] (fun iv jv wr => ∃ i j : Nat, m ≤ i ∧ i ≤ j ∧ j ≤ b ∧ iv = .int .i64 (i : Int) ∧ jv = .int .i64 (j : Int) ∧ Hid (∀ y, m ≤ y → y < i → kOf (f y).1 < kOf (f a).1) ∧ Hid (∀ y, j ≤ y → y < b → ¬ kOf (f y).1 < kOf (f a).1) ∧ Hid (EnR wr B g n c f) ∧ Hid (But g w wr)) (fun iv jv _ => (RowKit.intOf jv).toNat - (RowKit.intOf iv).toNat)
  case atStart => exact ⟨m, b, Nat.le_refl _, hmb, Nat.le_refl _, rfl, rfl, (fun y h1 h2 => absurd h1 (by omega)), (fun y h1 h2 => absurd h1 (by omega)), HE, But.refl _ _⟩
  case round =>
    obtain ⟨i, j, hi, hij, hj, rfl, rfl, HLO, HHI, HE2, HB2⟩ := hrel
    clear HE hw1
    by_cases hlt : i < j
    · have hlt1 : (i : Int) < (j : Int) := by omega
      have hq1 : i ≤ (i + j) / 2 := by omega
      have hq2 : (i + j) / 2 < j := by omega
      have hqe : ((i : Int) + (j : Int)) / 2 = (((i + j) / 2 : Nat) : Int) := by omega
      generalize (i + j) / 2 = hh at *
      obtain ⟨cx, fx⟩ := HE2.out.cell (k := hh) (by omega)
      obtain ⟨cy, fy⟩ := HE2.out.cell (k := a) (by omega)
      go_upto_region 5 with fail
      go_cut [50] from 40 to 50 (fun v wx => ∃ bo : Bool, v = .bool bo ∧ Hid (bo = true → kOf (f hh).1 < kOf (f a).1) ∧ Hid (bo = false → ¬ kOf (f hh).1 < kOf (f a).1) ∧ Hid (EnR wx B g n c f) ∧ Hid (But g w wx))
      case first =>
        have hbx : 0 ≤ (hh : Int) ∧ (hh : Int) < (n : Int) := by omega
        have hby : 0 ≤ (a : Int) ∧ (a : Int) < (n : Int) := by omega
        have HCM : Hid (∀ W, Calls Tryz.prog 28 #[.iface 75 (f hh).1, .iface 75 (f a).1] W fun e w' => (∃ z : Int, e = .returned (.int .i64 z) ∧ (z < 0 ↔ kOf (f hh).1 < kOf (f a).1)) ∧ Below W.heap.size W w') := fun W => cmp_ok _ _ W (HG.out hh (by omega)) (HG.out a (by omega))
        unfold enE at cx cy
        generalize (f hh).1 = xi at *
        generalize (f a).1 = yi at *
        refine wp_region_held_drew (S := fun W' => W'.cell? ⟨g, hh, none⟩ = some (.iface 75 xi) ∧ W'.cell? ⟨g, a, none⟩ = some (.iface 75 yi)) (by kernel_rfl) ⟨cx, cy⟩ (fun hS => ?_)
        refine wpAnyH_take (i := 0) (v := .func (.func 28) #[] #[]) rfl (by kernel_rfl) (by kernel_rfl) (by kernel_rfl) (fun _ _ _ h => h) (Or.inl ⟨by kernel_rfl, fun w' hS' => by clear hS'; go_simp⟩) hS ?_
        refine wpAnyH_take (i := 1) (v := .slice (some ⟨g, 0, none⟩) n c) rfl (by kernel_rfl) (by kernel_rfl) (by kernel_rfl) (fun _ _ _ h => h) (Or.inl ⟨by kernel_rfl, fun w' hS' => by clear hS'; go_simp⟩) hS ?_
        refine wpAnyH_take (i := 2) (v := .int .i64 (hh : Int)) rfl (by kernel_rfl) (by kernel_rfl) (by kernel_rfl) (fun _ _ _ h => h) (Or.inl ⟨by kernel_rfl, fun w' hS' => by clear hS'; go_simp⟩) hS ?_
        refine wpAnyH_take (i := 3) (v := .pointer (some ⟨g, hh, none⟩)) rfl (by kernel_rfl) (by kernel_rfl) (by kernel_rfl) (fun _ _ _ h => h) (Or.inl ⟨by kernel_rfl, fun w' hS' => by clear hS'; go_simp⟩) hS ?_
        refine wpAnyH_take (i := 4) (v := .iface 75 xi) rfl (by kernel_rfl) (by kernel_rfl) (by kernel_rfl) (fun _ _ _ h => h) (Or.inl ⟨by kernel_rfl, fun w' hS' => by have hq := hS'.1; clear hS'; go_simp⟩) hS ?_
        refine wpAnyH_take (i := 5) (v := .slice (some ⟨g, 0, none⟩) n c) rfl (by kernel_rfl) (by kernel_rfl) (by kernel_rfl) (fun _ _ _ h => h) (Or.inl ⟨by kernel_rfl, fun w' hS' => by clear hS'; go_simp⟩) hS ?_
        refine wpAnyH_take (i := 6) (v := .int .i64 (a : Int)) rfl (by kernel_rfl) (by kernel_rfl) (by kernel_rfl) (fun _ _ _ h => h) (Or.inl ⟨by kernel_rfl, fun w' hS' => by clear hS'; go_simp⟩) hS ?_
        refine wpAnyH_take (i := 7) (v := .pointer (some ⟨g, a, none⟩)) rfl (by kernel_rfl) (by kernel_rfl) (by kernel_rfl) (fun _ _ _ h => h) (Or.inl ⟨by kernel_rfl, fun w' hS' => by clear hS'; go_simp⟩) hS ?_
        refine wpAnyH_take (i := 8) (v := .iface 75 yi) rfl (by kernel_rfl) (by kernel_rfl) (by kernel_rfl) (fun _ _ _ h => h) (Or.inl ⟨by kernel_rfl, fun w' hS' => by have hq := hS'.2; clear hS'; go_simp⟩) hS ?_
        refine wpAnyH_ready (rs := [9]) (by kernel_rfl) (by simp) ?_
        refine AllReadyH.cons rfl (fun K hK => ?_) AllReadyH.nil
        go_simp
        refine (HCM.out _).mono ?_
        rintro e w4 ⟨⟨z, rfl, hz⟩, hb4⟩
        have hb4' : Below wr.heap.size wr w4 := ((Below.refl wr.heap.size wr).drew).trans hb4
        refine hK.out _ _ ⟨(hb4'.cell (p := ⟨g, hh, none⟩) (World.block_lt_of_cell? _ _ cx)).trans cx, (hb4'.cell (p := ⟨g, a, none⟩) (World.block_lt_of_cell? _ _ cy)).trans cy⟩ (fun hS => ?_)
        clear hK
        have HEX : Hid (EnR w4 B g n c f) := HE2.out.below hb4'
        have HBX : Hid (But g w w4) := HB2.out.trans (But.of hb4')
        refine wpAnyH_take (i := 10) (v := .bool (decide (z < 0))) rfl (by kernel_rfl) (by kernel_rfl) (by kernel_rfl) (fun _ _ _ h => h) (Or.inl ⟨by kernel_rfl, fun w' hS' => by clear hS'; go_simp⟩) hS ?_
        have HR1 : Hid (decide (z < 0) = true → kOf xi < kOf yi) := fun h => hz.1 (of_decide_eq_true h)
        have HR2 : Hid (decide (z < 0) = false → ¬ kOf xi < kOf yi) := fun h h7 => absurd (hz.2 h7) (of_decide_eq_false h)
        clear hz
        refine wpAnyH_done (by kernel_rfl) ?_ _
        clear hb4 hb4' hS HE2 HB2
        go_simp
        go_step
        go_meet
        exact ⟨_, rfl, HR1, HR2, HEX, HBX⟩
      case rest =>
        obtain ⟨bo, rfl, HR1, HR2, HE3, HB3⟩ := hcut
        clear HE2 HB2 cx fx cy fy
        generalize wc = W3 at *
        cases bo with
        | true =>
          have HN : Hid (∀ y, m ≤ y → y < hh + 1 → kOf (f y).1 < kOf (f a).1) := fun y h1 h2 => by
            have e1 := HR1.out rfl
            rcases Nat.lt_succ_iff_lt_or_eq.1 h2 with h3 | h3
            · have e2 := HRR.out y hh h1 h3 (by omega)
              have e3 := e2.key_le
              omega
            · rw [h3]; exact e1
          clear HR1 HR2 HLO
          go_wp2
          go_roundw
          case rel => exact ⟨hh + 1, j, by omega, by omega, hj, by go_num, rfl, HN, HHI, HE3, HB3⟩
          case measure => simp [RowKit.intOf]; omega
        | false =>
          have HN : Hid (∀ y, hh ≤ y → y < b → ¬ kOf (f y).1 < kOf (f a).1) := fun y h1 h2 => by
            have e1 := HR2.out rfl
            rcases Nat.eq_or_lt_of_le h1 with h3 | h3
            · rw [← h3]; exact e1
            · have e2 := HRR.out hh y (by omega) h3 h2
              have e3 := e2.key_le
              omega
          clear HR1 HR2 HHI
          go_wp2
          go_roundw
          case rel => exact ⟨i, hh, hi, hq1, by omega, rfl, rfl, HLO, HN, HE3, HB3⟩
          case measure => simp [RowKit.intOf]; omega
    · obtain rfl : i = j := by omega
      have HFIN : Hid (Srd kOf (rotF f a (a + 1) i) a b) := by
        have hm := HM.out
        have h5 := HRR.out
        have h6 := HPP.out
        rw [← hm] at h5 h6
        exact merge_one_left h5 h6 (by omega) hj (fun y h1 h2 => HLO.out y (by omega) h2) (fun y h1 h2 => by have := HHI.out y h1 h2; omega)
      have HPW : Hid (Pw n a b f (rotF f a (a + 1) i)) := rotF_pw f (Nat.le_refl _) (by omega) (by have := HM.out; omega) hj h2
      have hi1 : m ≤ i := hi
      have hw2 : IntKind.i64.wrap ((i : Int) - 1) = ((i - 1 : Nat) : Int) := by rw [IntKind.wrap_i64]; omega
      have HST : Hid (EnR wr B g n c (rotF f a (a + 1) (a + 1))) := by show EnR _ _ _ _ _ _; rw [rotF_none (Or.inr rfl) (by omega) (Nat.le_refl _)]; exact HE2.out
      have HEND : Hid (i - 1 + 1 = i) := by show _ = _; omega
      have hlim : i - 1 + 1 ≤ n := by omega
      have hal : a ≤ i - 1 := by omega
      clear HLO HHI HE2 HRR HPP HG
      generalize hI : i - 1 = i1 at *
      clear hI
      go_wp2_with fail
      go_loopw [13] (fun kv wr => ∃ k : Nat, a ≤ k ∧ k ≤ i1 ∧ kv = .int .i64 (k : Int) ∧ Hid (EnR wr B g n c (rotF f a (a + 1) (k + 1))) ∧ Hid (But g w wr)) (fun kv _ => i1 - (RowKit.intOf kv).toNat)
      case atStart => exact ⟨a, Nat.le_refl _, hal, rfl, HST, HB2⟩
      case round =>
        obtain ⟨k, hk1, hk2, rfl, HE4, HB4⟩ := hrel
        clear HST HB2
        by_cases hlt2 : k < i1
        · have hlt3 : (k : Int) < (i1 : Int) := by omega
          obtain ⟨cj, fj⟩ := HE4.out.cell (k := k) (by omega)
          obtain ⟨ck, fk⟩ := HE4.out.cell (k := k + 1) (by omega)
          have hw3 : IntKind.i64.wrap ((k : Int) + 1) = (k : Int) + 1 := by rw [IntKind.wrap_i64]; omega
          have ht3 : ((k : Int) + 1).toNat = k + 1 := by omega
          have hb1 : 0 ≤ (k : Int) ∧ (k : Int) < (n : Int) := by omega
          have hb2 : 0 ≤ (k : Int) + 1 ∧ (k : Int) + 1 < (n : Int) := by omega
          have hn1' : ¬ k = k + 1 := by omega
          have hn2' : ¬ k + 1 = k := by omega
          have HNX := HE4.out.swap (i := k) (j := k + 1) (by omega) (by omega)
          rw [rot_up f hk1] at HNX
          unfold enE at cj ck HNX
          generalize (rotF f a (a + 1) (k + 1) k).1 = xj at *
          generalize (rotF f a (a + 1) (k + 1) (k + 1)).1 = xk at *
          have HNX := hide HNX
          clear HE4
          go_upto_region 11 with fail
          go_region
          have HBN : Hid (But g w ((wr.setCell ⟨g, k, none⟩ (.iface 75 xk)).setCell ⟨g, k + 1, none⟩ (.iface 75 xj)).drew) := (HB4.out.trans But.swap).drewR
          have HNY : Hid (EnR ((wr.setCell ⟨g, k, none⟩ (.iface 75 xk)).setCell ⟨g, k + 1, none⟩ (.iface 75 xj)).drew B g n c (rotF f a (a + 1) (k + 2))) := HNX.out.drew
          clear cj ck fj fk hn1' hn2' hb1 hb2 hw3 ht3
          go_wp2
          go_roundw
          case rel => exact ⟨k + 1, by omega, by omega, by go_num, HNY, HBN⟩
          case measure => simp [RowKit.intOf]; omega
        · have hlt3 : ¬ (k : Int) < (i1 : Int) := by omega
          have HF : Hid (EnR wr B g n c (rotF f a (a + 1) i)) := by
            have e : k = i1 := by omega
            have h7 := HE4.out
            rw [e, HEND.out] at h7
            exact h7
          clear HE4
          go_wp2
          exact bodyPost_ret (results_none rfl _ _ _) rfl ⟨rfl, _, HF.out, HPW.out, HFIN.out, HB4.out⟩

end Go.Proofs.YtffnfchekbafmaaGreatDoor

/- Contract: slices.symMergeCmpFunc, where one thing stands alone on the right. -/
namespace Go.Proofs.YtffnfchekbafmaaGreatDoor
open Go.RowKit Go.Lib
set_option maxRecDepth 100000
set_option linter.unusedVariables false

set_option maxHeartbeats 8000000 in
theorem symB_ok (B g n c a m : Nat) (f : TagF Value) (w : World) (h : EnR w B g n c f) (hG : ∀ k, k < n → GoodE (f k).1) (hL : Srd kOf f a m) (hP : Plc f a m m (m + 1)) (h1 : a + 1 < m) (h2 : m + 1 ≤ n) (hnn : n ≤ 1000000) :
    Calls Tryz.prog 55 #[.slice (some ⟨g, 0, none⟩) n c, .int .i64 (a : Int), .int .i64 (m : Int), .int .i64 ((m + 1 : Nat) : Int), cmpV] w fun e w' => ∃ f', e = .returned (.tuple #[]) ∧ EnR w' B g n c f' ∧ Pw n a (m + 1) f f' ∧ Srd kOf f' a (m + 1) ∧ But g w w' := by
  obtain ⟨cur, hh, hBg, hn1, hn2⟩ := h.blk
  have HE := hide h
  have HG := hide hG
  have HLL := hide hL
  have HPP := hide hP
  obtain ⟨b, hb⟩ : ∃ b, m + 1 = b := ⟨_, rfl⟩
  rw [hb] at HPP ⊢
  have HBB := hide hb
  have hbn : b ≤ n := by omega
  have hmb : m < b := by omega
  have hw1 : IntKind.i64.wrap ((m : Int) - (a : Int)) = (m : Int) - (a : Int) := by rw [IntKind.wrap_i64]; omega
  have hw1e : ((m : Int) - (a : Int) == 1) = false := by rw [beq_eq_false_iff_ne]; omega
  have hw2 : IntKind.i64.wrap ((b : Int) - (m : Int)) = 1 := by rw [IntKind.wrap_i64]; omega
  clear h hh hG hL hP hb
  unfold cmpV
  go_enter Tryz.func55, Tryz.ntmps55
  go_wp2
  go_loopw [14, 15] (fun iv jv wr => ∃ i j : Nat, a ≤ i ∧ i ≤ j ∧ j ≤ m ∧ iv = .int .i64 (i : Int) ∧ jv = .int .i64 (j : Int) ∧ Hid (∀ y, a ≤ y → y < i → ¬ kOf (f m).1 < kOf (f y).1) ∧ Hid (∀ y, j ≤ y → y < m → kOf (f m).1 < kOf (f y).1) ∧ Hid (EnR wr B g n c f) ∧ Hid (But g w wr)) (fun iv jv _ => (RowKit.intOf jv).toNat - (RowKit.intOf iv).toNat)
  case atStart => exact ⟨a, m, Nat.le_refl _, by omega, Nat.le_refl _, rfl, rfl, (fun y h1 h2 => absurd h1 (by omega)), (fun y h1 h2 => absurd h1 (by omega)), HE, But.refl _ _⟩
  case round =>
    obtain ⟨i, j, hi, hij, hj, rfl, rfl, HLO, HHI, HE2, HB2⟩ := hrel
    clear HE hw1 hw1e hw2
    by_cases hlt : i < j
    · have hlt1 : (i : Int) < (j : Int) := by omega
      have hq1 : i ≤ (i + j) / 2 := by omega
      have hq2 : (i + j) / 2 < j := by omega
      have hqe : ((i : Int) + (j : Int)) / 2 = (((i + j) / 2 : Nat) : Int) := by omega
      generalize (i + j) / 2 = hh at *
      obtain ⟨cx, fx⟩ := HE2.out.cell (k := m) (by omega)
      obtain ⟨cy, fy⟩ := HE2.out.cell (k := hh) (by omega)
      go_upto_region 17 with fail
      go_cut [103] from 92 to 103 (fun v wx => ∃ bo : Bool, v = .bool bo ∧ Hid (bo = false → kOf (f m).1 < kOf (f hh).1) ∧ Hid (bo = true → ¬ kOf (f m).1 < kOf (f hh).1) ∧ Hid (EnR wx B g n c f) ∧ Hid (But g w wx))
      case first =>
        have hbx : 0 ≤ (m : Int) ∧ (m : Int) < (n : Int) := by omega
        have hby : 0 ≤ (hh : Int) ∧ (hh : Int) < (n : Int) := by omega
        have HCM : Hid (∀ W, Calls Tryz.prog 28 #[.iface 75 (f m).1, .iface 75 (f hh).1] W fun e w' => (∃ z : Int, e = .returned (.int .i64 z) ∧ (z < 0 ↔ kOf (f m).1 < kOf (f hh).1)) ∧ Below W.heap.size W w') := fun W => cmp_ok _ _ W (HG.out m (by omega)) (HG.out hh (by omega))
        unfold enE at cx cy
        generalize (f m).1 = xi at *
        generalize (f hh).1 = yi at *
        refine wp_region_held_drew (S := fun W' => W'.cell? ⟨g, m, none⟩ = some (.iface 75 xi) ∧ W'.cell? ⟨g, hh, none⟩ = some (.iface 75 yi)) (by kernel_rfl) ⟨cx, cy⟩ (fun hS => ?_)
        refine wpAnyH_take (i := 0) (v := .func (.func 28) #[] #[]) rfl (by kernel_rfl) (by kernel_rfl) (by kernel_rfl) (fun _ _ _ h => h) (Or.inl ⟨by kernel_rfl, fun w' hS' => by clear hS'; go_simp⟩) hS ?_
        refine wpAnyH_take (i := 1) (v := .slice (some ⟨g, 0, none⟩) n c) rfl (by kernel_rfl) (by kernel_rfl) (by kernel_rfl) (fun _ _ _ h => h) (Or.inl ⟨by kernel_rfl, fun w' hS' => by clear hS'; go_simp⟩) hS ?_
        refine wpAnyH_take (i := 2) (v := .int .i64 (m : Int)) rfl (by kernel_rfl) (by kernel_rfl) (by kernel_rfl) (fun _ _ _ h => h) (Or.inl ⟨by kernel_rfl, fun w' hS' => by clear hS'; go_simp⟩) hS ?_
        refine wpAnyH_take (i := 3) (v := .pointer (some ⟨g, m, none⟩)) rfl (by kernel_rfl) (by kernel_rfl) (by kernel_rfl) (fun _ _ _ h => h) (Or.inl ⟨by kernel_rfl, fun w' hS' => by clear hS'; go_simp⟩) hS ?_
        refine wpAnyH_take (i := 4) (v := .iface 75 xi) rfl (by kernel_rfl) (by kernel_rfl) (by kernel_rfl) (fun _ _ _ h => h) (Or.inl ⟨by kernel_rfl, fun w' hS' => by have hq := hS'.1; clear hS'; go_simp⟩) hS ?_
        refine wpAnyH_take (i := 5) (v := .slice (some ⟨g, 0, none⟩) n c) rfl (by kernel_rfl) (by kernel_rfl) (by kernel_rfl) (fun _ _ _ h => h) (Or.inl ⟨by kernel_rfl, fun w' hS' => by clear hS'; go_simp⟩) hS ?_
        refine wpAnyH_take (i := 6) (v := .int .i64 (hh : Int)) rfl (by kernel_rfl) (by kernel_rfl) (by kernel_rfl) (fun _ _ _ h => h) (Or.inl ⟨by kernel_rfl, fun w' hS' => by clear hS'; go_simp⟩) hS ?_
        refine wpAnyH_take (i := 7) (v := .pointer (some ⟨g, hh, none⟩)) rfl (by kernel_rfl) (by kernel_rfl) (by kernel_rfl) (fun _ _ _ h => h) (Or.inl ⟨by kernel_rfl, fun w' hS' => by clear hS'; go_simp⟩) hS ?_
        refine wpAnyH_take (i := 8) (v := .iface 75 yi) rfl (by kernel_rfl) (by kernel_rfl) (by kernel_rfl) (fun _ _ _ h => h) (Or.inl ⟨by kernel_rfl, fun w' hS' => by have hq := hS'.2; clear hS'; go_simp⟩) hS ?_
        refine wpAnyH_ready (rs := [9]) (by kernel_rfl) (by simp) ?_
        refine AllReadyH.cons rfl (fun K hK => ?_) AllReadyH.nil
        go_simp
        refine (HCM.out _).mono ?_
        rintro e w4 ⟨⟨z, rfl, hz⟩, hb4⟩
        have hb4' : Below wr.heap.size wr w4 := ((Below.refl wr.heap.size wr).drew).trans hb4
        refine hK.out _ _ ⟨(hb4'.cell (p := ⟨g, m, none⟩) (World.block_lt_of_cell? _ _ cx)).trans cx, (hb4'.cell (p := ⟨g, hh, none⟩) (World.block_lt_of_cell? _ _ cy)).trans cy⟩ (fun hS => ?_)
        clear hK
        have HEX : Hid (EnR w4 B g n c f) := HE2.out.below hb4'
        have HBX : Hid (But g w w4) := HB2.out.trans (But.of hb4')
        refine wpAnyH_take (i := 10) (v := .bool (decide (z < 0))) rfl (by kernel_rfl) (by kernel_rfl) (by kernel_rfl) (fun _ _ _ h => h) (Or.inl ⟨by kernel_rfl, fun w' hS' => by clear hS'; go_simp⟩) hS ?_
        refine wpAnyH_take (i := 11) (v := .bool (!decide (z < 0))) rfl (by kernel_rfl) (by kernel_rfl) (by kernel_rfl) (fun _ _ _ h => h) (Or.inl ⟨by kernel_rfl, fun w' hS' => by clear hS'; go_simp⟩) hS ?_
        have HR1 : Hid ((!decide (z < 0)) = false → kOf xi < kOf yi) := fun h => hz.1 (by simpa using h)
        have HR2 : Hid ((!decide (z < 0)) = true → ¬ kOf xi < kOf yi) := fun h h7 => by have := hz.2 h7; simp at h; omega
        clear hz
        refine wpAnyH_done (by kernel_rfl) ?_ _
        clear hb4 hb4' hS HE2 HB2
        go_simp
        go_step
        go_meet
        exact ⟨_, rfl, HR1, HR2, HEX, HBX⟩
      case rest =>
        obtain ⟨bo, rfl, HR1, HR2, HE3, HB3⟩ := hcut
        clear HE2 HB2 cx fx cy fy
        generalize wc = W3 at *
        cases bo with
        | true =>
          have HN : Hid (∀ y, a ≤ y → y < hh + 1 → ¬ kOf (f m).1 < kOf (f y).1) := fun y h1 h2 => by
            have e1 := HR2.out rfl
            rcases Nat.lt_succ_iff_lt_or_eq.1 h2 with h3 | h3
            · have e2 := HLL.out y hh h1 h3 (by omega)
              have e3 := e2.key_le
              omega
            · rw [h3]; exact e1
          clear HR1 HR2 HLO
          go_wp2
          go_roundw
          case rel => exact ⟨hh + 1, j, by omega, by omega, hj, by go_num, rfl, HN, HHI, HE3, HB3⟩
          case measure => simp [RowKit.intOf]; omega
        | false =>
          have HN : Hid (∀ y, hh ≤ y → y < m → kOf (f m).1 < kOf (f y).1) := fun y h1 h2 => by
            have e1 := HR1.out rfl
            rcases Nat.eq_or_lt_of_le h1 with h3 | h3
            · rw [← h3]; exact e1
            · have e2 := HLL.out hh y (by omega) h3 h2
              have e3 := e2.key_le
              omega
          clear HR1 HR2 HHI
          go_wp2
          go_roundw
          case rel => exact ⟨i, hh, hi, hq1, by omega, rfl, rfl, HLO, HN, HE3, HB3⟩
          case measure => simp [RowKit.intOf]; omega
    · obtain rfl : i = j := by omega
      have HFIN : Hid (Srd kOf (rotF f i m (m + 1)) a b) := by
        have hb := HBB.out
        have h6 := HPP.out
        rw [← hb] at h6 ⊢
        exact merge_one_right HLL.out h6 hi hj (fun y h1 h2 => by have := HLO.out y h1 h2; omega) (fun y h1 h2 => HHI.out y h1 h2)
      have HPW : Hid (Pw n a b f (rotF f i m (m + 1))) := rotF_pw f hi (by omega) (by omega) (by have := HBB.out; omega) hbn
      have HST : Hid (EnR wr B g n c (rotF f m m (m + 1))) := by show EnR _ _ _ _ _ _; rw [rotF_none (Or.inl rfl) (Nat.le_refl _) (by omega)]; exact HE2.out
      clear HLO HHI HE2 HLL HPP HG
      go_wp2_with fail
      go_loopw [17] (fun kv wr => ∃ k : Nat, i ≤ k ∧ k ≤ m ∧ kv = .int .i64 (k : Int) ∧ Hid (EnR wr B g n c (rotF f k m (m + 1))) ∧ Hid (But g w wr)) (fun kv _ => (RowKit.intOf kv).toNat)
      case atStart => exact ⟨m, hj, Nat.le_refl _, rfl, HST, HB2⟩
      case round =>
        obtain ⟨k, hk1, hk2, rfl, HE4, HB4⟩ := hrel
        clear HST HB2
        by_cases hlt2 : i < k
        · have hlt3 : (i : Int) < (k : Int) := by omega
          obtain ⟨cj, fj⟩ := HE4.out.cell (k := k) (by omega)
          obtain ⟨ck, fk⟩ := HE4.out.cell (k := k - 1) (by omega)
          have hw3 : IntKind.i64.wrap ((k : Int) - 1) = ((k - 1 : Nat) : Int) := by rw [IntKind.wrap_i64]; omega
          have hb1 : 0 ≤ (k : Int) ∧ (k : Int) < (n : Int) := by omega
          have hb2 : 0 ≤ ((k - 1 : Nat) : Int) ∧ ((k - 1 : Nat) : Int) < (n : Int) := by omega
          have hn1' : ¬ k = k - 1 := by omega
          have hn2' : ¬ k - 1 = k := by omega
          have HNX := HE4.out.swap (i := k) (j := k - 1) (by omega) (by omega)
          rw [rot_down f hk2 (by omega)] at HNX
          have hk3 : i ≤ k - 1 := by omega
          have hk4 : k - 1 ≤ m := by omega
          have hk5 : k - 1 < k := by omega
          have hwm : ((k : Int) - 1) = ((k - 1 : Nat) : Int) := by omega
          unfold enE at cj ck HNX
          generalize (rotF f k m (m + 1) k).1 = xj at *
          generalize (rotF f k m (m + 1) (k - 1)).1 = xk at *
          have HNX := hide HNX
          clear HE4
          generalize k - 1 = k1 at *
          go_upto_region 23 with fail
          go_region
          have HBN : Hid (But g w ((wr.setCell ⟨g, k, none⟩ (.iface 75 xk)).setCell ⟨g, k1, none⟩ (.iface 75 xj)).drew) := (HB4.out.trans But.swap).drewR
          have HNY : Hid (EnR ((wr.setCell ⟨g, k, none⟩ (.iface 75 xk)).setCell ⟨g, k1, none⟩ (.iface 75 xj)).drew B g n c (rotF f k1 m (m + 1))) := HNX.out.drew
          clear cj ck fj fk hn1' hn2' hb1 hb2
          go_wp2
          go_roundw
          case rel => exact ⟨k1, hk3, hk4, by go_num, HNY, HBN⟩
          case measure => simp [RowKit.intOf]; omega
        · have hlt3 : ¬ (i : Int) < (k : Int) := by omega
          have hlt4 : (k : Int) ≤ (i : Int) := by omega
          have HF : Hid (EnR wr B g n c (rotF f i m (m + 1))) := by
            have e : k = i := by omega
            have h7 := HE4.out
            rw [e] at h7
            exact h7
          clear HE4
          go_wp2
          exact bodyPost_ret (results_none rfl _ _ _) rfl ⟨rfl, _, HF.out, HPW.out, HFIN.out, HB4.out⟩

end Go.Proofs.YtffnfchekbafmaaGreatDoor
