/- Joined: BoG, BoH, Rank, Cyc, Cycs, Order, Sum. -/
import Derived.Test.YtffnfchekbafmaaGreatDoorJ0
import Derived.Deep.RegionHeld3
import Derived.Deep.QuietTactic
/- Contract: strings.Join with a sign of one byte, of however many texts. -/
namespace Go.Proofs.YtffnfchekbafmaaGreatDoor
open Go.RowKit
set_option maxRecDepth 100000
set_option linter.unusedVariables false

/-- Texts behind a first one, each with the sign ahead. -/
def jnT (s : UInt8) (x : List UInt8) (r : List (List UInt8)) : List UInt8 := r.foldl (fun l y => (l ++ [s]) ++ y) x

/-- Texts joined. -/
def jnL (s : UInt8) : List (List UInt8) → List UInt8
  | [] => []
  | x :: r => jnT s x r

theorem jnT_snoc (s : UInt8) (x y : List UInt8) (r : List (List UInt8)) : jnT s x (r ++ [y]) = (jnT s x r ++ [s]) ++ y := by unfold jnT; rw [List.foldl_append]; rfl

theorem jnT_len (s : UInt8) {M : Nat} : ∀ (r : List (List UInt8)) (x : List UInt8), (∀ y, y ∈ r → y.length ≤ M) → (jnT s x r).length ≤ x.length + r.length * (M + 1)
  | [], x, _ => by show x.length ≤ _; simp
  | y :: r, x, h => by
    have h1 := jnT_len s r ((x ++ [s]) ++ y) (fun z hz => h z (List.mem_cons_of_mem _ hz))
    have h2 := h y List.mem_cons_self
    show (jnT s ((x ++ [s]) ++ y) r).length ≤ _
    simp only [List.length_append, List.length_cons, List.length_nil] at h1 ⊢
    rw [Nat.add_mul, Nat.one_mul]
    omega

set_option maxHeartbeats 4000000 in
theorem join_ok (s : UInt8) (g o cap : Nat) (xs : List ByteArray) (w : World) (hg : g < w.heap.size) (hc : ∀ j x, xs[j]? = some x → w.cell? ⟨g, o + j, none⟩ = some (.string x)) (hs : ∀ x, x ∈ xs → x.size ≤ 100000) (h2 : 2 ≤ xs.length) (hl : xs.length ≤ 100) (hcap : xs.length ≤ cap) (hcm : cap ≤ 9223372036854775807) :
    Calls Tryz.prog 109 #[.slice (some ⟨g, o, none⟩) xs.length cap, .string ⟨#[s]⟩] w fun e w' => e = .returned (.string ⟨(jnL s (xs.map (fun x => x.data.toList))).toArray⟩) ∧ Below w.heap.size w w' := by
  obtain ⟨x0, r, hxr⟩ : ∃ x0 r, xs = x0 :: r := by
    cases xs with
    | nil => simp at h2
    | cons a b => exact ⟨a, b, rfl⟩
  have hrl : xs.length = r.length + 1 := by rw [hxr]; rfl
  have HX : Hid (∀ k, k < xs.length → ∃ x : ByteArray, xs[k]? = some x ∧ w.cell? ⟨g, o + k, none⟩ = some (.string x) ∧ x.size ≤ 100000) := fun k hk => ⟨xs[k], List.getElem?_eq_getElem hk, hc k _ (List.getElem?_eq_getElem hk), hs _ (List.getElem_mem hk)⟩
  have HR : Hid (∀ k, k < r.length → ∃ x : ByteArray, r[k]? = some x ∧ w.cell? ⟨g, o + (k + 1), none⟩ = some (.string x) ∧ x.size ≤ 100000) := fun k hk => by
    have h5 : xs[k + 1]? = some r[k] := by rw [hxr, List.getElem?_cons_succ]; exact List.getElem?_eq_getElem hk
    exact ⟨r[k], List.getElem?_eq_getElem hk, hc _ _ h5, hs _ (List.mem_of_getElem? h5)⟩
  have HS : Hid (∀ k, (((xs.take k).map (fun x => x.size)).sum ≤ k * 100000)) := fun k => by
    have h5 : ∀ (l : List ByteArray), (∀ x, x ∈ l → x.size ≤ 100000) → (l.map (fun x => x.size)).sum ≤ l.length * 100000 := fun l => by
      induction l with
      | nil => intro _; simp
      | cons a l ih =>
        intro h
        have h6 := ih (fun x hx => h x (List.mem_cons_of_mem _ hx))
        have h7 := h a List.mem_cons_self
        rw [List.map_cons, List.sum_cons, List.length_cons]
        omega
    have h6 := h5 (xs.take k) (fun x hx => hs x (List.mem_of_mem_take hx))
    rw [List.length_take] at h6
    exact Nat.le_trans h6 (Nat.mul_le_mul_right _ (Nat.min_le_left _ _))
  have p0 : w.cell? ⟨g, o, none⟩ = some (.string x0) := hc 0 x0 (by rw [hxr]; rfl)
  have h0s : x0.size ≤ 100000 := hs x0 (by rw [hxr]; exact List.mem_cons_self)
  have HLen : Hid (∀ k, (jnT s x0.data.toList ((r.take k).map (fun x => x.data.toList))).length ≤ 20000000) := fun k => by
    have h5 := jnT_len s (M := 100000) ((r.take k).map (fun x => x.data.toList)) x0.data.toList (fun y hy => by
      obtain ⟨z, hz, rfl⟩ := List.mem_map.1 hy
      rw [Array.length_toList]
      exact hs z (by rw [hxr]; exact List.mem_cons_of_mem _ (List.mem_of_mem_take hz)))
    rw [List.length_map, List.length_take, Array.length_toList] at h5
    have h6 : min k r.length ≤ 99 := by omega
    have h8 : x0.data.size ≤ 100000 := h0s
    exact Nat.le_trans h5 (Nat.le_trans (Nat.add_le_add h8 (Nat.mul_le_mul_right _ h6)) (by decide))
  have HSn : Hid (∀ k x, r[k]? = some x → jnT s x0.data.toList ((r.take (k + 1)).map (fun x => x.data.toList)) = (jnT s x0.data.toList ((r.take k).map (fun x => x.data.toList)) ++ [s]) ++ x.data.toList) := fun k x h => by
    rw [List.take_add_one, h, List.map_append]; exact jnT_snoc _ _ _ _
  have HFin : Hid (jnT s x0.data.toList ((r.take r.length).map (fun x => x.data.toList)) = jnL s (xs.map (fun x => x.data.toList))) := by show _ = _; rw [List.take_length, hxr]; rfl
  generalize hRES : jnL s (xs.map (fun x => x.data.toList)) = RES at *
  obtain ⟨jp, hjp⟩ : ∃ jp : Nat → List UInt8, ∀ k, jp k = jnT s x0.data.toList ((r.take k).map (fun x => x.data.toList)) := ⟨_, fun _ => rfl⟩
  have HJ0 : Hid (jp 0 = x0.data.toList) := by show _ = _; rw [hjp, List.take_zero]; rfl
  simp only [← hjp] at HLen HSn HFin
  obtain ⟨sm, hsm⟩ : ∃ sm : Nat → Nat, ∀ k, sm k = ((xs.take k).map (fun x => x.size)).sum := ⟨_, fun _ => rfl⟩
  have HSm1 : Hid (∀ k x, xs[k]? = some x → sm (k + 1) = sm k + x.size) := fun k x h => by rw [hsm, hsm, List.take_add_one, h, List.map_append, List.sum_append]; simp
  simp only [← hsm] at HS
  have HSm0 : Hid (sm 0 = 0) := by show _ = _; rw [hsm, List.take_zero]; rfl
  generalize hLL : xs.length = L at *
  generalize hLr : r.length = Lr at *
  have hLI : (L : Int) - 1 = (Lr : Int) := by omega
  have hLr1 : 1 ≤ Lr := by omega
  clear hc hs hxr hRES hjp hsm hLL hLr
  have hdv : (9223372036854775807 : Int).tdiv (Lr : Int) = ((9223372036854775807 / Lr : Nat) : Int) := by rw [show (9223372036854775807 : Int) = ((9223372036854775807 : Nat) : Int) from rfl, ← Int.ofNat_tdiv]
  have hdq : 93000000000000000 ≤ 9223372036854775807 / Lr := by
    rw [Nat.le_div_iff_mul_le (by omega)]
    have : 93000000000000000 * Lr ≤ 93000000000000000 * 99 := Nat.mul_le_mul_left _ (by omega)
    omega
  have hdq2 : 9223372036854775807 / Lr ≤ 9223372036854775807 := Nat.div_le_self _ _
  generalize 9223372036854775807 / Lr = DQ at *
  have hnz : ¬ ((Lr : Int) = 0) := by omega
  have gz : (((⟨#[s]⟩ : ByteArray).size : Nat) : Int) = 1 := rfl
  go_enter Tryz.func109, Tryz.ntmps109
  go_wp2
  go_loop [5, 41] (fun n i => ∃ k m : Nat, k ≤ L ∧ i = .int .i64 (k : Int) ∧ n = .int .i64 (m : Int) ∧ Hid (m = Lr + sm k)) (fun _ i => L - (intOf i).toNat)
  case atStart => exact ⟨0, Lr, Nat.zero_le _, rfl, by first | rfl | go_num, by show Lr = Lr + sm 0; rw [HSm0.out, Nat.add_zero]⟩
  case round =>
    obtain ⟨k, m, hk, rfl, rfl, hm⟩ := hrel
    have hm3 : m ≤ 20000000 := by
      have h9 := hm.out
      have h10 := HS.out k
      have h11 : k * 100000 ≤ 100 * 100000 := Nat.mul_le_mul_right _ (by omega)
      have h12 : sm k ≤ 10000000 := Nat.le_trans h10 (Nat.le_trans h11 (by decide))
      omega
    by_cases hlt : k < L
    · obtain ⟨x, hxe, hxc, hxs⟩ := HX.out k hlt
      have HM : Hid (m + x.size = Lr + sm (k + 1)) := by
        show _ = _
        rw [HSm1.out k x hxe, hm.out]; omega
      have hno : ¬ 9223372036854775807 - (m : Int) < (x.size : Int) := by omega
      clear hxe hm
      go_wp2
      go_round
      case rel => exact ⟨k + 1, m + x.size, hlt, by go_num, by go_num, HM⟩
      case measure => simp [intOf]; omega
    · obtain rfl : k = L := by omega
      have HBN : Hid (Bnew (w.alloc (.cells #[.pointer none, .slice none 0 0] 156)) w.heap.size) := heap_alloc_new w _
      have hb0 : Below w.heap.size w (w.alloc (.cells #[.pointer none, .slice none 0 0] 156)) := (Below.refl _ _).alloc (Nat.le_refl _) _
      have HGR := hide (grow_new w.heap.size w.heap.size m _ (Nat.le_refl _) HBN.out hb0.size (by have := hm.out; omega) (by omega))
      have HB0 := hide hb0
      clear hb0 hlt hm hm3
      go_wp2_with fail
      refine HGR.out.mono ?_
      rintro e w1 ⟨rfl, hB1, hbel1⟩
      have hbw1 := HB0.out.trans hbel1
      have q0 := (hbw1.cell (p := ⟨g, o, none⟩) hg).trans p0
      have HB1 := hide hB1
      have HBW1 := hide hbw1
      clear hB1 hbel1 hbw1 HGR HB0 HBN
      go_wp2_with fail
      refine (writeString_ok w.heap.size w.heap.size [] x0 w1 HB1.out (by simp; omega) HBW1.out.size).mono ?_
      rintro e w2 ⟨rfl, hB2, hbel2⟩
      have HJ : Hid (JoiW w w2 (jp 0)) := ⟨by rw [List.nil_append] at hB2; rw [HJ0.out]; exact hB2, HBW1.out.trans hbel2⟩
      clear hB2 hbel2 HB1 HBW1 q0
      have hcne : ¬ (cap = 1) := by omega
      go_wp2
      go_loopw [65] (fun i wr => ∃ (k : Nat), k ≤ Lr ∧ i = .int .i64 (k : Int) ∧ Hid (JoiW w wr (jp k))) (fun i _ => Lr - (intOf i).toNat)
      case atStart => exact ⟨0, Nat.zero_le _, rfl, HJ⟩
      case round =>
        obtain ⟨k, hk2, rfl, hJ⟩ := hrel
        have hll := HLen.out k
        by_cases hlt : k < Lr
        · obtain ⟨x, hxe, hxc, hxs⟩ := HR.out k hlt
          have HXL := hide (HSn.out k x hxe)
          have qx := (hJ.out.below.cell (p := ⟨g, o + (k + 1), none⟩) hg).trans hxc
          have qx' : wr.cell? ⟨g, o + 1 + k, none⟩ = some (.string x) := by rw [show o + 1 + k = o + (k + 1) by omega]; exact qx
          have HW1 := hide (writeString_ok w.heap.size w.heap.size (jp k) ⟨#[s]⟩ wr hJ.out.bld (by rw [show (⟨#[s]⟩ : ByteArray).size = 1 from rfl]; omega) hJ.out.below.size)
          rw [show (⟨#[s]⟩ : ByteArray).size = 1 from rfl, show (⟨#[s]⟩ : ByteArray).data.toList = [s] from rfl] at HW1
          have HBW := hide hJ.out.below
          clear hxc hxe hJ qx
          go_wp2_with fail
          refine HW1.out.mono ?_
          rintro e w3 ⟨rfl, hB3, hbel3⟩
          have hbw3 := HBW.out.trans hbel3
          have HW2 := hide (writeString_ok w.heap.size w.heap.size (jp k ++ [s]) x w3 hB3 (by simp; omega) hbw3.size)
          have HBW3 := hide hbw3
          clear hB3 hbel3 hbw3 HW1 HBW
          go_wp2_with fail
          refine HW2.out.mono ?_
          rintro e w4 ⟨rfl, hB4, hbel4⟩
          have HJ4 : Hid (JoiW w w4 (jp (k + 1))) := ⟨by rw [HXL.out]; exact hB4, HBW3.out.trans hbel4⟩
          clear hB4 hbel4 HW2 HBW3
          go_wp2
          go_roundw
          case rel => exact ⟨k + 1, hlt, by go_num, HJ4⟩
          case measure => simp [intOf]; omega
        · obtain rfl : k = Lr := by omega
          have HS9 := hide (bString_ok w.heap.size w.heap.size _ wr hJ.out.bld hJ.out.below.size)
          have HBW := hide hJ.out.below
          rw [HFin.out] at HS9
          clear hJ
          go_wp2_with fail
          refine HS9.out.mono ?_
          rintro e w3 ⟨rfl, hbel3⟩
          have HF := hide (HBW.out.trans hbel3)
          clear hbel3
          go_wp2
          go_ret
          exact ⟨rfl, HF.out⟩

end Go.Proofs.YtffnfchekbafmaaGreatDoor

/- Contract: (peal).line (written by mkboh.py). -/
namespace Go.Proofs.YtffnfchekbafmaaGreatDoor
open Go.RowKit
set_option maxRecDepth 100000
set_option linter.unusedVariables false

theorem undrewB {w w' : World} (h : Below w.drew.heap.size w.drew w') : Below w.heap.size w w' := ⟨h.os, h.tape, h.output, h.size, h.block⟩

theorem Tab10.below {w w' : World} (h : Tab10 w) (hb : Below w.heap.size w w') : Tab10 w' := Lib.tabBelow_of_tabIs h w' hb

/-- The texts of ringers, behind a slice value that may be read at later worlds. -/
structure RgAt (w : World) (v : Value) (ring : List ByteArray) : Prop where
  mem : ∃ g o cap, v = .slice (some ⟨g, o, none⟩) ring.length cap ∧ g < w.heap.size ∧ ring.length ≤ cap ∧ cap ≤ 9223372036854775807 ∧ ∀ j x, ring[j]? = some x → w.cell? ⟨g, o + j, none⟩ = some (.string x)

theorem RgAt.below {w w' : World} {v : Value} {ring : List ByteArray} (h : RgAt w v ring) (hb : Below w.heap.size w w') : RgAt w' v ring := by
  obtain ⟨g, o, cap, e, h1, h2, h3, h4⟩ := h.mem
  exact ⟨g, o, cap, e, Nat.lt_of_lt_of_le h1 hb.size, h2, h3, fun j x hj => (hb.cell (p := ⟨g, o + j, none⟩) h1).trans (h4 j x hj)⟩

/-- Texts joined, as a text. -/
def jnB (s : UInt8) (xs : List ByteArray) : ByteArray := ⟨(jnL s (xs.map (fun x => x.data.toList))).toArray⟩

theorem join_any (s : UInt8) (v : Value) (xs : List ByteArray) (w : World) (h : RgAt w v xs) (hs : ∀ x, x ∈ xs → x.size ≤ 100000) (h1 : 1 ≤ xs.length) (hl : xs.length ≤ 100) :
    Calls Tryz.prog 109 #[v, .string ⟨#[s]⟩] w fun e w' => e = .returned (.string (jnB s xs)) ∧ Below w.heap.size w w' := by
  obtain ⟨g, o, cap, e, q1, q2, q3, q4⟩ := h.mem
  subst e
  by_cases h2 : 2 ≤ xs.length
  · exact join_ok s g o cap xs w q1 q4 hs h2 hl q2 q3
  · obtain ⟨x, rfl⟩ : ∃ x, xs = [x] := by
      match xs, h1, h2 with
      | [x], _, _ => exact ⟨x, rfl⟩
      | x :: y :: r, _, h2 => exact absurd (by simp) h2
    have hc : w.cell? ⟨g, o, none⟩ = some (.string x) := q4 0 x rfl
    have HR : Hid (jnB s [x] = x) := rfl
    generalize jnB s [x] = RR at *
    have hcap : 1 ≤ cap := q2
    clear h q4 hs q2
    show Calls Tryz.prog 109 #[.slice (some ⟨g, o, none⟩) 1 cap, .string ⟨#[s]⟩] w _
    go_enter Tryz.func109, Tryz.ntmps109
    go_wp2
    first
      | (go_ret; exact ⟨by rw [HR.out]; rfl, Below.refl _ _⟩)
      | exact ⟨by rw [HR.out]; rfl, Below.refl _ _⟩

/-- The text of a record. -/
def txB (d c : Nat) (m : ByteArray) (ring : List ByteArray) : ByteArray := jnB 124 [⟨(Go.Lib.decDigits d).toArray⟩, ⟨(Go.Lib.decDigits c).toArray⟩, m, jnB 44 ring]

def lnB (t : ByteArray) : ByteArray := ⟨(lnOf t.data.toList).toArray⟩

theorem lnB_cat (t : ByteArray) : ((t ++ ⟨#[35]⟩) ++ ⟨(Go.Lib.decDigits (chkN t.data.toList)).toArray⟩) ++ ⟨#[10]⟩ = lnB t := by
  apply ByteArray.ext
  apply Array.ext'
  unfold lnB lnOf
  simp [ByteArray.data_append]

theorem jnL_len44 {xs : List ByteArray} {M : Nat} (hs : ∀ x, x ∈ xs → x.size ≤ M) (s : UInt8) : (jnB s xs).size ≤ xs.length * (M + 1) := by
  show (jnL s (xs.map (fun x => x.data.toList))).toArray.size ≤ _
  rw [List.size_toArray]
  cases xs with
  | nil => exact Nat.zero_le _
  | cons x r =>
    have h5 := jnT_len s (M := M) (r.map (fun x => x.data.toList)) x.data.toList (fun y hy => by
      obtain ⟨z, hz, rfl⟩ := List.mem_map.1 hy
      rw [Array.length_toList]
      exact hs z (List.mem_cons_of_mem _ hz))
    rw [List.length_map, Array.length_toList] at h5
    have h6 : x.data.size ≤ M := hs x List.mem_cons_self
    have h7 : x.data.toList.length = x.data.size := Array.length_toList
    refine Nat.le_trans h5 ?_
    rw [List.length_cons, Nat.add_mul, Nat.one_mul]
    omega

theorem dec_len {u : Nat} (h : u < 18446744073709551616) : (⟨(Go.Lib.decDigits u).toArray⟩ : ByteArray).size ≤ 20 := by
  show (Go.Lib.decDigits u).toArray.size ≤ 20
  rw [List.size_toArray]
  rcases Nat.eq_zero_or_pos u with rfl | hu
  · rw [Lib.decDigits_one (by decide)]; decide
  · rw [Lib.decDigits_length]
    have h5 := Lib.numDigits_eq u hu h
    split at h5 <;> omega

set_option maxHeartbeats 4000000 in
theorem line_ok (d c : Nat) (m : ByteArray) (v : Value) (ring : List ByteArray) (w : World) (ht : Tab10 w) (hv : RgAt w v ring) (hd : d ≤ 1000000) (hc : c ≤ 1000000) (hm : m.size ≤ 1000) (hr : ∀ x, x ∈ ring → x.size ≤ 1000) (h1 : 1 ≤ ring.length) (hl : ring.length ≤ 12) :
    Calls Tryz.prog 107 #[.agg #[.int .i64 (d : Int), .int .i64 (c : Int), .string m, v]] w fun e w' => e = .returned (.string (lnB (txB d c m ring))) ∧ Below w.heap.size w w' := by
  obtain ⟨W, hW⟩ : ∃ W, W = w.alloc (.cells #[.int .i64 (d : Int), .int .i64 (c : Int), .string m, v] 75) := ⟨_, rfl⟩
  have hbW : Below w.heap.size w W := by rw [hW]; exact (Below.refl _ _).alloc (Nat.le_refl _) _
  have hh : W.heap[w.heap.size]? = some (.cells #[.int .i64 (d : Int), .int .i64 (c : Int), .string m, v] 75) := by rw [hW]; exact heap_alloc_new w _
  have k0 : W.cell? ⟨w.heap.size, 0, none⟩ = some (.int .i64 (d : Int)) := by simp [World.cell?, hh]
  have k1 : W.cell? ⟨w.heap.size, 1, none⟩ = some (.int .i64 (c : Int)) := by simp [World.cell?, hh]
  have k2 : W.cell? ⟨w.heap.size, 2, none⟩ = some (.string m) := by simp [World.cell?, hh]
  have k3 : W.cell? ⟨w.heap.size, 3, none⟩ = some v := by simp [World.cell?, hh]
  have hsW : w.heap.size < W.heap.size := (Array.getElem?_eq_some_iff.1 hh).1
  have HI : Hid (∀ (u : Nat) V, u ≤ 1000000 → Below W.heap.size W V → Calls Tryz.prog 66 #[.int .i64 (u : Int)] V fun e w' => e = .returned (.string ⟨(Go.Lib.decDigits u).toArray⟩) ∧ Below V.heap.size V w') := fun u V hu hV => itoa_ok u V (by omega) ((ht.below hbW).below hV)
  have HI1 := hide (fun V hV => HI.out d V hd hV)
  have HI2 := hide (fun V hV => HI.out c V hc hV)
  clear HI
  have HJ : Hid (∀ V, Below W.heap.size W V → Calls Tryz.prog 109 #[v, .string ⟨#[44]⟩] V fun e w' => e = .returned (.string (jnB 44 ring)) ∧ Below V.heap.size V w') := fun V hV => join_any 44 v ring V ((hv.below hbW).below hV) (fun x hx => by have := hr x hx; omega) h1 (by omega)
  have hjl : (jnB 44 ring).size ≤ 12 * 1001 := Nat.le_trans (jnL_len44 hr 44) (Nat.mul_le_mul_right _ hl)
  have HT : Hid (∀ V, Below W.heap.size W V → Tab10 V) := fun V hV => (ht.below hbW).below hV
  have hdl := dec_len (u := d) (by omega)
  have hcl := dec_len (u := c) (by omega)
  have HJ4 : Hid (∀ V : World, Calls Tryz.prog 109 #[.slice (some ⟨V.heap.size, 0, none⟩) 4 4, .string ⟨#[124]⟩] (V.alloc (.cells #[.string ⟨(Go.Lib.decDigits d).toArray⟩, .string ⟨(Go.Lib.decDigits c).toArray⟩, .string m, .string (jnB 44 ring)] 9)) fun e w' => e = .returned (.string (txB d c m ring)) ∧ Below (V.alloc (.cells #[.string ⟨(Go.Lib.decDigits d).toArray⟩, .string ⟨(Go.Lib.decDigits c).toArray⟩, .string m, .string (jnB 44 ring)] 9)).heap.size (V.alloc (.cells #[.string ⟨(Go.Lib.decDigits d).toArray⟩, .string ⟨(Go.Lib.decDigits c).toArray⟩, .string m, .string (jnB 44 ring)] 9)) w') := fun V => by
    have hh4 := heap_alloc_new V (.cells #[.string ⟨(Go.Lib.decDigits d).toArray⟩, .string ⟨(Go.Lib.decDigits c).toArray⟩, .string m, .string (jnB 44 ring)] 9)
    refine join_any 124 _ [⟨(Go.Lib.decDigits d).toArray⟩, ⟨(Go.Lib.decDigits c).toArray⟩, m, jnB 44 ring] _ ⟨V.heap.size, 0, 4, rfl, (Array.getElem?_eq_some_iff.1 hh4).1, Nat.le_refl _, by decide, fun j x hj => ?_⟩ (fun x hx => ?_) (by simp) (by simp)
    · simp only [World.cell?, hh4, Nat.zero_add]
      match j, hj with
      | 0, hj => simp at hj; subst hj; rfl
      | 1, hj => simp at hj; subst hj; rfl
      | 2, hj => simp at hj; subst hj; rfl
      | 3, hj => simp at hj; subst hj; rfl
      | j + 4, hj => simp at hj
    · simp only [List.mem_cons, List.not_mem_nil, or_false] at hx
      rcases hx with rfl | rfl | rfl | rfl <;> omega
  have htl : (txB d c m ring).size ≤ 1000000 := by
    have h5 := jnL_len44 (xs := [⟨(Go.Lib.decDigits d).toArray⟩, ⟨(Go.Lib.decDigits c).toArray⟩, m, jnB 44 ring]) (M := 20000) (fun x hx => by
      simp only [List.mem_cons, List.not_mem_nil, or_false] at hx
      rcases hx with rfl | rfl | rfl | rfl <;> omega) 124
    exact Nat.le_trans h5 (by show 4 * 20001 ≤ 1000000; decide)
  have HCk : Hid (∀ V, Calls Tryz.prog 111 #[.string (txB d c m ring)] V fun e w' => e = .returned (.int .u32 ((chkN (txB d c m ring).data.toList : Nat) : Int)) ∧ V = w') := fun V => checkOf_ok _ V htl
  have hck := chkN_lt (txB d c m ring).data.toList
  have HFu : Hid (∀ V, Tab10 V → Calls Tryz.prog 110 #[.int .u64 ((chkN (txB d c m ring).data.toList : Nat) : Int), .int .i64 10] V fun e w' => e = .returned (.string ⟨(Go.Lib.decDigits (chkN (txB d c m ring).data.toList)).toArray⟩) ∧ Below V.heap.size V w') := fun V hV => fmtU_ok _ V (by omega) hV
  have HCat := hide (lnB_cat (txB d c m ring))
  have h3l := dec_len (u := chkN (txB d c m ring).data.toList) (by omega)
  obtain ⟨gv, ov, cpv, ev, _⟩ := hv.mem
  subst ev
  generalize hLB : lnB (txB d c m ring) = LB at *
  generalize hck9 : chkN (txB d c m ring).data.toList = ck at *
  generalize hTX : txB d c m ring = TX at *
  generalize (⟨(Go.Lib.decDigits d).toArray⟩ : ByteArray) = D1 at *
  generalize (⟨(Go.Lib.decDigits c).toArray⟩ : ByteArray) = D2 at *
  generalize (⟨(Go.Lib.decDigits ck).toArray⟩ : ByteArray) = D3 at *
  generalize jnB 44 ring = JR at *
  generalize ring.length = rl at *
  have HW := hide hW
  have HBW := hide hbW
  clear hh hv ht hLB hck9 hTX hr hbW
  go_enter Tryz.func107, Tryz.ntmps107
  go_wp2
  change Code.wp _ _ _ _ (w.alloc (.cells #[.int .i64 (d : Int), .int .i64 (c : Int), .string m, .slice (some ⟨gv, ov, none⟩) rl cpv] 75))
  rw [← HW.out]
  clear HW hW
  refine wp_region_held_drew (S := fun W' => W'.cell? ⟨w.heap.size, 0, none⟩ = some (.int .i64 (d : Int)) ∧ W'.cell? ⟨w.heap.size, 1, none⟩ = some (.int .i64 (c : Int)) ∧ W'.cell? ⟨w.heap.size, 2, none⟩ = some (.string m) ∧ W'.cell? ⟨w.heap.size, 3, none⟩ = some (.slice (some ⟨gv, ov, none⟩) rl cpv)) (by kernel_rfl) ⟨k0, k1, k2, k3⟩ (fun hS => ?_)
  refine wpAnyH_take (i := 0) (v := .pointer (some ⟨w.heap.size, 0, none⟩)) rfl (by kernel_rfl) (by kernel_rfl) (by kernel_rfl) (fun _ _ _ h => h) (Or.inl ⟨by kernel_rfl, fun w' hS' => by clear hS'; go_simp⟩) hS ?_
  refine wpAnyH_take (i := 1) (v := .pointer (some ⟨w.heap.size, 0, none⟩)) rfl (by kernel_rfl) (by kernel_rfl) (by kernel_rfl) (fun _ _ _ h => h) (Or.inl ⟨by kernel_rfl, fun w' hS' => by clear hS'; go_simp⟩) hS ?_
  refine wpAnyH_take (i := 2) (v := .int .i64 (d : Int)) rfl (by kernel_rfl) (by kernel_rfl) (by kernel_rfl) (fun _ _ _ h => h) (Or.inl ⟨by kernel_rfl, fun w' hS' => by have h2 := hS'.1; clear hS'; go_simp⟩) hS ?_
  refine wpAnyH_take (i := 4) (v := .pointer (some ⟨w.heap.size, 0, none⟩)) rfl (by kernel_rfl) (by kernel_rfl) (by kernel_rfl) (fun _ _ _ h => h) (Or.inl ⟨by kernel_rfl, fun w' hS' => by clear hS'; go_simp⟩) hS ?_
  refine wpAnyH_take (i := 5) (v := .pointer (some ⟨w.heap.size, 1, none⟩)) rfl (by kernel_rfl) (by kernel_rfl) (by kernel_rfl) (fun _ _ _ h => h) (Or.inl ⟨by kernel_rfl, fun w' hS' => by clear hS'; go_simp⟩) hS ?_
  refine wpAnyH_take (i := 6) (v := .int .i64 (c : Int)) rfl (by kernel_rfl) (by kernel_rfl) (by kernel_rfl) (fun _ _ _ h => h) (Or.inl ⟨by kernel_rfl, fun w' hS' => by have h2 := hS'.2.1; clear hS'; go_simp⟩) hS ?_
  refine wpAnyH_take (i := 8) (v := .pointer (some ⟨w.heap.size, 0, none⟩)) rfl (by kernel_rfl) (by kernel_rfl) (by kernel_rfl) (fun _ _ _ h => h) (Or.inl ⟨by kernel_rfl, fun w' hS' => by clear hS'; go_simp⟩) hS ?_
  refine wpAnyH_take (i := 9) (v := .pointer (some ⟨w.heap.size, 2, none⟩)) rfl (by kernel_rfl) (by kernel_rfl) (by kernel_rfl) (fun _ _ _ h => h) (Or.inl ⟨by kernel_rfl, fun w' hS' => by clear hS'; go_simp⟩) hS ?_
  refine wpAnyH_take (i := 10) (v := .string m) rfl (by kernel_rfl) (by kernel_rfl) (by kernel_rfl) (fun _ _ _ h => h) (Or.inl ⟨by kernel_rfl, fun w' hS' => by have h2 := hS'.2.2.1; clear hS'; go_simp⟩) hS ?_
  refine wpAnyH_take (i := 11) (v := .pointer (some ⟨w.heap.size, 0, none⟩)) rfl (by kernel_rfl) (by kernel_rfl) (by kernel_rfl) (fun _ _ _ h => h) (Or.inl ⟨by kernel_rfl, fun w' hS' => by clear hS'; go_simp⟩) hS ?_
  refine wpAnyH_take (i := 12) (v := .pointer (some ⟨w.heap.size, 3, none⟩)) rfl (by kernel_rfl) (by kernel_rfl) (by kernel_rfl) (fun _ _ _ h => h) (Or.inl ⟨by kernel_rfl, fun w' hS' => by clear hS'; go_simp⟩) hS ?_
  refine wpAnyH_take (i := 13) (v := .slice (some ⟨gv, ov, none⟩) rl cpv) rfl (by kernel_rfl) (by kernel_rfl) (by kernel_rfl) (fun _ _ _ h => h) (Or.inl ⟨by kernel_rfl, fun w' hS' => by have h2 := hS'.2.2.2; clear hS'; go_simp⟩) hS ?_
  refine wpAnyH_ready (rs := [3]) (by kernel_rfl) (by simp) ?_
  refine AllReadyH.cons rfl (fun K9 hK9 => ?_) AllReadyH.nil
  go_simp
  refine (HI1.out W.drew (Below.refl W.heap.size W).drew).mono ?_
  rintro e V1 ⟨rfl, hb1⟩
  replace hb1 := undrewB hb1
  have hk : ∀ V, Below W.heap.size W V → V.cell? ⟨w.heap.size, 0, none⟩ = some (.int .i64 (d : Int)) ∧ V.cell? ⟨w.heap.size, 1, none⟩ = some (.int .i64 (c : Int)) ∧ V.cell? ⟨w.heap.size, 2, none⟩ = some (.string m) ∧ V.cell? ⟨w.heap.size, 3, none⟩ = some (.slice (some ⟨gv, ov, none⟩) rl cpv) := fun V hV => ⟨(hV.cell (p := ⟨w.heap.size, 0, none⟩) hsW).trans k0, (hV.cell (p := ⟨w.heap.size, 1, none⟩) hsW).trans k1, (hV.cell (p := ⟨w.heap.size, 2, none⟩) hsW).trans k2, (hV.cell (p := ⟨w.heap.size, 3, none⟩) hsW).trans k3⟩
  have HK := hide hk
  clear hk
  refine hK9.out _ _ (HK.out V1 hb1) (fun hS => ?_)
  clear hK9
  refine wpAnyH_ready (rs := [7]) (by kernel_rfl) (by simp) ?_
  refine AllReadyH.cons rfl (fun K9 hK9 => ?_) AllReadyH.nil
  go_simp
  refine (HI2.out V1 hb1).mono ?_
  rintro e V2 ⟨rfl, hb2⟩
  have hB2 := hb1.trans (hb2.mono hb1.size)
  refine hK9.out _ _ (HK.out V2 hB2) (fun hS => ?_)
  clear hK9 hb2 hb1
  refine wpAnyH_ready (rs := [14]) (by kernel_rfl) (by simp) ?_
  refine AllReadyH.cons rfl (fun K9 hK9 => ?_) AllReadyH.nil
  go_simp
  refine (HJ.out V2 hB2).mono ?_
  rintro e V3 ⟨rfl, hb3⟩
  have hB3 := hB2.trans (hb3.mono hB2.size)
  refine hK9.out _ _ (HK.out V3 hB3) (fun hS => ?_)
  clear hK9 hb3 hB2
  refine wpAnyH_ready (rs := [15]) (by kernel_rfl) (by simp) ?_
  refine AllReadyH.cons rfl (fun K9 hK9 => ?_) AllReadyH.nil
  go_simp
  have hB4 : Below W.heap.size W (V3.alloc (.cells #[.string D1, .string D2, .string m, .string JR] 9)) := hB3.alloc hB3.size _
  refine hK9.out _ _ (HK.out _ hB4) (fun hS => ?_)
  clear hK9
  refine wpAnyH_ready (rs := [16]) (by kernel_rfl) (by simp) ?_
  refine AllReadyH.cons rfl (fun K9 hK9 => ?_) AllReadyH.nil
  go_simp
  refine hK9.out _ _ (HK.out _ hB4) (fun _ => ?_)
  clear hK9
  refine wpAnyH_done (by kernel_rfl) ?_ _
  have HB4 := hide hB4
  clear hS hB4 hB3
  go_wp2_with fail
  refine (HJ4.out V3).mono ?_
  rintro e V5 ⟨rfl, hb5⟩
  have HB5 := hide (HB4.out.trans (hb5.mono HB4.out.size))
  clear hb5
  have HTab := hide (HT.out V5 HB5.out)
  go_wp2_with fail
  refine (HCk.out V5).mono ?_
  rintro e V6 ⟨rfl, rfl⟩
  have hwr : IntKind.u64.wrap ((ck : Nat) : Int) = ((ck : Nat) : Int) := by rw [show ∀ n : Int, IntKind.u64.wrap n = n % 18446744073709551616 from fun n => by simp [IntKind.wrap, IntKind.bits, IntKind.signed]]; omega
  go_wp2_with fail
  refine (HFu.out V5 HTab.out).mono ?_
  rintro e V7 ⟨rfl, hb7⟩
  have hb57 := HB5.out.trans (hb7.mono HB5.out.size)
  have HF := hide (HBW.out.trans (hb57.mono HBW.out.size))
  clear hb7 hb57
  have z1 : (TX ++ (⟨#[35]⟩ : ByteArray)).size = TX.size + 1 := by rw [ByteArray.size_append]; rfl
  have z2 : (TX ++ (⟨#[35]⟩ : ByteArray) ++ D3).size = TX.size + 1 + D3.size := by rw [ByteArray.size_append, z1]
  go_wp2
  all_goals first
    | (go_ret; exact ⟨by rw [← HCat.out]; rfl, HF.out⟩)
    | (exfalso; simp only [ByteArray.size_append] at *; omega)

end Go.Proofs.YtffnfchekbafmaaGreatDoor

/- Contracts: Back, Rank. -/
namespace Go.Proofs.YtffnfchekbafmaaGreatDoor
open Go.RowKit

/-- zs undoes r. -/
def Undoes (zs r : List Int) : Prop := zs.length = r.length ∧ ∀ j, j < r.length → zs.getD (r.getD j 0).toNat 0 = (j : Int)

theorem back_step {r zs : List Int} {k m : Nat} (hr : isRow r) (hk : k < r.length) (hm : r.getD k 0 = (m : Int)) (hz : zs.length = r.length ∧ ∀ j, j < k → zs.getD (r.getD j 0).toNat 0 = (j : Int)) :
    (zs.set m (k : Int)).length = r.length ∧ ∀ j, j < k + 1 → (zs.set m (k : Int)).getD (r.getD j 0).toNat 0 = (j : Int) := by
  have h1 := hr.at hk
  refine ⟨by rw [List.length_set]; exact hz.1, fun j hj => ?_⟩
  rw [getD_set (by have := hz.1; omega)]
  by_cases e : j = k
  · subst e; rw [hm, Int.toNat_natCast, if_pos rfl]
  · rw [if_neg]
    · exact hz.2 j (by omega)
    · intro h
      have h2 := hr.at (show j < r.length by omega)
      exact e (hr.inj (by omega) hk (by omega))

/-- The rank's first k steps. -/
def rkTo (xs : List Int) : Nat → Nat
  | 0 => 0
  | k + 1 => rkTo xs k * (xs.length - k) + cnt (xs.getD k 0) (xs.drop (k + 1))

theorem rkTo_bound (xs : List Int) (k : Nat) (h : k ≤ xs.length) : (rkTo xs k + 1) * fct (xs.length - k) ≤ fct xs.length := by
  induction k with
  | zero => simp [rkTo]
  | succ k ih =>
    have h1 := ih (by omega)
    have h2 := cnt_le (xs.getD k 0) (xs.drop (k + 1))
    rw [List.length_drop] at h2
    have e : xs.length - k = (xs.length - (k + 1)) + 1 := by omega
    have h3 : rkTo xs (k + 1) + 1 ≤ (rkTo xs k + 1) * (xs.length - k) := by
      show rkTo xs k * (xs.length - k) + cnt (xs.getD k 0) (xs.drop (k + 1)) + 1 ≤ _
      rw [Nat.add_mul, Nat.one_mul]; omega
    calc (rkTo xs (k + 1) + 1) * fct (xs.length - (k + 1)) ≤ ((rkTo xs k + 1) * (xs.length - k)) * fct (xs.length - (k + 1)) := Nat.mul_le_mul_right _ h3
      _ = (rkTo xs k + 1) * fct (xs.length - k) := by rw [Nat.mul_assoc, e]; rfl
      _ ≤ fct xs.length := h1

theorem rkTo_le (xs : List Int) (k : Nat) (h : k ≤ xs.length) (h12 : xs.length ≤ 12) : rkTo xs k ≤ 479001600 := by
  have h1 := rkTo_bound xs k h
  have h2 := fct_pos (xs.length - k)
  have h3 : rkTo xs k + 1 ≤ (rkTo xs k + 1) * fct (xs.length - k) := Nat.le_mul_of_pos_right _ h2
  have h4 := fct_le h12
  omega

/-- 'r[k+1:]'. -/
theorem drop_ints {w : World} {b off cap k : Nat} {xs : List Int} (hk : k < xs.length) (hc : xs.length ≤ cap) (hm : cap ≤ 9223372036854775807) (hb : b < w.heap.size)
    (hcell : ∀ j, j < xs.length → w.cell? ⟨b, off + j, none⟩ = some (.int .i64 (xs.getD j 0))) :
    ∃ A : Addr, (if cap = k + 1 then some (⟨b, off, none⟩ : Addr) else some ⟨b, off + (k + 1), none⟩) = some A ∧ Hid (Ints w (.slice (some A) (xs.length - (k + 1)) (cap - (k + 1))) (xs.drop (k + 1))) := by
  by_cases h : xs.length = k + 1
  · have e : xs.drop (k + 1) = [] := List.drop_eq_nil_of_le (by omega)
    by_cases h2 : cap = k + 1
    · exact ⟨⟨b, off, none⟩, by simp [h2], Or.inl ⟨e, some ⟨b, off, none⟩, cap - (k + 1), by rw [h, Nat.sub_self]⟩⟩
    · exact ⟨⟨b, off + (k + 1), none⟩, by simp [h2], Or.inl ⟨e, some ⟨b, off + (k + 1), none⟩, cap - (k + 1), by rw [h, Nat.sub_self]⟩⟩
  · refine ⟨⟨b, off + (k + 1), none⟩, by rw [if_neg (by omega)], Or.inr ⟨b, off + (k + 1), cap - (k + 1), ?_, ?_, ?_, by omega, hb, fun j hj => ?_⟩⟩
    · rw [List.length_drop]
    · rw [List.length_drop]; omega
    · rw [List.length_drop]; omega
    · rw [List.length_drop] at hj
      rw [Nat.add_assoc, hcell (k + 1 + j) (by omega)]
      simp [List.getD]

end Go.Proofs.YtffnfchekbafmaaGreatDoor

/- Contract: cycleFrom. -/
namespace Go.Proofs.YtffnfchekbafmaaGreatDoor
open Go.RowKit

/-- From a bell to the next one. -/
def nx (r : List Int) (x : Nat) : Nat := (r.getD x 0).toNat

/-- k steps on. -/
def it (r : List Int) : Nat → Nat → Nat
  | 0, x => x
  | k + 1, x => nx r (it r k x)

/-- The first k bells of a cycle. -/
def orb (r : List Int) (x k : Nat) : List Int := (List.range k).map (fun i => ((it r i x : Nat) : Int))

/-- The cycle's length. -/
def per (r : List Int) (x : Nat) : Nat := ((List.range r.length).find? (fun q => it r (q + 1) x == x)).getD 0 + 1

theorem orb_length (r : List Int) (x k : Nat) : (orb r x k).length = k := by simp [orb]

theorem orb_snoc (r : List Int) (x k : Nat) : orb r x (k + 1) = orb r x k ++ [((it r k x : Nat) : Int)] := by simp [orb, List.range_succ]

theorem nx_lt {r : List Int} (h : isRow r) {x : Nat} (hx : x < r.length) : nx r x < r.length := by
  have := h.at hx
  unfold nx; omega

theorem it_lt {r : List Int} (h : isRow r) {x : Nat} (hx : x < r.length) (k : Nat) : it r k x < r.length := by
  induction k with
  | zero => exact hx
  | succ k ih => exact nx_lt h ih

theorem nx_inj {r : List Int} (h : isRow r) {x y : Nat} (hx : x < r.length) (hy : y < r.length) (e : nx r x = nx r y) : x = y := by
  have h1 := h.at hx
  have h2 := h.at hy
  unfold nx at e
  exact h.inj hx hy (by omega)

theorem it_add (r : List Int) (i j x : Nat) : it r (i + j) x = it r i (it r j x) := by
  induction i with
  | zero => simp [it]
  | succ i ih => rw [Nat.succ_add]; show nx r (it r (i + j) x) = nx r (it r i (it r j x)); rw [ih]

theorem it_inj {r : List Int} (h : isRow r) {x y : Nat} (hx : x < r.length) (hy : y < r.length) (k : Nat) (e : it r k x = it r k y) : x = y := by
  induction k with
  | zero => exact e
  | succ k ih => exact ih (nx_inj h (it_lt h hx k) (it_lt h hy k) e)

theorem nodup_len {α : Type} [DecidableEq α] : ∀ (l m : List α), l.Nodup → (∀ x ∈ l, x ∈ m) → l.length ≤ m.length
  | [], _, _, _ => Nat.zero_le _
  | a :: l, m, hn, hs => by
    have ha : a ∈ m := hs a (List.mem_cons_self)
    have hn' := List.nodup_cons.1 hn
    have h := nodup_len l (m.erase a) hn'.2 (fun x hx => (List.mem_erase_of_ne (fun e => hn'.1 (by rw [← e]; exact hx))).2 (hs x (List.mem_cons_of_mem _ hx)))
    rw [List.length_erase_of_mem ha] at h
    have h0 : 0 < m.length := List.length_pos_of_mem ha
    simp only [List.length_cons]
    omega

/-- Some step of the first n comes back. -/
theorem it_back {r : List Int} (h : isRow r) {x : Nat} (hx : x < r.length) : ∃ q, q < r.length ∧ it r (q + 1) x = x := by
  apply Classical.byContradiction
  intro hn
  have hne : ∀ q, q < r.length → it r (q + 1) x ≠ x := fun q hq e => hn ⟨q, hq, e⟩
  have hd : ((List.range (r.length + 1)).map (fun i => it r i x)).Nodup := by
    rw [List.nodup_iff_pairwise_ne, List.pairwise_map]
    refine List.Pairwise.imp_of_mem ?_ (List.pairwise_lt_range (n := r.length + 1))
    intro i j hi hj hij e
    rw [List.mem_range] at hi hj
    have e1 : it r j x = it r i (it r (j - i) x) := by rw [← it_add, show i + (j - i) = j from by omega]
    rw [e1] at e
    have e2 := it_inj h hx (it_lt h hx (j - i)) i e
    exact hne (j - i - 1) (by omega) (by rw [show j - i - 1 + 1 = j - i from by omega]; exact e2.symm)
  have hl := nodup_len _ (List.range r.length) hd (fun y hy => by
    obtain ⟨i, _, rfl⟩ := List.mem_map.1 hy
    exact List.mem_range.2 (it_lt h hx i))
  simp at hl
  omega

theorem per_spec {r : List Int} (h : isRow r) {x : Nat} (hx : x < r.length) : 1 ≤ per r x ∧ per r x ≤ r.length ∧ it r (per r x) x = x ∧ ∀ q, 1 ≤ q → q < per r x → it r q x ≠ x := by
  unfold per
  cases hf : (List.range r.length).find? (fun q => it r (q + 1) x == x) with
  | none =>
    obtain ⟨q, hq, e⟩ := it_back h hx
    have := List.find?_eq_none.1 hf q (List.mem_range.2 hq)
    simp [e] at this
  | some p =>
    rw [Option.getD_some]
    obtain ⟨h1, l1, l2, h2, h3⟩ := List.find?_eq_some_iff_append.1 hf
    have hlen : l1.length = p := by
      have hp : (List.range r.length)[l1.length]? = some p := by rw [h2]; simp
      rw [List.getElem?_range] at hp
      · exact Option.some.inj hp
      · have := congrArg List.length h2; simp at this; omega
    have hp : p < r.length := by have := congrArg List.length h2; simp at this; omega
    refine ⟨by omega, by omega, by simpa using h1, fun q hq1 hq2 => ?_⟩
    have hm : (q - 1) ∈ l1 := by
      have h4 : (List.range r.length)[q - 1]? = some (q - 1) := by rw [List.getElem?_range (by omega)]
      rw [h2, List.getElem?_append_left (by omega)] at h4
      exact List.mem_of_getElem? h4
    have := h3 _ hm
    rw [show q - 1 + 1 = q from by omega] at this
    simpa using this

def sliceLen : Value → Nat
  | .slice _ n _ => n
  | _ => 0

theorem owns_len {w : World} {base e n : Nat} {v : Value} {xs : List Value} (h : w.ownsRow base e 1 v n xs) : sliceLen v = n := by
  rcases h.2 with ⟨rfl, h0⟩ | ⟨g, cap, cur, rfl, _⟩
  · rw [h0]; rfl
  · rfl

theorem owns_base {w : World} {base base' e n : Nat} {v : Value} {xs : List Value} (h : w.ownsRow base e 1 v n xs) (hb : base' ≤ base) : w.ownsRow base' e 1 v n xs := by
  obtain ⟨h1, h2⟩ := h
  refine ⟨h1, ?_⟩
  rcases h2 with h2 | ⟨g, cap, cur, hv, hg, r⟩
  · exact Or.inl h2
  · exact Or.inr ⟨g, cap, cur, hv, Nat.le_trans hb hg, r⟩

theorem one_owned (w : World) (x : Int) : (w.alloc (.cells #[.int .i64 x] 3)).ownsRow w.heap.size 3 1 (.slice (some ⟨w.heap.size, 0, none⟩) 1 1) 1 ([x].map (Value.int .i64)) :=
  ⟨by simp, Or.inr ⟨w.heap.size, 1, #[.int .i64 x], rfl, Nat.le_refl _, heap_alloc_new w _, Nat.le_refl _, by decide, by simp, by simp⟩⟩

end Go.Proofs.YtffnfchekbafmaaGreatDoor

/- Contract: Cycles. -/
namespace Go.Proofs.YtffnfchekbafmaaGreatDoor
open Go.RowKit

theorem Tryz.info94 : (Tryz.prog.info? 94).map (fun i => (i.zero, i.size, i.bytes)) = some (some (.slice none 0 0), 1, 24) := by kernel_rfl

/-- The cycles that are found from the first k bells. -/
def cycsTo (r : List Int) : Nat → List (List Int)
  | 0 => []
  | k + 1 => if (k : Int) ∈ (cycsTo r k).flatten then cycsTo r k else cycsTo r k ++ [orb r k (per r k)]

/-- Each of the slices is the call's own and holds its list. -/
def OwnAll (w : World) (base : Nat) : List Value → List (List Int) → Prop
  | [], [] => True
  | u :: us, x :: xs => w.ownsRow base 3 1 u x.length (x.map (Value.int .i64)) ∧ OwnAll w base us xs
  | _, _ => False

theorem OwnAll.mono {w w' : World} {base : Nat} (h : ∀ u n xs, w.ownsRow base 3 1 u n xs → w'.ownsRow base 3 1 u n xs) : ∀ {us : List Value} {xs : List (List Int)}, OwnAll w base us xs → OwnAll w' base us xs
  | [], [], _ => trivial
  | _ :: _, _ :: _, ⟨h1, h2⟩ => ⟨h _ _ _ h1, OwnAll.mono h h2⟩

theorem OwnAll.snoc {w : World} {base : Nat} {u : Value} {x : List Int} (h : w.ownsRow base 3 1 u x.length (x.map (Value.int .i64))) : ∀ {us : List Value} {xs : List (List Int)}, OwnAll w base us xs → OwnAll w base (us ++ [u]) (xs ++ [x])
  | [], [], _ => ⟨h, trivial⟩
  | _ :: _, _ :: _, ⟨h1, h2⟩ => ⟨h1, OwnAll.snoc h h2⟩

theorem OwnAll.length {w : World} {base : Nat} : ∀ {us : List Value} {xs : List (List Int)}, OwnAll w base us xs → us.length = xs.length
  | [], [], _ => rfl
  | _ :: _, _ :: _, ⟨_, h2⟩ => by simp [OwnAll.length h2]

/-- Rows of different element types are different rows: what is owned of ints stays owned while the row of slices is written. -/
theorem owns_kept_ty {w w' : World} {base n m : Nat} {u v : Value} {xs ys : List Value} (h1 : w.ownsRow base 3 1 u n xs) (h2 : w.ownsRow base 94 1 v m ys) (hg : w.grownBy w' v.ownBlock) : w'.ownsRow base 3 1 u n xs := by
  refine h1.kept hg ?_
  rcases h1.2 with ⟨rfl, _⟩ | ⟨g1, c1, cur1, rfl, _, hh1, _⟩
  · exact Or.inl rfl
  · right
    rcases h2.2 with ⟨rfl, _⟩ | ⟨g2, c2, cur2, rfl, _, hh2, _⟩
    · intro e; cases e
    · intro e
      have e' : g1 = g2 := by simpa [Value.ownBlock] using e
      subst e'
      rw [hh1] at hh2
      injection hh2 with hh2
      injection hh2 with _ e2 _
      exact absurd e2 (by decide)

theorem marks_kept {w w' : World} {D : Nat} {row : Option Nat} {xs : List Int} (h : Marks w D xs) (hg : w.grownBy w' row) (hD : D < w.heap.size) (hr : some D ≠ row) : Marks w' D xs := by
  intro j hj
  have hb := hg.block D hD hr
  refine ⟨?_, ?_⟩
  · rw [World.cell?_of_block (w := w) (a := ⟨D, j, none⟩) hb]; exact (h j hj).1
  · rw [World.frozen?_of_block (w := w) (a := ⟨D, j, none⟩) hb]; exact (h j hj).2

theorem marks_below {w w' : World} {D B : Nat} {xs : List Int} (h : Marks w D xs) (hb : Below B w w') (hD : D < B) : Marks w' D xs := by
  intro j hj
  refine ⟨?_, ?_⟩
  · rw [hb.cell (p := ⟨D, j, none⟩) hD]; exact (h j hj).1
  · rw [hb.frozen (p := ⟨D, j, none⟩) hD]; exact (h j hj).2

theorem owns_below {w w' : World} {base B e n : Nat} {v : Value} {xs : List Value} (h : w.ownsRow base e 1 v n xs) (hb : Below B w w') (hB : w.heap.size ≤ B) : w'.ownsRow base e 1 v n xs := by
  obtain ⟨h1, h2⟩ := h
  refine ⟨h1, ?_⟩
  rcases h2 with h2 | ⟨g, cap, cur, hv, hg, hh, r⟩
  · exact Or.inl h2
  · have hlt : g < w.heap.size := (Array.getElem?_eq_some_iff.1 hh).1
    exact Or.inr ⟨g, cap, cur, hv, hg, by rw [hb.block g (by omega)]; exact hh, r⟩

theorem owns_form {w : World} {base e n : Nat} {v : Value} {xs : List Value} (h : w.ownsRow base e 1 v n xs) (hn : 1 ≤ n) : ∃ g cap, v = .slice (some ⟨g, 0, none⟩) n cap ∧ base ≤ g ∧ g < w.heap.size ∧ n ≤ cap ∧ cap ≤ 9223372036854775807 := by
  rcases h.2 with ⟨_, h0⟩ | ⟨g, cap, cur, rfl, hg, hh, hc, hm, _⟩
  · omega
  · exact ⟨g, cap, rfl, hg, (Array.getElem?_eq_some_iff.1 hh).1, hc, by unfold maxLen at hm; omega⟩

theorem orb_at {r : List Int} {x k i : Nat} (h : i < k) : (orb r x k)[i]?.getD 0 = ((it r i x : Nat) : Int) := by simp [orb, h]

theorem orb_take {r : List Int} {x k i : Nat} (h : i < k) : (orb r x k).take (i + 1) = (orb r x k).take i ++ [((it r i x : Nat) : Int)] := by
  rw [take_snoc _ _ (by rw [orb_length]; exact h), orb_at h]

/-- What the outer loop's relation says of the world. -/
structure CycRel (w wr : World) (D : Nat) (a : List Int) (v : Value) (k : Nat) (vs : List Value) (xss : List (List Int)) : Prop where
  row : wr.ownsRow (D + 1) 94 1 v vs.length vs
  all : OwnAll wr (D + 1) vs xss
  found : Hid (xss = cycsTo a k)
  marks : Marks wr D xss.flatten
  size : D < wr.heap.size
  below : Below w.heap.size w wr

/-- .. and the inner one's. -/
structure MarkRel (w wr : World) (D : Nat) (v : Value) (vs : List Value) (xss : List (List Int)) (g p cap i : Nat) (o : List Int) : Prop where
  row : wr.ownsRow (D + 1) 94 1 v vs.length vs
  all : OwnAll wr (D + 1) vs xss
  one : wr.ownsRow (D + 1) 3 1 (.slice (some ⟨g, 0, none⟩) p cap) p (o.map (Value.int .i64))
  marks : Marks wr D (xss.flatten ++ o.take i)
  size : D < wr.heap.size
  below : Below w.heap.size w wr

theorem cycsTo_length (r : List Int) (k : Nat) : (cycsTo r k).length ≤ k := by
  induction k with
  | zero => exact Nat.le_refl _
  | succ k ih =>
    show (if (k : Int) ∈ (cycsTo r k).flatten then cycsTo r k else cycsTo r k ++ [orb r k (per r k)]).length ≤ k + 1
    split
    · omega
    · simp; omega

theorem CycRel.skip {w wr : World} {D k : Nat} {a : List Int} {v : Value} {vs : List Value} {xss : List (List Int)} (h : CycRel w wr D a v k vs xss) (hm : (k : Int) ∈ xss.flatten) : CycRel w wr D a v (k + 1) vs xss :=
  ⟨h.row, h.all, by show xss = if (k : Int) ∈ (cycsTo a k).flatten then cycsTo a k else cycsTo a k ++ [orb a k (per a k)]; rw [← h.found.out, if_pos hm], h.marks, h.size, h.below⟩

theorem CycRel.enter {w wr w1 : World} {D k g cap : Nat} {a : List Int} {v : Value} {vs : List Value} {xss : List (List Int)} (h : CycRel w wr D a v k vs xss) (hB : Below wr.heap.size wr w1)
    (ho : w1.ownsRow wr.heap.size 3 1 (.slice (some ⟨g, 0, none⟩) (per a k) cap) (per a k) ((orb a k (per a k)).map (Value.int .i64))) : MarkRel w w1 D v vs xss g (per a k) cap 0 (orb a k (per a k)) :=
  ⟨owns_below h.row hB (Nat.le_refl _), h.all.mono (fun _ _ _ h' => owns_below h' hB (Nat.le_refl _)), owns_base ho h.size, by rw [List.take_zero, List.append_nil]; exact marks_below h.marks hB h.size, Nat.lt_of_lt_of_le h.size hB.size, h.below.trans (hB.mono h.below.size)⟩

theorem MarkRel.step {w wr : World} {D g p cap i m B : Nat} {v : Value} {vs : List Value} {xss : List (List Int)} {o : List Int} (h : MarkRel w wr D v vs xss g p cap i o) (hm : m < 12) (ho : o.take (i + 1) = o.take i ++ [(m : Int)]) (hB : B = w.heap.size) (hD : B ≤ D) :
    MarkRel w (wr.setCell ⟨D, m, none⟩ (.bool true)) D v vs xss g p cap (i + 1) o :=
  ⟨ownsRow_setCell_below h.row (by exact Nat.lt_succ_self D) _, h.all.mono (fun _ _ _ h' => ownsRow_setCell_below h' (by exact Nat.lt_succ_self D) _), ownsRow_setCell_below h.one (by exact Nat.lt_succ_self D) _,
    by rw [ho, ← List.append_assoc]; exact h.marks.set hm, by simp [World.setCell]; exact h.size, h.below.setCell (by subst hB; exact hD) _⟩

theorem MarkRel.leave {w wr w' : World} {D g cap k : Nat} {a : List Int} {v v' : Value} {vs : List Value} {xss : List (List Int)} {o : Obj} (h : MarkRel w wr D v vs xss g (per a k) cap (per a k) (orb a k (per a k))) (hf : Hid (xss = cycsTo a k)) (hm : ¬ (k : Int) ∈ xss.flatten) (hD : w.heap.size ≤ D)
    (ho : w'.ownsRow (D + 1) 94 1 v' (vs.length + 1) (vs ++ [.slice (some ⟨g, 0, none⟩) (per a k) cap])) (hg : (wr.alloc o).grownBy w' v.ownBlock) : CycRel w w' D a v' (k + 1) (vs ++ [.slice (some ⟨g, 0, none⟩) (per a k) cap]) (xss ++ [orb a k (per a k)]) := by
  have hrow := h.row.alloc o
  have hs : D < (wr.alloc o).heap.size := by have := h.size; simp; omega
  refine ⟨by rw [List.length_append]; exact ho, ?_, ?_, ?_, Nat.lt_of_lt_of_le hs hg.size, ?_⟩
  · refine OwnAll.snoc ?_ (h.all.mono (fun _ _ _ h' => owns_kept_ty (h'.alloc o) hrow hg))
    rw [orb_length]
    exact owns_kept_ty (h.one.alloc o) hrow hg
  · show _ = if (k : Int) ∈ (cycsTo a k).flatten then cycsTo a k else cycsTo a k ++ [orb a k (per a k)]
    rw [← hf.out, if_neg hm]
  · have hmk := h.marks
    rw [List.take_of_length_le (by rw [orb_length]; exact Nat.le_refl _)] at hmk
    rw [List.flatten_append, show [orb a k (per a k)].flatten = orb a k (per a k) from by simp]
    refine marks_kept (marks_kept hmk (World.grownBy_alloc wr o none) h.size (by simp)) hg hs ?_
    intro e
    have := (h.row.lt D e.symm).1
    omega
  · refine (h.below.alloc h.below.size o).grown hg (by have := h.below.size; simp; omega) (fun g' hg' => ?_)
    have := (h.row.lt g' hg').1
    omega

end Go.Proofs.YtffnfchekbafmaaGreatDoor

/- Contract: Order. -/
namespace Go.Proofs.YtffnfchekbafmaaGreatDoor
open Go.RowKit

def ordTo (xss : List (List Int)) : Nat → Nat
  | 0 => 1
  | j + 1 => Nat.lcm (ordTo xss j) (xss.getD j []).length

def oddTo (xss : List (List Int)) : Nat → Bool
  | 0 => false
  | j + 1 => if (xss.getD j []).length % 2 = 0 then !(oddTo xss j) else oddTo xss j

theorem cycsTo_len {a : List Int} (h : isRow a) (k : Nat) (hk : k ≤ a.length) : ∀ x ∈ cycsTo a k, 1 ≤ x.length ∧ x.length ≤ a.length := by
  induction k with
  | zero => intro x hx; cases hx
  | succ k ih =>
    intro x hx
    have hx' : x ∈ if (k : Int) ∈ (cycsTo a k).flatten then cycsTo a k else cycsTo a k ++ [orb a k (per a k)] := hx
    have hp := per_spec h (show k < a.length by omega)
    split at hx'
    · exact ih (by omega) x hx'
    · rcases List.mem_append.1 hx' with h1 | h1
      · exact ih (by omega) x h1
      · rw [List.mem_singleton.1 h1, orb_length]; exact ⟨hp.1, hp.2.1⟩

theorem cycsTo_pos (a : List Int) (k : Nat) : 1 ≤ (cycsTo a (k + 1)).length := by
  induction k with
  | zero => simp [cycsTo]
  | succ k ih =>
    show 1 ≤ (if ((k + 1 : Nat) : Int) ∈ (cycsTo a (k + 1)).flatten then cycsTo a (k + 1) else cycsTo a (k + 1) ++ [orb a (k + 1) (per a (k + 1))]).length
    split
    · exact ih
    · simp

theorem ordTo_bound {xss : List (List Int)} (h : ∀ x ∈ xss, 1 ≤ x.length ∧ x.length ≤ 12) (j : Nat) (hj : j ≤ xss.length) : 1 ≤ ordTo xss j ∧ ordTo xss j ≤ 12 ^ j := by
  induction j with
  | zero => exact ⟨Nat.le_refl _, Nat.le_refl _⟩
  | succ j ih =>
    obtain ⟨h1, h2⟩ := ih (by omega)
    have hx := h (xss.getD j []) (by rw [show xss.getD j [] = xss[j] from by simp [List.getD, List.getElem?_eq_getElem (show j < xss.length by omega)]]; exact List.getElem_mem _)
    have e : ordTo xss (j + 1) = Nat.lcm (ordTo xss j) (xss.getD j []).length := rfl
    rw [e]
    refine ⟨Nat.lcm_pos h1 hx.1, ?_⟩
    refine Nat.le_trans (Nat.le_of_dvd (Nat.mul_pos h1 hx.1) (Nat.lcm_dvd_mul _ _)) ?_
    rw [Nat.pow_succ]
    exact Nat.mul_le_mul h2 hx.2

theorem ownAll_at {w : World} {base : Nat} : ∀ {us : List Value} {xs : List (List Int)} {j : Nat}, OwnAll w base us xs → j < us.length → w.ownsRow base 3 1 (us.getD j undef) (xs.getD j []).length ((xs.getD j []).map (Value.int .i64))
  | _ :: _, _ :: _, 0, ⟨h1, _⟩, _ => h1
  | _ :: us, _ :: xs, j + 1, ⟨_, h2⟩, hj => by
    have := ownAll_at (j := j) h2 (by simpa using hj)
    simpa using this

theorem owns_slice {w : World} {base e n : Nat} {v : Value} {xs : List Value} (h : w.ownsRow base e 1 v n xs) : ∃ p cap, v = .slice p n cap := by
  rcases h.2 with ⟨rfl, h0⟩ | ⟨g, cap, cur, rfl, _⟩
  · exact ⟨none, 0, by rw [h0]⟩
  · exact ⟨_, cap, rfl⟩

theorem owns_val {w : World} {base e g n cap j : Nat} {vs : List Value} (h : w.ownsRow base e 1 (.slice (some ⟨g, 0, none⟩) n cap) n vs) (hj : j < n) : w.cell? ⟨g, j, none⟩ = some (vs.getD j undef) := by
  have hl : vs.length = n := by have := h.1; simpa using this
  have := h.cells (g := g) rfl j (vs.getD j undef) (by simp [List.getD, List.getElem?_eq_getElem (by omega : j < vs.length)])
  rw [Addr.add_lit, Nat.zero_add] at this
  exact this

theorem cyc_cell {w : World} {base g cap j : Nat} {vs : List Value} {xss : List (List Int)} (h : w.ownsRow base 94 1 (.slice (some ⟨g, 0, none⟩) vs.length cap) vs.length vs) (ha : OwnAll w base vs xss) (hj : j < vs.length) :
    ∃ p c, w.cell? ⟨g, j, none⟩ = some (.slice p (xss.getD j []).length c) := by
  obtain ⟨p, c, e⟩ := owns_slice (ownAll_at ha hj)
  exact ⟨p, c, by rw [owns_val h hj, e]⟩

theorem ret_ord {xss : List (List Int)} {i j : Nat} (h : i = j) : Ending.returned (.tuple #[.int .i64 (ordTo xss i), .bool (oddTo xss i), .int .i64 0]) = Ending.returned (.tuple #[.int .i64 (ordTo xss j), .bool (oddTo xss j), .int .i64 0]) := by rw [h]

end Go.Proofs.YtffnfchekbafmaaGreatDoor

/- Plain: sums over places, the number of pairs that are the wrong way about, and that its parity is multiplied by composition. -/
namespace Go.Proofs.YtffnfchekbafmaaGreatDoor

/-- The sum of f over 0 .. n - 1. -/
def S : Nat → (Nat → Nat) → Nat
  | 0, _ => 0
  | n + 1, f => S n f + f n

theorem S_congr {n : Nat} {f g : Nat → Nat} (h : ∀ i, i < n → f i = g i) : S n f = S n g := by
  induction n with
  | zero => rfl
  | succ n ih => show S n f + f n = S n g + g n; rw [ih (fun i hi => h i (by omega)), h n (by omega)]

theorem S_add (n : Nat) (f g : Nat → Nat) : S n (fun i => f i + g i) = S n f + S n g := by
  induction n with
  | zero => rfl
  | succ n ih => show S n (fun i => f i + g i) + (f n + g n) = (S n f + f n) + (S n g + g n); rw [ih]; omega

theorem S_mul (n c : Nat) (f : Nat → Nat) : S n (fun i => c * f i) = c * S n f := by
  induction n with
  | zero => rfl
  | succ n ih => show S n (fun i => c * f i) + c * f n = c * (S n f + f n); rw [ih, Nat.mul_add]

theorem S_zero (n : Nat) : S n (fun _ => 0) = 0 := by
  induction n with
  | zero => rfl
  | succ n ih => show S n (fun _ => 0) + 0 = 0; rw [ih]

/-- How many lie in an interval. -/
theorem S_between (n a b : Nat) (hab : a ≤ b) (hb : b ≤ n) : S n (fun i => if a ≤ i ∧ i < b then 1 else 0) = b - a := by
  induction n with
  | zero => show 0 = b - a; omega
  | succ n ih =>
    show S n (fun i => if a ≤ i ∧ i < b then 1 else 0) + (if a ≤ n ∧ n < b then 1 else 0) = b - a
    by_cases h : b ≤ n
    · rw [ih h, if_neg (by omega)]; rfl
    · have hbn : b = n + 1 := by omega
      subst hbn
      by_cases h2 : a ≤ n
      · have : S n (fun i => if a ≤ i ∧ i < n + 1 then 1 else 0) = S n (fun i => if a ≤ i ∧ i < n then 1 else 0) := S_congr (fun i hi => by
          by_cases h3 : a ≤ i
          · rw [if_pos ⟨h3, by omega⟩, if_pos ⟨h3, hi⟩]
          · rw [if_neg (fun h => h3 h.1), if_neg (fun h => h3 h.1)])
        rw [if_pos ⟨h2, by omega⟩]
        have key : ∀ m a, a ≤ m → S m (fun i => if a ≤ i ∧ i < m + 1 then 1 else 0) = m - a := by
          intro m a hm
          clear ih this
          induction m with
          | zero => show 0 = 0 - a; omega
          | succ m ihm =>
            show S m (fun i => if a ≤ i ∧ i < m + 1 + 1 then 1 else 0) + (if a ≤ m ∧ m < m + 1 + 1 then 1 else 0) = m + 1 - a
            have e : S m (fun i => if a ≤ i ∧ i < m + 1 + 1 then 1 else 0) = S m (fun i => if a ≤ i ∧ i < m + 1 then 1 else 0) := S_congr (fun i hi => by
              by_cases h3 : a ≤ i
              · rw [if_pos ⟨h3, by omega⟩, if_pos ⟨h3, by omega⟩]
              · rw [if_neg (fun h => h3 h.1), if_neg (fun h => h3 h.1)])
            rw [e]
            by_cases h4 : a ≤ m
            · rw [ihm h4, if_pos ⟨h4, by omega⟩]; omega
            · have z : S m (fun i => if a ≤ i ∧ i < m + 1 then 1 else 0) = S m (fun _ => 0) := S_congr (fun i hi => by rw [if_neg (by omega)])
              rw [z, S_zero, if_neg (by omega)]; omega
        rw [key n a h2]; omega
      · have z : S n (fun i => if a ≤ i ∧ i < n + 1 then 1 else 0) = S n (fun _ => 0) := S_congr (fun i hi => by rw [if_neg (by omega)])
        rw [z, S_zero, if_neg (by omega)]; omega

theorem S_swap2 (n : Nat) (F : Nat → Nat → Nat) (hs : ∀ i j, i < n → j < n → F i j = F j i) (h0 : ∀ i, i < n → F i i = 0) : S n (fun i => S n (fun j => F i j)) = 2 * S n (fun i => S i (fun j => F i j)) := by
  induction n with
  | zero => rfl
  | succ n ih =>
    show S n (fun i => S n (fun j => F i j) + F i n) + (S n (fun j => F n j) + F n n) = 2 * (S n (fun i => S i (fun j => F i j)) + S n (fun j => F n j))
    rw [S_add, ih (fun i j hi hj => hs i j (by omega) (by omega)) (fun i hi => h0 i (by omega)), h0 n (by omega), S_congr (fun i hi => hs i n (by omega) (by omega) : ∀ i, i < n → F i n = F n i)]
    generalize S n (fun i => S i (fun j => F i j)) = A
    show 2 * A + S n (F n) + (S n (F n) + 0) = 2 * (A + S n (F n))
    omega

/-- A sum over a list. -/
def Ls (f : Nat → Nat) : List Nat → Nat
  | [] => 0
  | x :: xs => f x + Ls f xs

theorem Ls_perm {f : Nat → Nat} {l m : List Nat} (h : l.Perm m) : Ls f l = Ls f m := by
  induction h with
  | nil => rfl
  | cons x _ ih => show f x + _ = f x + _; rw [ih]
  | swap x y l => show f y + (f x + Ls f l) = f x + (f y + Ls f l); omega
  | trans _ _ h1 h2 => rw [h1, h2]

theorem Ls_append (f : Nat → Nat) (l m : List Nat) : Ls f (l ++ m) = Ls f l + Ls f m := by
  induction l with
  | nil => show _ = 0 + _; rw [Nat.zero_add]; rfl
  | cons x l ih => show f x + Ls f (l ++ m) = f x + Ls f l + Ls f m; rw [ih]; omega

theorem S_list (f q : Nat → Nat) (n : Nat) : S n (fun i => f (q i)) = Ls f ((List.range n).map q) := by
  induction n with
  | zero => rfl
  | succ n ih =>
    show S n (fun i => f (q i)) + f (q n) = _
    rw [ih, List.range_succ, List.map_append, Ls_append]
    rfl

/-- q is a permutation of 0 .. n - 1. -/
def PermOn (n : Nat) (q : Nat → Nat) : Prop := (∀ i, i < n → q i < n) ∧ ∀ i j, i < n → j < n → q i = q j → i = j

theorem perm_list {n : Nat} {q : Nat → Nat} (h : PermOn n q) : ((List.range n).map q).Perm (List.range n) := by
  have hd : ((List.range n).map q).Nodup := by
    rw [List.nodup_iff_pairwise_ne, List.pairwise_map]
    refine List.Pairwise.imp_of_mem ?_ (List.pairwise_lt_range (n := n))
    intro i j hi hj hij e
    rw [List.mem_range] at hi hj
    have := h.2 i j hi hj e
    omega
  have hsub : ∀ (l m : List Nat), l.Nodup → (∀ x ∈ l, x ∈ m) → l.length = m.length → l.Perm m := by
    intro l
    induction l with
    | nil => intro m _ _ hl; rw [List.length_eq_zero_iff.1 hl.symm]
    | cons a l ih =>
      intro m hn hs hl
      have ha : a ∈ m := hs a List.mem_cons_self
      have hn' := List.nodup_cons.1 hn
      have h1 := ih (m.erase a) hn'.2 (fun x hx => (List.mem_erase_of_ne (fun e => hn'.1 (by rw [← e]; exact hx))).2 (hs x (List.mem_cons_of_mem _ hx))) (by rw [List.length_erase_of_mem ha]; simp at hl; omega)
      exact (h1.cons a).trans (List.perm_cons_erase ha).symm
  refine hsub _ _ hd (fun x hx => ?_) (by simp)
  obtain ⟨i, hi, rfl⟩ := List.mem_map.1 hx
  exact List.mem_range.2 (h.1 i (List.mem_range.1 hi))

theorem S_perm {n : Nat} {q : Nat → Nat} (h : PermOn n q) (f : Nat → Nat) : S n (fun i => f (q i)) = S n f := by
  rw [S_list f q n, Ls_perm (perm_list h)]
  have := S_list f (fun x => x) n
  simpa using this.symm

/-- 1, if the two are not the same. -/
def ne (x y : Bool) : Nat := if x = y then 0 else 1

theorem ne_tri (x y z : Bool) : ne x z + 2 * (ne x y * ne y z) = ne x y + ne y z := by cases x <;> cases y <;> cases z <;> decide

/-- Are the places i and j, in p, about as they are? -/
def dis (p : Nat → Nat) (i j : Nat) : Nat := ne (decide (i < j)) (decide (p i < p j))

theorem dis_sym {p : Nat → Nat} {i j : Nat} (h : p i = p j → i = j) : dis p i j = dis p j i := by
  unfold dis
  by_cases e : i = j
  · subst e; rfl
  · have e2 : p i ≠ p j := fun h' => e (h h')
    have h1 : decide (j < i) = !decide (i < j) := by by_cases h3 : i < j <;> simp [h3] <;> omega
    have h2 : decide (p j < p i) = !decide (p i < p j) := by by_cases h3 : p i < p j <;> simp [h3] <;> omega
    rw [h1, h2]
    cases decide (i < j) <;> cases decide (p i < p j) <;> decide

theorem dis_self (p : Nat → Nat) (i : Nat) : dis p i i = 0 := by unfold dis; simp [ne]

/-- The number of pairs that are the wrong way about. -/
def inv (n : Nat) (p : Nat → Nat) : Nat := S n (fun i => S i (fun j => dis p i j))

theorem inv_two {n : Nat} {p : Nat → Nat} (h : ∀ i j, i < n → j < n → p i = p j → i = j) : S n (fun i => S n (fun j => dis p i j)) = 2 * inv n p :=
  S_swap2 n _ (fun i j hi hj => dis_sym (h i j hi hj)) (fun i _ => dis_self p i)

theorem inv_congr {n : Nat} {p q : Nat → Nat} (h : ∀ i, i < n → p i = q i) : inv n p = inv n q :=
  S_congr (fun i hi => S_congr (fun j hj => by unfold dis; rw [h i hi, h j (by omega)]))

theorem inv_mul {n : Nat} {p q : Nat → Nat} (hq : PermOn n q) (hp : ∀ i j, i < n → j < n → p i = p j → i = j) : inv n (fun i => p (q i)) % 2 = (inv n p + inv n q) % 2 := by
  have hpq : ∀ i j, i < n → j < n → p (q i) = p (q j) → i = j := fun i j hi hj e => hq.2 i j hi hj (hp _ _ (hq.1 i hi) (hq.1 j hj) e)
  have hC := inv_two (p := fun i => p (q i)) hpq
  have hA := inv_two (p := q) hq.2
  have hB : S n (fun i => S n (fun j => dis p (q i) (q j))) = 2 * inv n p := by
    rw [← inv_two hp]
    rw [← S_perm hq (fun a => S n (fun b => dis p a b))]
    exact S_congr (fun i _ => S_perm hq (fun b => dis p (q i) b))
  have hM := S_swap2 n (fun i j => dis q i j * dis p (q i) (q j)) (fun i j hi hj => by rw [dis_sym (hq.2 i j hi hj), dis_sym (hp _ _ (hq.1 i hi) (hq.1 j hj))]) (fun i _ => by rw [dis_self, Nat.zero_mul])
  have key : S n (fun i => S n (fun j => dis (fun i => p (q i)) i j)) + 2 * S n (fun i => S n (fun j => dis q i j * dis p (q i) (q j))) = S n (fun i => S n (fun j => dis q i j)) + S n (fun i => S n (fun j => dis p (q i) (q j))) := by
    rw [← S_mul, ← S_add, ← S_add]
    refine S_congr (fun i _ => ?_)
    rw [← S_mul, ← S_add, ← S_add]
    exact S_congr (fun j _ => ne_tri _ _ _)
  rw [hC, hM, hA, hB] at key
  omega

/-- Two places exchanged. -/
def swp (a b i : Nat) : Nat := if i = a then b else if i = b then a else i

theorem swp_perm {n a b : Nat} (ha : a < n) (hb : b < n) : PermOn n (swp a b) := by
  constructor
  · intro i hi; unfold swp; split <;> (try split) <;> omega
  · intro i j _ _ e
    unfold swp at e
    split at e <;> split at e <;> (try split at e) <;> (try split at e) <;> omega

theorem swp_comm (a b i : Nat) : swp a b i = swp b a i := by unfold swp; split <;> split <;> omega

theorem inv_swp_lt {n a b : Nat} (hab : a < b) (hb : b < n) : inv n (swp a b) % 2 = 1 := by
  have hrow : ∀ i, i < n → S i (fun j => dis (swp a b) i j) = (if a + 1 ≤ i ∧ i < b then 1 else 0) + (b - a) * (if b ≤ i ∧ i < b + 1 then 1 else 0) := by
    intro i hi
    by_cases h1 : i = b
    · subst h1
      rw [if_neg (by omega), if_pos (by omega), ← S_between i a i (by omega) (Nat.le_refl _)]
      rw [Nat.zero_add, Nat.mul_one]
      refine S_congr (fun j hj => ?_)
      unfold dis swp
      rw [if_neg (by omega : ¬ i = a), if_pos rfl, decide_eq_false (by omega : ¬ i < j)]
      by_cases h2 : a ≤ j
      · by_cases h3 : j = a
        · rw [if_pos h3, decide_eq_true (by omega), if_pos ⟨h2, hj⟩]; rfl
        · rw [if_neg h3, if_neg (by omega), decide_eq_true (by omega), if_pos ⟨h2, hj⟩]; rfl
      · rw [if_neg (by omega : ¬ j = a), if_neg (by omega : ¬ j = i), decide_eq_false (by omega), if_neg (by omega)]; rfl
    · rw [if_neg (by omega : ¬ (b ≤ i ∧ i < b + 1)), Nat.mul_zero, Nat.add_zero]
      by_cases h2 : a + 1 ≤ i ∧ i < b
      · rw [if_pos h2, show (1 : Nat) = a + 1 - a from by omega, ← S_between i a (a + 1) (by omega) (by omega)]
        refine S_congr (fun j hj => ?_)
        unfold dis swp
        rw [if_neg (by omega : ¬ i = a), if_neg h1, decide_eq_false (by omega : ¬ i < j)]
        by_cases h3 : j = a
        · rw [if_pos h3, decide_eq_true (by omega), if_pos (by omega)]; rfl
        · rw [if_neg h3, if_neg (by omega), decide_eq_false (by omega), if_neg (by omega)]; rfl
      · rw [if_neg h2, ← S_zero i]
        refine S_congr (fun j hj => ?_)
        unfold dis swp
        rw [decide_eq_false (by omega : ¬ i < j)]
        by_cases h3 : i = a
        · rw [if_pos h3, if_neg (by omega), if_neg (by omega), decide_eq_false (by omega)]; rfl
        · rw [if_neg h3, if_neg h1]
          by_cases h4 : j = a
          · rw [if_pos h4, decide_eq_false (by omega)]; rfl
          · rw [if_neg h4]
            by_cases h5 : j = b
            · rw [if_pos h5, decide_eq_false (by omega)]; rfl
            · rw [if_neg h5, decide_eq_false (by omega)]; rfl
  have h : inv n (swp a b) = (b - (a + 1)) + (b - a) * 1 := by
    unfold inv
    rw [S_congr hrow, S_add, S_between n (a + 1) b (by omega) (by omega), S_mul, S_between n b (b + 1) (by omega) (by omega), show b + 1 - b = 1 from by omega]
  rw [h]; omega

theorem inv_swp {n a b : Nat} (hne : a ≠ b) (ha : a < n) (hb : b < n) : inv n (swp a b) % 2 = 1 := by
  rcases Nat.lt_or_gt_of_ne hne with h | h
  · exact inv_swp_lt h hb
  · rw [inv_congr (fun i _ => swp_comm a b i)]; exact inv_swp_lt h ha

theorem inv_id (n : Nat) : inv n (fun i => i) = 0 := by
  unfold inv
  rw [← S_zero n]
  refine S_congr (fun i hi => ?_)
  rw [← S_zero i]
  exact S_congr (fun j _ => by unfold dis; simp [ne])

end Go.Proofs.YtffnfchekbafmaaGreatDoor
