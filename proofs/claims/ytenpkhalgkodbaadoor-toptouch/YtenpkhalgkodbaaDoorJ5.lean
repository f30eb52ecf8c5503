/- Joined: ChMay, PSa, Mat, IAl, SbE, Meth, MdB, TtE, Sgn. -/
import Derived.Test.YtenpkhalgkodbaaDoorJ4
import Derived.Deep.Matrix
import Derived.OpenShut
import Derived.Test.YtenpkhalgkodbaaDoorJ3
import Derived.BigQuiet
import Derived.Test.YtenpkhalgkodbaaDoorJ2
import Derived.Test.YtenpkhalgkodbaaDoorJ0
/- Contract: the answer's ChangeMay. -/
namespace Go.Proofs.YtenpkhalgkodbaaDoor
open Go.RowKit

set_option maxRecDepth 20000 in
set_option maxHeartbeats 2000000 in
theorem changeMay_any (n : Int) (v : Value) (ps : List Int) (w : World) (h1 : 1 ≤ n) (h2 : n ≤ 12) (i1 : Ints w v ps) :
    Calls Tryd.prog 28 #[.int .i64 n, v] w fun e w' => e = .returned (.int .i64 (pck n ps)) ∧ w = w' := by
  rcases i1 with ⟨rfl, p, c, rfl⟩ | ⟨b, off, cap, rfl, h0, hc, hm, hb, hcell⟩
  · go_enter Tryd.func28, Tryd.ntmps28
    go_wp2
    go_loop [5, 6] (fun l i => l = .int .i64 0 ∧ i = .int .i64 0) (fun _ _ => 0)
    case atStart => exact ⟨rfl, rfl⟩
    case round =>
      obtain ⟨rfl, rfl⟩ := hrel
      by_cases he : n % 2 = 0
      · have hp : Hid (pck n [] = 0) := by show _ = _; unfold pck okc; rw [if_pos (by simp; omega)]
        have ht : (n % 2 == 1) = false := by rw [beq_eq_false_iff_ne]; omega
        clear he
        go_wp2
        go_ret
        exact ⟨ret_int hp.out.symm, rfl⟩
      · have hp : Hid (pck n [] = 6) := by show _ = _; unfold pck okc; rw [if_neg (by simp; omega)]
        have ht : n % 2 = 1 := by omega
        clear he
        go_wp2
        go_ret
        exact ⟨ret_int hp.out.symm, rfl⟩
  · go_enter Tryd.func28, Tryd.ntmps28
    go_wp2
    go_loop [5, 6] (fun l i => ∃ (k : Nat) (L : Int), k ≤ ps.length ∧ i = .int .i64 k ∧ l = .int .i64 L ∧ 0 ≤ L ∧ L ≤ n ∧ Hid (okc n 0 ps = okc n L (ps.drop k))) (fun _ i => ps.length - (intOf i).toNat)
    case atStart => exact ⟨0, 0, by omega, rfl, rfl, by omega, by omega, rfl⟩
    case round =>
      obtain ⟨k, L, hk, rfl, rfl, hL0, hLn, hok⟩ := hrel
      by_cases hlt : k < ps.length
      · obtain ⟨y, hy, hcx⟩ := cellAt hcell hlt
        have HD : Hid (okc n 0 ps = (decide (L < y ∧ y ≤ n ∧ (y - L - 1) % 2 = 0) && okc n y (ps.drop (k + 1)))) := by
          show _ = _; rw [hok.out, drop_cons ps hlt, hy.out]; rfl
        clear hcell hok
        by_cases c1 : y ≤ L
        · have hp : Hid (pck n ps = 6) := by show _ = _; unfold pck; rw [HD.out, decide_eq_false (by omega)]; rfl
          go_wp2
          go_ret
          exact ⟨ret_int hp.out.symm, rfl⟩
        · by_cases c2 : n < y
          · have hp : Hid (pck n ps = 6) := by show _ = _; unfold pck; rw [HD.out, decide_eq_false (by omega)]; rfl
            have c3 : L < y := by omega
            clear c1
            go_wp2
            go_ret
            exact ⟨ret_int hp.out.symm, rfl⟩
          · have c3 : L < y := by omega
            have c4 : y ≤ n := by omega
            clear c1 c2
            by_cases c5 : (y - L) % 2 = 1
            · have HN : Hid (okc n 0 ps = okc n y (ps.drop (k + 1))) := by show _ = _; rw [HD.out, decide_eq_true (by omega)]; rfl
              have D5 : ((y - L) % 2 == 0) = false := by rw [beq_eq_false_iff_ne]; omega
              clear c5
              go_wp2
              go_round
              case rel => exact ⟨k + 1, y, by omega, by go_num, rfl, by omega, by omega, HN⟩
              case measure => simp [intOf]; omega
            · have hp : Hid (pck n ps = 6) := by show _ = _; unfold pck; rw [HD.out, decide_eq_false (by omega)]; rfl
              have D5 : (y - L) % 2 = 0 := by omega
              clear c5
              go_wp2
              go_ret
              exact ⟨ret_int hp.out.symm, rfl⟩
      · have HE : Hid (okc n 0 ps = decide ((n - L) % 2 = 0)) := by show _ = _; rw [hok.out, List.drop_of_length_le (by omega)]; rfl
        clear hcell hok
        by_cases c5 : (n - L) % 2 = 0
        · have hp : Hid (pck n ps = 0) := by show _ = _; unfold pck; rw [HE.out, decide_eq_true c5]; rfl
          have D5 : ((n - L) % 2 == 1) = false := by rw [beq_eq_false_iff_ne]; omega
          clear c5
          go_wp2
          go_ret
          exact ⟨ret_int hp.out.symm, rfl⟩
        · have hp : Hid (pck n ps = 6) := by show _ = _; unfold pck; rw [HE.out, decide_eq_false c5]; rfl
          have D5 : (n - L) % 2 = 1 := by omega
          clear c5
          go_wp2
          go_ret
          exact ⟨ret_int hp.out.symm, rfl⟩

end Go.Proofs.YtenpkhalgkodbaaDoor

/- Contracts: the answer's isIn and ChangeRow; Check, ChangeMay at every number; Row where it refuses. -/
namespace Go.Proofs.YtenpkhalgkodbaaDoor
open Go.RowKit

/-- What Check says at every number of bells. -/
def pc (n : Int) (ps : List Int) : Int := if 1 ≤ n ∧ n ≤ 12 then pck n ps else 1

theorem pc_range (n : Int) (ps : List Int) : pc n ps = 0 ∨ pc n ps = 1 ∨ pc n ps = 6 := by
  unfold pc
  split
  · rcases pck_range n ps with h | h <;> simp [h]
  · simp

theorem pcheck_all (n : Int) (v : Value) (ps : List Int) (w : World) (i1 : Ints w v ps) :
    Calls Tryd.prog 48 #[.int .i64 n, v] w fun e w' => e = .returned (.int .i64 (pc n ps)) ∧ w = w' := by
  by_cases h : 1 ≤ n ∧ n ≤ 12
  · unfold pc
    rw [if_pos h]
    exact pcheck_any n v ps w h.1 h.2 i1
  · unfold pc
    rw [if_neg h]
    exact pcheck_count n v w (by omega)

set_option maxRecDepth 20000 in
set_option maxHeartbeats 1000000 in
theorem changeMay_count (n : Int) (v : Value) (w : World) (h : n < 1 ∨ 12 < n) :
    Calls Tryd.prog 28 #[.int .i64 n, v] w fun e w' => e = .returned (.int .i64 1) ∧ w = w' := by
  rcases h with h | h
  · go_enter Tryd.func28, Tryd.ntmps28
    go_wp2
    go_ret
    exact ⟨rfl, rfl⟩
  · have h1 : ¬ n < 1 := by omega
    go_enter Tryd.func28, Tryd.ntmps28
    go_wp2
    go_ret
    exact ⟨rfl, rfl⟩

theorem changeMay_all (n : Int) (v : Value) (ps : List Int) (w : World) (i1 : Ints w v ps) :
    Calls Tryd.prog 28 #[.int .i64 n, v] w fun e w' => e = .returned (.int .i64 (pc n ps)) ∧ w = w' := by
  by_cases h : 1 ≤ n ∧ n ≤ 12
  · unfold pc
    rw [if_pos h]
    exact changeMay_any n v ps w h.1 h.2 i1
  · unfold pc
    rw [if_neg h]
    exact changeMay_count n v w (by omega)

set_option maxRecDepth 20000 in
set_option maxHeartbeats 1000000 in
theorem prow_no (n : Int) (v : Value) (ps : List Int) (w : World) (i1 : Ints w v ps) (h : pc n ps ≠ 0) :
    Calls Tryd.prog 55 #[.int .i64 n, v] w fun e w' => e = .returned (.tuple #[.slice none 0 0, .int .i64 (pc n ps)]) ∧ w = w' := by
  have HC := hide (pcheck_all n v ps w i1)
  have hr := pc_range n ps
  clear i1
  generalize pc n ps = z at *
  have hz : z = 1 ∨ z = 6 := by omega
  clear hr h
  rcases hz with rfl | rfl
  · go_enter Tryd.func55, Tryd.ntmps55
    go_wp2_with fail
    refine HC.out.mono ?_
    rintro e w' ⟨rfl, rfl⟩
    go_wp2
    go_ret2
    exact ⟨rfl, rfl⟩
  · go_enter Tryd.func55, Tryd.ntmps55
    go_wp2_with fail
    refine HC.out.mono ?_
    rintro e w' ⟨rfl, rfl⟩
    go_wp2
    go_ret2
    exact ⟨rfl, rfl⟩

set_option maxRecDepth 20000 in
set_option maxHeartbeats 1000000 in
theorem isIn_any (v : Value) (xs : List Int) (x : Int) (w : World) (h : Ints w v xs) :
    Calls Tryd.prog 79 #[v, .int .i64 x] w fun e w' => e = .returned (.bool (decide (x ∈ xs))) ∧ w = w' := by
  rcases h with ⟨rfl, p, c, rfl⟩ | ⟨b, off, cap, rfl, h0, hc, hm, hb, hcell⟩
  · go_enter Tryd.func79, Tryd.ntmps79
    go_wp2
    go_loop [5] (fun i => i = .int .i64 0) (fun _ => 0)
    case atStart => rfl
    case round =>
      subst hrel
      go_wp2
      go_ret
      exact ⟨by simp, rfl⟩
  · go_enter Tryd.func79, Tryd.ntmps79
    go_wp2
    go_loop [5] (fun i => ∃ k : Nat, k ≤ xs.length ∧ i = .int .i64 k ∧ Hid (x ∈ xs ↔ x ∈ xs.drop k)) (fun i => xs.length - (intOf i).toNat)
    case atStart => exact ⟨0, by omega, rfl, Iff.rfl⟩
    case round =>
      obtain ⟨k, hk, rfl, hi⟩ := hrel
      by_cases hlt : k < xs.length
      · obtain ⟨y, hy, hcx⟩ := cellAt hcell hlt
        have HD : Hid (x ∈ xs ↔ x = y ∨ x ∈ xs.drop (k + 1)) := by show _ ↔ _; rw [hi.out, drop_cons xs hlt, hy.out, List.mem_cons]
        clear hcell hi
        by_cases hxy : y = x
        · have hp : Hid (decide (x ∈ xs) = true) := decide_eq_true (HD.out.2 (Or.inl hxy.symm))
          subst hxy
          clear HD
          go_wp2
          go_ret
          exact ⟨ret_bool hp.out.symm, rfl⟩
        · have hp : Hid (x ∈ xs ↔ x ∈ xs.drop (k + 1)) := HD.out.trans ⟨fun h => h.resolve_left (fun e => hxy e.symm), Or.inr⟩
          have hne : (y == x) = false := by simpa using hxy
          clear hxy HD
          go_wp2
          go_round
          case rel => exact ⟨k + 1, by omega, by go_num, hp⟩
          case measure => simp [intOf]; omega
      · have hp : Hid (decide (x ∈ xs) = false) := by show _ = _; rw [decide_eq_false_iff_not, hi.out, List.drop_of_length_le (by omega)]; simp
        clear hcell hi
        go_wp2
        go_ret
        exact ⟨ret_bool hp.out.symm, rfl⟩

theorem cell_two_new (w : World) (x y : Value) (e : TypeId) : ∀ j u, [x, y][j]? = some u → (w.alloc (.cells #[x, y] e)).cell? ((⟨w.heap.size, 0, none⟩ : Addr).add j) = some u := by
  intro j u hj
  have h9 := heap_alloc_new w (.cells #[x, y] e)
  rw [Addr.add_lit]
  match j, hj with
  | 0, hj => simp at hj; subst hj; unfold World.cell?; simp only [h9]; rfl
  | 1, hj => simp at hj; subst hj; unfold World.cell?; simp only [h9]; rfl

def lenOf : Value → Nat
  | .slice _ l _ => l
  | _ => 0

set_option maxRecDepth 20000 in
set_option maxHeartbeats 4000000 in
theorem changeRow_ok (t : List Bool) (n : Nat) (v : Value) (w : World) (hn : tsz t = n) (h1 : 1 ≤ n) (h2 : n ≤ 12) (i1 : Ints w v (tpl t)) :
    Calls Tryd.prog 58 #[.int .i64 n, v] w fun e w' => ∃ v', e = .returned v' ∧ w'.ownsRow w.heap.size 3 1 v' n ((trow t).map (Value.int .i64)) ∧ Below w.heap.size w w' := by
  obtain ⟨i0, hi, hz0, hz1, hz2⟩ := info_parts Tryd.info3
  have HI := hide i1
  have HT := hide hn
  clear i1 hn
  go_enter Tryd.func58, Tryd.ntmps58
  go_wp2
  go_loopw [5] (fun o wr => ∃ (u s : List Bool), Hid (t = u ++ s) ∧ tsz s ≤ n ∧ wr.ownsRow w.heap.size 3 1 o (tsz s) ((trow s).map (Value.int .i64)) ∧ Below w.heap.size w wr) (fun o _ => n - lenOf o)
  case atStart => exact ⟨t, [], by show _ = _; simp, Nat.zero_le _, World.ownsRow_nil _ _ _ _, Below.refl _ _⟩
  case round =>
    obtain ⟨u, s, hus, hsn, hown, hbw⟩ := hrel
    obtain ⟨op, oc, rfl⟩ := owns_slice hown
    have hbs := hbw.size
    by_cases hlt : tsz s < n
    · obtain ⟨u', b, hu, hus'⟩ := til_next (u := u) (s := s) (by rw [← hus.out, HT.out]; exact hlt)
      have HU : Hid (t = u' ++ b :: s) := by show _ = _; rw [hus.out, hus']
      have HCo := hide (isIn_any v (tpl t) ((tsz s : Nat) + 1) wr (HI.out.below hbw))
      have hm := mem_next u' s b
      rw [← HU.out] at hm
      have hsz : tsz (b :: s) ≤ n := by have := tsz_mono (b :: s) u'; rw [← HU.out, HT.out] at this; exact this
      clear hu hus' hus
      cases b with
      | true =>
        rw [decide_eq_true (hm.2 rfl)] at HCo
        clear hm
        simp only [tsz] at hsz
        have HTR : Hid ((trow (true :: s)).map (Value.int .i64) = (trow s).map (Value.int .i64) ++ [.int .i64 ((tsz s : Nat) : Int)]) := by show _ = _; simp [trow]
        have HTS : Hid (tsz (true :: s) = tsz s + 1) := by show _ = _; simp [tsz]
        generalize hS : tsz s = S' at *
        go_wp2_with fail
        refine HCo.out.mono ?_
        rintro e w' ⟨rfl, rfl⟩
        go_wp2_with (at_builtin; refine wpList_append_own _ rfl _ _ 26 rfl w.heap.size 3 i0 (.int .i64 0) 1 8 Tryd.underlying26 hi hz0 hz1 hz2 rfl (by decide) _ _ _ rfl (hown.alloc _) ⟨wr.heap.size, 0, none⟩ 1 1 [.int .i64 (S' : Int)] rfl rfl ?c1 ?c2 ?c3 ?c4 ?c5 ?_)
        case c1 => exact cell_one_new _ _ _
        case c2 => intro u hu; simp at hu; subst hu; rfl
        case c3 => unfold maxLen; omega
        case c4 => omega
        case c5 => simp; omega
        · intro v' w1 hown' hgrow _
          obtain ⟨vp, vc, rfl⟩ := owns_slice hown'
          have HO : Hid (w1.ownsRow w.heap.size 3 1 (.slice vp (S' + 1) vc) (tsz (true :: s)) ((trow (true :: s)).map (Value.int .i64))) := by show World.ownsRow _ _ _ _ _ _ _; rw [HTS.out, HTR.out]; exact hown'
          have HB1 : Hid (Below w.heap.size w w1) := (hbw.alloc hbw.size _).grown hgrow (by simp; omega) (fun g hg => (hown.lt g hg).1)
          clear hown' hgrow hown
          go_wp2
          go_roundw
          case rel => exact ⟨u', true :: s, HU, by rw [HTS.out]; omega, HO.out, HB1.out⟩
          case measure => simp [lenOf]; omega
      | false =>
        rw [decide_eq_false (by rw [hm]; decide)] at HCo
        clear hm
        simp only [tsz] at hsz
        have HTR : Hid ((trow (false :: s)).map (Value.int .i64) = (trow s).map (Value.int .i64) ++ [.int .i64 (((tsz s : Nat) : Int) + 1), .int .i64 ((tsz s : Nat) : Int)]) := by show _ = _; simp [trow]
        have HTS : Hid (tsz (false :: s) = tsz s + 2) := by show _ = _; simp [tsz]
        generalize hS : tsz s = S' at *
        go_wp2_with fail
        refine HCo.out.mono ?_
        rintro e w' ⟨rfl, rfl⟩
        go_wp2_with (at_builtin; refine wpList_append_own _ rfl _ _ 26 rfl w.heap.size 3 i0 (.int .i64 0) 1 8 Tryd.underlying26 hi hz0 hz1 hz2 rfl (by decide) _ _ _ rfl (hown.alloc _) ⟨wr.heap.size, 0, none⟩ 2 2 [.int .i64 ((S' : Int) + 1), .int .i64 (S' : Int)] rfl rfl ?c1 ?c2 ?c3 ?c4 ?c5 ?_)
        case c1 => exact cell_two_new _ _ _ _
        case c2 => intro u hu; simp at hu; rcases hu with rfl | rfl <;> rfl
        case c3 => unfold maxLen; omega
        case c4 => omega
        case c5 => simp; omega
        · intro v' w1 hown' hgrow _
          obtain ⟨vp, vc, rfl⟩ := owns_slice hown'
          have HO : Hid (w1.ownsRow w.heap.size 3 1 (.slice vp (S' + 2) vc) (tsz (false :: s)) ((trow (false :: s)).map (Value.int .i64))) := by show World.ownsRow _ _ _ _ _ _ _; rw [HTS.out, HTR.out]; exact hown'
          have HB1 : Hid (Below w.heap.size w w1) := (hbw.alloc hbw.size _).grown hgrow (by simp; omega) (fun g hg => (hown.lt g hg).1)
          clear hown' hgrow hown
          go_wp2
          go_roundw
          case rel => exact ⟨u', false :: s, HU, by rw [HTS.out]; omega, HO.out, HB1.out⟩
          case measure => simp [lenOf]; omega
    · have hs : tsz s = n := by omega
      have hu : u = [] := til_whole (by rw [← hus.out, HT.out, hs]; exact Nat.le_refl _)
      have hts : t = s := by rw [hus.out, hu, List.nil_append]
      rw [hs] at hown ⊢
      have HOW : Hid (wr.ownsRow w.heap.size 3 1 (.slice op n oc) n ((trow t).map (Value.int .i64))) := by show World.ownsRow _ _ _ _ _ _ _; rw [hts]; exact hown
      clear hown hus hts hu hs hlt
      go_wp2
      go_ret
      exact ⟨_, rfl, HOW.out, hbw⟩

end Go.Proofs.YtenpkhalgkodbaaDoor

/- A slice of lists that came in reads as a list of lists. -/
namespace Go.Proofs.YtenpkhalgkodbaaDoor
open Go.RowKit Go.ChangeShapes Go.WideShapes

theorem ints_row {w : World} {a : Option Addr} {len cap : Nat} {zs : List Int} (hl : len ≤ cap) (hm : cap ≤ maxLen) (hz : zs.length = cap) (hn : a = none → cap = 0)
    (hc : ∀ x, a = some x → ∀ c, c < cap → w.cell? (x.add c) = some (.int .i64 (zs.getD c 0))) : Ints w (.slice a len cap) (zs.take len) := by
  rcases Nat.eq_zero_or_pos len with h0 | h0
  · subst h0
    exact Or.inl ⟨rfl, a, cap, rfl⟩
  · cases a with
    | none => have := hn rfl; omega
    | some x =>
      obtain ⟨b, off, rfl, hcell⟩ := ints_at (zs := zs) (fun i hi => hc x rfl i (by omega)) (by omega)
      have hlen : (zs.take len).length = len := by rw [List.length_take]; omega
      refine Or.inr ⟨b, off, cap, by rw [hlen], by omega, by omega, by unfold maxLen at hm; omega, ?_, fun j hj => ?_⟩
      · exact World.block_lt_of_cell? w _ (hcell 0 (by omega))
      · rw [hlen] at hj
        rw [hcell j (by omega)]
        simp [List.getD, hj]

theorem rows_all {w : World} {base : Nat} {a : Addr} {len cap : Nat} {A : Nat → Option Addr} {L C : Nat → Nat} {Z : Nat → List Int} (hl : len ≤ cap) (hm : cap ≤ maxLen)
    (h : ∀ r, r < cap → w.cell? (a.add r) = some (.slice (A r) (L r) (C r)) ∧ L r ≤ C r ∧ C r ≤ maxLen ∧ (Z r).length = C r ∧ (∀ n ∈ Z r, (Lit.int .i64 n).wf = true) ∧ (A r = none → C r = 0) ∧
        ∀ a', A r = some a' → base ≤ a'.block ∧ ∀ c, c < C r → w.cell? (a'.add c) = some (.int .i64 ((Z r).getD c 0))) :
    ∃ xss, IntsAll w (.slice (some a) len cap) xss := by
  refine ⟨(List.range len).map (fun r => (Z r).take (L r)), (List.range len).map (fun r => .slice (A r) (L r) (C r)), ?_, by simp, fun j hj => ?_⟩
  · rcases Nat.eq_zero_or_pos len with h0 | h0
    · subst h0
      exact Or.inl ⟨rfl, _, _, rfl⟩
    · obtain ⟨b, off, spot⟩ := a
      have hspot : spot = none := by simpa [Addr.add] using World.cell?_spot (h 0 (by omega)).1
      subst hspot
      refine Or.inr ⟨b, off, cap, by simp, by simpa using h0, by simpa using hl, by unfold maxLen at hm; omega, ?_, fun j hj => ?_⟩
      · exact World.block_lt_of_cell? w _ (h 0 (by omega)).1
      · simp at hj
        rw [← Addr.add_lit, (h j (by omega)).1]
        simp [List.getD, hj]
  · simp at hj
    have e1 : ((List.range len).map (fun r => Value.slice (A r) (L r) (C r))).getD j undef = .slice (A j) (L j) (C j) := by simp [List.getD, hj]
    have e2 : ((List.range len).map (fun r => (Z r).take (L r))).getD j [] = (Z j).take (L j) := by simp [List.getD, hj]
    rw [e1, e2]
    obtain ⟨_, a1, a2, a3, _, a5, a6⟩ := h j (by omega)
    exact ints_row a1 a2 a3 a5 (fun x hx => (a6 x hx).2)

end Go.Proofs.YtenpkhalgkodbaaDoor

/- Plain: the length and the lists of a slice of lists. -/
namespace Go.Proofs.YtenpkhalgkodbaaDoor
open Go.RowKit

theorem IntsAll.len {w : World} {v : Value} {xss : List (List Int)} (h : IntsAll w v xss) : ∃ p c, v = .slice p xss.length c := by
  obtain ⟨vs, h1, h2, _⟩ := h
  rw [← h2]; exact h1.form

/-- The k-th list of a slice of lists that is not empty. -/
theorem IntsAll.cell {w : World} {v : Value} {xss : List (List Int)} (h : IntsAll w v xss) (h0 : 1 ≤ xss.length) : ∃ b off cap, v = .slice (some ⟨b, off, none⟩) xss.length cap ∧ b < w.heap.size ∧ xss.length ≤ cap ∧ cap ≤ 9223372036854775807 ∧
    ∀ k, k < xss.length → ∃ p c, w.cell? ⟨b, off + k, none⟩ = some (.slice p (xss.getD k []).length c) ∧ Hid (Ints w (.slice p (xss.getD k []).length c) (xss.getD k [])) := by
  obtain ⟨vs, h1, h2, h3⟩ := h
  rcases h1 with ⟨rfl, _⟩ | ⟨b, off, cap, rfl, h4, h5, h6, h7, h8⟩
  · simp at h2; omega
  · refine ⟨b, off, cap, by rw [h2], h7, by omega, h6, fun k hk => ?_⟩
    exact elAt h8 (by omega) (h3 k hk)

theorem IntsAll.cut {w : World} {b off K cap k : Nat} {X : List (List Int)} (h : IntsAll w (.slice (some ⟨b, off, none⟩) K cap) X) (hl : X.length = K) (hk : k ≤ K) : IntsAll w (.slice (some ⟨b, off, none⟩) k cap) (X.take k) := by
  obtain ⟨vs, h1, h2, h3⟩ := h
  rcases Nat.eq_zero_or_pos k with rfl | h0
  · exact ⟨[], Or.inl ⟨rfl, _, _, rfl⟩, by simp, fun j hj => by simp at hj⟩
  rcases h1 with ⟨rfl, _⟩ | ⟨b', off', cap', e, h4, h5, h6, h7, h8⟩
  · simp at h2; omega
  obtain ⟨⟨rfl, rfl⟩, _, rfl⟩ : (b = b' ∧ off = off') ∧ K = vs.length ∧ cap = cap' := by
    simpa using e
  refine ⟨vs.take k, Or.inr ⟨b, off, cap, ?_, ?_, ?_, h6, h7, fun j hj => ?_⟩, ?_, fun j hj => ?_⟩
  · rw [List.length_take, Nat.min_eq_left (by omega)]
  · rw [List.length_take]; omega
  · rw [List.length_take]; omega
  · rw [List.length_take] at hj
    rw [h8 j (by omega)]
    simp [List.getD, show j < k by omega]
  · rw [List.length_take, List.length_take, h2]
  · rw [List.length_take] at hj
    have e1 : (vs.take k).getD j undef = vs.getD j undef := by simp [List.getD, show j < k by omega]
    have e2 : (X.take k).getD j [] = X.getD j [] := by simp [List.getD, show j < k by omega]
    rw [e1, e2]
    exact h3 j (by omega)

end Go.Proofs.YtenpkhalgkodbaaDoor

/- Contract: the answer's MethodMay, at a method that may be. -/
namespace Go.Proofs.YtenpkhalgkodbaaDoor
open Go.RowKit
set_option maxRecDepth 20000
set_option linter.unusedVariables false

/-- A method's cells, as a parameter is boxed. -/
abbrev mbox (s : ByteArray) (n : Int) (v : Value) : Obj := .cells #[.string s, .int .i64 n, v] 24

theorem mbox_cells (w : World) (s : ByteArray) (n : Int) (v : Value) : (w.alloc (mbox s n v)).cell? ⟨w.heap.size, 0, none⟩ = some (.string s) ∧ (w.alloc (mbox s n v)).cell? ⟨w.heap.size, 1, none⟩ = some (.int .i64 n) ∧ (w.alloc (mbox s n v)).cell? ⟨w.heap.size, 2, none⟩ = some v := by
  have h : (w.alloc (mbox s n v)).heap[w.heap.size]? = some (mbox s n v) := heap_alloc_new w _
  unfold World.cell?
  rw [h]
  exact ⟨rfl, rfl, rfl⟩

set_option maxHeartbeats 4000000 in
theorem rmay_ok (s : ByteArray) (n : Nat) (vp : Option Addr) (vc : Nat) (X : List (List Int)) (w : World) (hs : s.size ≤ 1048576) (hn : isN (arunes s) = true) (h1 : 2 ≤ n) (h2 : n ≤ 12) (hl1 : 1 ≤ X.length) (hl2 : X.length ≤ 200) (hv : IntsAll w (.slice vp X.length vc) X) (hX : ∀ x, x ∈ X → pc n x = 0) :
    Calls Tryd.prog 27 #[.agg #[.string s, .int .i64 n, .slice vp X.length vc]] w fun e w' => e = .returned (.int .i64 0) ∧ Below w.heap.size w w' := by
  obtain ⟨b, off, cap, hve, hbl, hc1, hc2, hcell⟩ := hv.cell (by omega)
  injection hve with e1 e2 e3
  subst e1; subst e3
  obtain ⟨m, hm⟩ : ∃ m, Hid (X.length = m) := ⟨_, rfl⟩
  rw [hm.out] at hc1 hl1 hl2 hcell ⊢
  have HCE := hide hcell
  have HX := hide hX
  have HB0 := hide ((Below.refl w.heap.size w).alloc (Nat.le_refl _) (mbox s n (.slice (some ⟨b, off, none⟩) m vc)))
  have HIN := hide (isName_any s (w.alloc (mbox s n (.slice (some ⟨b, off, none⟩) m vc))) hs)
  rw [hn] at HIN
  have HM := hide (mbox_cells w s n (.slice (some ⟨b, off, none⟩) m vc))
  obtain ⟨d0, d1, d2⟩ := HM.out
  clear hcell hv hX hn e2
  go_enter Tryd.func27, Tryd.ntmps27
  go_wp2_with fail
  refine HIN.out.mono ?_
  rintro e w1 ⟨rfl, hb1⟩
  have k1 : w1.cell? ⟨w.heap.size, 1, none⟩ = some (.int .i64 n) := by rw [hb1.cell (p := ⟨w.heap.size, 1, none⟩) (by simp)]; exact d1
  have k2 : w1.cell? ⟨w.heap.size, 2, none⟩ = some (.slice (some ⟨b, off, none⟩) m vc) := by rw [hb1.cell (p := ⟨w.heap.size, 2, none⟩) (by simp)]; exact d2
  have HB1 := hide (HB0.out.trans (hb1.mono HB0.out.size))
  clear hb1 HB0 HIN HM d0 d1 d2
  have g1 : ¬ (n : Int) < 2 := by omega
  have g2 : ¬ 12 < (n : Int) := by omega
  have g3 : ¬ (m : Int) < 1 := by omega
  have g4 : ¬ 200 < (m : Int) := by omega
  go_wp2
  go_loopw [4] (fun i wr => ∃ k : Nat, k ≤ m ∧ i = .int .i64 k ∧ Hid (Below w.heap.size w wr) ∧ wr.cell? ⟨w.heap.size, 1, none⟩ = some (.int .i64 n) ∧ wr.cell? ⟨w.heap.size, 2, none⟩ = some (.slice (some ⟨b, off, none⟩) m vc)) (fun i _ => m - (intOf i).toNat)
  case atStart => exact ⟨0, by omega, rfl, HB1, k1, k2⟩
  case round =>
    obtain ⟨k, hk, rfl, hbw, k1, k2⟩ := hrel
    by_cases hlt : k < m
    · have hkX : k < X.length := by rw [hm.out]; exact hlt
      obtain ⟨p, c, hcx, hix⟩ := HCE.out k hlt
      have gx := (hbw.out.cell (p := ⟨b, off + k, none⟩) (by exact hbl)).trans hcx
      have hz := HX.out (X.getD k []) (by simp [List.getD, hkX])
      have HC := hide (fun (W : World) (hW : Below w.heap.size w W) => changeMay_all n (.slice p (X.getD k []).length c) (X.getD k []) W (hix.out.below hW))
      rw [hz] at HC
      generalize (X.getD k []).length = pl at *
      have HC2 : ∀ W : World, Below w.heap.size w W → Calls Tryd.prog 28 #[.int .i64 n, .slice p pl c] W fun e w' => e = .returned (.int .i64 0) ∧ W = w' := HC.out
      clear hcx hix HC hz
      go_wp2_with fail
      go_quiet ((go_at_call 28; exact Calls.quiet_of_same ((HC2 _ (below_drewN hbw.out _)).mono (fun e wq h => ⟨h.1, h.2.symm⟩))))
      have HB3 := hide (below_drewN hbw.out nq)
      have k1' : (wr.drewN nq).cell? ⟨w.heap.size, 1, none⟩ = some (.int .i64 n) := k1
      have k2' : (wr.drewN nq).cell? ⟨w.heap.size, 2, none⟩ = some (.slice (some ⟨b, off, none⟩) m vc) := k2
      generalize wr.drewN nq = w3 at *
      clear k1 k2 hbw gx HC2
      go_wp2
      go_roundw
      case rel => exact ⟨k + 1, by omega, by go_num, HB3, k1', k2'⟩
      case measure => simp [intOf]; omega
    · go_wp2
      go_ret
      exact ⟨rfl, hbw.out⟩

end Go.Proofs.YtenpkhalgkodbaaDoor

/- Contracts: method.Check. -/
namespace Go.Proofs.YtenpkhalgkodbaaDoor
open Go.RowKit

/-- A method as a value. -/
abbrev meth (s : ByteArray) (n : Int) (v : Value) : Value := .agg #[.string s, .int .i64 n, v]

set_option maxHeartbeats 400000 in
theorem mmay_yes (n : Int) (w : World) (h1 : 2 ≤ n) (h2 : n ≤ 12) :
    Calls Tryd.prog 47 #[.int .i64 n] w fun e w' => e = .returned (.bool true) ∧ w = w' := by
  go_enter Tryd.func47, Tryd.ntmps47
  go_wp2
  go_ret
  exact ⟨rfl, rfl⟩

set_option maxHeartbeats 400000 in
theorem mmay_no (n : Int) (w : World) (h : n < 2 ∨ 12 < n) :
    Calls Tryd.prog 47 #[.int .i64 n] w fun e w' => e = .returned (.bool false) ∧ w = w' := by
  rcases h with h | h
  · go_enter Tryd.func47, Tryd.ntmps47
    go_wp2
    go_ret
    exact ⟨rfl, rfl⟩
  · have h1 : 2 ≤ n := by omega
    have h2 : decide (n ≤ 12) = false := by simp; omega
    go_enter Tryd.func47, Tryd.ntmps47
    go_wp2
    go_ret
    exact ⟨rfl, rfl⟩

/-- Where a method lies. -/
structure Box (w : World) (B : Nat) (s : ByteArray) (n : Int) (v : Value) : Prop where
  c0 : w.cell? ⟨B, 0, none⟩ = some (.string s)
  c1 : w.cell? ⟨B, 1, none⟩ = some (.int .i64 n)
  c2 : w.cell? ⟨B, 2, none⟩ = some v
  lt : B < w.heap.size

theorem Box.start (w : World) (s : ByteArray) (n : Int) (v : Value) (t : TypeId) : Box (w.alloc (.cells #[.string s, .int .i64 n, v] t)) w.heap.size s n v := by
  refine ⟨?_, ?_, ?_, by simp⟩ <;> simp

theorem Box.below {w w' : World} {B : Nat} {s : ByteArray} {n : Int} {v : Value} (h : Box w B s n v) (hb : Below w.heap.size w w') : Box w' B s n v :=
  ⟨(hb.cell (p := ⟨B, 0, none⟩) h.lt).trans h.c0, (hb.cell (p := ⟨B, 1, none⟩) h.lt).trans h.c1, (hb.cell (p := ⟨B, 2, none⟩) h.lt).trans h.c2, Nat.lt_of_lt_of_le h.lt hb.size⟩

set_option maxRecDepth 20000 in
set_option maxHeartbeats 4000000 in
theorem mcheck_name (s : ByteArray) (n : Int) (v : Value) (w : World) (hs : s.size ≤ 9223372036854775807) (hn : nm s = false) :
    Calls Tryd.prog 25 #[meth s n v] w fun e w' => e = .returned (.int .i64 7) ∧ Below w.heap.size w w' := by
  unfold meth
  have HN := hide (fun W => name_any s W hs)
  rw [hn] at HN
  clear hn
  go_enter Tryd.func25, Tryd.ntmps25
  go_wp2_with fail
  refine (HN.out _).mono ?_
  rintro e w1 ⟨rfl, hb1⟩
  have hB : Below w.heap.size w w1 := ((Below.refl _ _).alloc (Nat.le_refl _) _).trans (hb1.mono (by simp))
  clear hb1 HN
  go_wp2
  go_ret
  exact ⟨rfl, hB⟩

set_option maxRecDepth 20000 in
set_option maxHeartbeats 4000000 in
theorem mcheck_ok (s : ByteArray) (n : Nat) (v : Value) (css : List (List Int)) (w : World) (hs : s.size ≤ 9223372036854775807) (hn : nm s = true) (h1 : 2 ≤ n) (h2 : n ≤ 12) (hl1 : 1 ≤ css.length) (hl2 : css.length ≤ 200) (hv : IntsAll w v css)
    (hok : ∀ k, k < css.length → okc n 0 (css.getD k []) = true) :
    Calls Tryd.prog 25 #[meth s n v] w fun e w' => e = .returned (.int .i64 0) ∧ Below w.heap.size w w' := by
  unfold meth
  have HN := hide (fun W => name_any s W hs)
  rw [hn] at HN
  obtain ⟨b, off, cap, rfl, hb, hc1, hc2, hcell⟩ := hv.cell hl1
  have HC := hide hcell
  have HOK := hide hok
  clear hn hv hok hcell
  go_enter Tryd.func25, Tryd.ntmps25
  go_wp2_with fail
  refine (HN.out _).mono ?_
  rintro e w1 ⟨rfl, hb1⟩
  have hB : Below w.heap.size w w1 := ((Below.refl _ _).alloc (Nat.le_refl _) _).trans (hb1.mono (by simp))
  have hx := (Box.start w s n (.slice (some ⟨b, off, none⟩) css.length cap) 24).below hb1
  have g1 := hx.c1
  have g2 := hx.c2
  have HX := hide hx
  clear hb1 HN hx
  go_wp2_with fail
  refine (mmay_yes _ _ (by omega) (by omega)).mono ?_
  rintro e w' ⟨rfl, rfl⟩
  go_wp2
  go_loop [29] (fun i => ∃ k : Nat, k ≤ css.length ∧ i = .int .i64 k) (fun i => css.length - (intOf i).toNat)
  case atStart => exact ⟨0, by omega, rfl⟩
  case round =>
    obtain ⟨k, hk, rfl⟩ := hrel
    by_cases hlt : k < css.length
    · obtain ⟨p, c, hcx, hix⟩ := HC.out k hlt
      have gx := (hB.cell (p := ⟨b, off + k, none⟩) (by exact hb)).trans hcx
      have HCk := hide (pcheck_any n _ _ w1 (by omega) (by omega) (hix.out.below hB))
      rw [show pck n (css.getD k []) = 0 from by unfold pck; rw [if_pos (HOK.out k hlt)]] at HCk
      generalize (css.getD k []).length = L at *
      clear hcx hix
      go_wp2_with fail
      refine HCk.out.mono ?_
      rintro e w' ⟨rfl, rfl⟩
      go_wp2
      go_round
      case rel => exact ⟨k + 1, by omega, by go_num⟩
      case measure => simp [intOf]; omega
    · go_wp2
      go_ret
      exact ⟨rfl, hB⟩

end Go.Proofs.YtenpkhalgkodbaaDoor

/- Contracts at every method: method.Check, the answer's MethodMay. -/
namespace Go.Proofs.YtenpkhalgkodbaaDoor
open Go.RowKit
set_option maxRecDepth 20000
set_option linter.unusedVariables false

/-- What is wrong with the first change that may not be. -/
def fstE (n : Int) : List (List Int) → Int
  | [] => 0
  | x :: X => if pc n x = 0 then fstE n X else pc n x

theorem fstE_ok {n : Int} {X : List (List Int)} {k : Nat} (hk : k < X.length) (h : pc n (X.getD k []) = 0) : fstE n (X.drop k) = fstE n (X.drop (k + 1)) := by
  rw [List.drop_eq_getElem_cons hk]
  have e : X.getD k [] = X[k] := by simp [List.getD, hk]
  rw [e] at h
  rw [fstE, if_pos h]

theorem fstE_bad {n : Int} {X : List (List Int)} {k : Nat} (hk : k < X.length) (h : pc n (X.getD k []) ≠ 0) : fstE n (X.drop k) = pc n (X.getD k []) := by
  rw [List.drop_eq_getElem_cons hk]
  have e : X.getD k [] = X[k] := by simp [List.getD, hk]
  rw [e] at h ⊢
  rw [fstE, if_neg h]

theorem fstE_zero {n : Int} : ∀ {X : List (List Int)}, fstE n X = 0 → ∀ x, x ∈ X → pc n x = 0
  | [], _, x, hx => by cases hx
  | y :: X, h, x, hx => by
    unfold fstE at h
    split at h
    · rename_i h0
      rcases List.mem_cons.1 hx with rfl | hx
      · exact h0
      · exact fstE_zero h x hx
    · rename_i h0; exact absurd h h0

/-- What is wrong with a method. -/
def mErr (s : ByteArray) (n : Int) (X : List (List Int)) : Int :=
  if nm s = true then (if n < 2 ∨ 12 < n ∨ X.length < 1 ∨ 200 < X.length then 1 else fstE n X) else 7

set_option maxHeartbeats 4000000 in
theorem mcheck_all (s : ByteArray) (n : Int) (v : Value) (X : List (List Int)) (w : World) (hs : s.size ≤ 9223372036854775807) (hv : IntsAll w v X) :
    Calls Tryd.prog 25 #[meth s n v] w fun e w' => e = .returned (.int .i64 (mErr s n X)) ∧ Below w.heap.size w w' := by
  by_cases hn : nm s = true
  · unfold mErr
    rw [if_pos hn]
    unfold meth
    have HN := hide (fun W => name_any s W hs)
    rw [hn] at HN
    obtain ⟨vp, vc, hve⟩ := hv.len
    obtain ⟨m, hm⟩ : ∃ m, Hid (X.length = m) := ⟨_, rfl⟩
    rw [hm.out] at hve ⊢
    subst hve
    have HV := hide hv
    clear hn hv
    have HX0 := hide (Box.start w s n (.slice vp m vc) 24)
    have HB0 := hide ((Below.refl w.heap.size w).alloc (Nat.le_refl _) (.cells #[.string s, .int .i64 n, .slice vp m vc] 24))
    by_cases hc : n < 2 ∨ 12 < n
    · rw [if_pos (by omega)]
      have HMM := hide (fun W => mmay_no n W hc)
      clear hc
      go_enter Tryd.func25, Tryd.ntmps25
      go_wp2_with fail
      refine (HN.out _).mono ?_
      rintro e w1 ⟨rfl, hb1⟩
      have HB := hide (HB0.out.trans (hb1.mono HB0.out.size))
      have g1 := (HX0.out.below hb1).c1
      clear hb1 HN HX0 HB0
      go_wp2_with fail
      refine (HMM.out _).mono ?_
      rintro e w' ⟨rfl, rfl⟩
      go_wp2
      go_ret
      exact ⟨rfl, HB.out⟩
    · have h1 : 2 ≤ n := by omega
      have h2 : n ≤ 12 := by omega
      by_cases hl : m < 1 ∨ 200 < m
      · rw [if_pos (by omega)]
        have HMM := hide (fun W => mmay_yes n W h1 h2)
        clear hc h1 h2
        go_enter Tryd.func25, Tryd.ntmps25
        go_wp2_with fail
        refine (HN.out _).mono ?_
        rintro e w1 ⟨rfl, hb1⟩
        have HB := hide (HB0.out.trans (hb1.mono HB0.out.size))
        have g1 := (HX0.out.below hb1).c1
        have g2 := (HX0.out.below hb1).c2
        clear hb1 HN HX0 HB0
        rcases hl with hl | hl
        · have hl1 : (m : Int) < 1 := by omega
          clear hl
          go_wp2_with fail
          refine (HMM.out _).mono ?_
          rintro e w' ⟨rfl, rfl⟩
          go_wp2
          go_ret
          exact ⟨rfl, HB.out⟩
        · have hl1 : ¬ (m : Int) < 1 := by omega
          have hl2 : 200 < (m : Int) := by omega
          clear hl
          go_wp2_with fail
          refine (HMM.out _).mono ?_
          rintro e w' ⟨rfl, rfl⟩
          go_wp2
          go_ret
          exact ⟨rfl, HB.out⟩
      · rw [if_neg (by omega)]
        have hl1 : ¬ (m : Int) < 1 := by omega
        have hl2 : ¬ 200 < (m : Int) := by omega
        have hm1 : 1 ≤ m := by omega
        obtain ⟨b, off, cap, hve, hb, hc1, hc2, hcell⟩ := HV.out.cell (by rw [hm.out]; exact hm1)
        rw [hm.out] at hve hc1 hcell
        simp only [Value.slice.injEq] at hve
        obtain ⟨rfl, _, rfl⟩ := hve
        have HC := hide hcell
        have HMM := hide (fun W => mmay_yes n W h1 h2)
        clear hc hcell HV hl
        obtain ⟨E, hE⟩ : ∃ E, Hid (fstE n X = E) := ⟨_, rfl⟩
        rw [hE.out]
        go_enter Tryd.func25, Tryd.ntmps25
        go_wp2_with fail
        refine (HN.out _).mono ?_
        rintro e w1 ⟨rfl, hb1⟩
        have hB := HB0.out.trans (hb1.mono HB0.out.size)
        have g1 := (HX0.out.below hb1).c1
        have g2 := (HX0.out.below hb1).c2
        clear hb1 HN HX0 HB0
        go_wp2_with fail
        refine (HMM.out _).mono ?_
        rintro e w' ⟨rfl, rfl⟩
        go_wp2
        go_loop [29] (fun i => ∃ k : Nat, k ≤ m ∧ i = .int .i64 k ∧ Hid (E = fstE n (X.drop k))) (fun i => m - (intOf i).toNat)
        case atStart => exact ⟨0, by omega, rfl, hE.out.symm⟩
        case round =>
          obtain ⟨k, hk, rfl, hEk⟩ := hrel
          by_cases hlt : k < m
          · have hkX : k < X.length := by rw [hm.out]; exact hlt
            obtain ⟨p, c, hcx, hix⟩ := HC.out k hlt
            have gx := (hB.cell (p := ⟨b, off + k, none⟩) (by exact hb)).trans hcx
            have HCk := hide (pcheck_all n _ _ w1 (hix.out.below hB))
            by_cases hz : pc n (X.getD k []) = 0
            · have HEN : Hid (E = fstE n (X.drop (k + 1))) := hEk.out.trans (fstE_ok hkX hz)
              rw [hz] at HCk
              clear hz hEk hcx hix
              generalize (X.getD k []).length = L at *
              go_wp2_with fail
              refine HCk.out.mono ?_
              rintro e w' ⟨rfl, rfl⟩
              go_wp2
              go_round
              case rel => exact ⟨k + 1, by omega, by go_num, HEN⟩
              case measure => simp [intOf]; omega
            · have HEN : Hid (E = pc n (X.getD k [])) := hEk.out.trans (fstE_bad hkX hz)
              have hzz : (pc n (X.getD k []) != 0) = true := by simpa using hz
              clear hz hEk hcx hix
              generalize (X.getD k []).length = L at *
              generalize pc n (X.getD k []) = pe at *
              go_wp2_with fail
              refine HCk.out.mono ?_
              rintro e w' ⟨rfl, rfl⟩
              go_wp2
              go_ret
              exact ⟨ret_int HEN.out.symm, hB⟩
          · obtain rfl : k = m := by omega
            have HEN : Hid (E = 0) := by show E = 0; rw [hEk.out, List.drop_eq_nil_of_le (by rw [hm.out]; exact Nat.le_refl _)]; rfl
            clear hEk
            go_wp2
            go_ret
            exact ⟨ret_int HEN.out.symm, hB⟩
  · have hn' : nm s = false := by simpa using hn
    unfold mErr
    rw [if_neg hn]
    exact mcheck_name s n v w hs hn'

set_option maxHeartbeats 4000000 in
theorem rmay_all (s : ByteArray) (n : Int) (v : Value) (X : List (List Int)) (w : World) (hs : s.size ≤ 1048576) (hv : IntsAll w v X) :
    Calls Tryd.prog 27 #[.agg #[.string s, .int .i64 n, v]] w fun e w' => e = .returned (.int .i64 (mErr s n X)) ∧ Below w.heap.size w w' := by
  obtain ⟨vp, vc, hve⟩ := hv.len
  obtain ⟨m, hm⟩ : ∃ m, Hid (X.length = m) := ⟨_, rfl⟩
  rw [hm.out] at hve
  subst hve
  have HV := hide hv
  have HB0 := hide ((Below.refl w.heap.size w).alloc (Nat.le_refl _) (mbox s n (.slice vp m vc)))
  have HIN := hide (isName_any s (w.alloc (mbox s n (.slice vp m vc))) hs)
  rw [nm_isN] at HIN
  obtain ⟨d0, d1, d2⟩ := mbox_cells w s n (.slice vp m vc)
  clear hv
  unfold mErr
  rw [hm.out]
  cases hn : nm s with
  | false =>
    rw [if_neg (by simp)]
    rw [hn] at HIN
    clear hn d1 d2 HV
    go_enter Tryd.func27, Tryd.ntmps27
    go_wp2_with fail
    refine HIN.out.mono ?_
    rintro e w1 ⟨rfl, hb1⟩
    have HB1 := hide (HB0.out.trans (hb1.mono HB0.out.size))
    clear hb1 HB0 HIN d0
    go_wp2
    go_ret
    exact ⟨rfl, HB1.out⟩
  | true =>
    rw [if_pos rfl]
    rw [hn] at HIN
    clear hn
    by_cases hc : n < 2 ∨ 12 < n ∨ m < 1 ∨ 200 < m
    · rw [if_pos hc]
      go_enter Tryd.func27, Tryd.ntmps27
      go_wp2_with fail
      refine HIN.out.mono ?_
      rintro e w1 ⟨rfl, hb1⟩
      have k1 : w1.cell? ⟨w.heap.size, 1, none⟩ = some (.int .i64 n) := by rw [hb1.cell (p := ⟨w.heap.size, 1, none⟩) (by simp)]; exact d1
      have k2 : w1.cell? ⟨w.heap.size, 2, none⟩ = some (.slice vp m vc) := by rw [hb1.cell (p := ⟨w.heap.size, 2, none⟩) (by simp)]; exact d2
      have HB1 := hide (HB0.out.trans (hb1.mono HB0.out.size))
      clear hb1 HB0 HIN d0 d1 d2
      by_cases h1 : n < 2
      · clear hc
        go_wp2
        go_ret
        exact ⟨rfl, HB1.out⟩
      · by_cases h2 : 12 < n
        · clear hc
          go_wp2
          go_ret
          exact ⟨rfl, HB1.out⟩
        · by_cases h3 : (m : Int) < 1
          · clear hc
            go_wp2
            go_ret
            exact ⟨rfl, HB1.out⟩
          · have h4 : 200 < (m : Int) := by omega
            clear hc
            go_wp2
            go_ret
            exact ⟨rfl, HB1.out⟩
    · rw [if_neg hc]
      have g1 : ¬ n < 2 := by omega
      have g2 : ¬ 12 < n := by omega
      have g3 : ¬ (m : Int) < 1 := by omega
      have g4 : ¬ 200 < (m : Int) := by omega
      obtain ⟨b, off, cap, hve, hbl, hc1, hc2, hcell⟩ := HV.out.cell (by rw [hm.out]; omega)
      rw [hm.out] at hve hc1 hcell
      simp only [Value.slice.injEq] at hve
      obtain ⟨rfl, _, rfl⟩ := hve
      have HCE := hide hcell
      obtain ⟨E, hE⟩ : ∃ E, Hid (fstE n X = E) := ⟨_, rfl⟩
      rw [hE.out]
      clear hc hcell HV
      go_enter Tryd.func27, Tryd.ntmps27
      go_wp2_with fail
      refine HIN.out.mono ?_
      rintro e w1 ⟨rfl, hb1⟩
      have k1 : w1.cell? ⟨w.heap.size, 1, none⟩ = some (.int .i64 n) := by rw [hb1.cell (p := ⟨w.heap.size, 1, none⟩) (by simp)]; exact d1
      have k2 : w1.cell? ⟨w.heap.size, 2, none⟩ = some (.slice (some ⟨b, off, none⟩) m vc) := by rw [hb1.cell (p := ⟨w.heap.size, 2, none⟩) (by simp)]; exact d2
      have HB1 := hide (HB0.out.trans (hb1.mono HB0.out.size))
      clear hb1 HB0 HIN d0 d1 d2
      go_wp2
      go_loopw [4] (fun i wr => ∃ k : Nat, k ≤ m ∧ i = .int .i64 k ∧ Hid (E = fstE n (X.drop k)) ∧ Hid (Below w.heap.size w wr) ∧ wr.cell? ⟨w.heap.size, 1, none⟩ = some (.int .i64 n) ∧ wr.cell? ⟨w.heap.size, 2, none⟩ = some (.slice (some ⟨b, off, none⟩) m vc)) (fun i _ => m - (intOf i).toNat)
      case atStart => exact ⟨0, by omega, rfl, hE.out.symm, HB1, k1, k2⟩
      case round =>
        clear k1 k2 HB1
        obtain ⟨k, hk, rfl, hEk, hbw, k1, k2⟩ := hrel
        by_cases hlt : k < m
        · have hkX : k < X.length := by rw [hm.out]; exact hlt
          obtain ⟨p, c, hcx, hix⟩ := HCE.out k hlt
          have gx := (hbw.out.cell (p := ⟨b, off + k, none⟩) (by exact hbl)).trans hcx
          have HC := hide (fun (W : World) (hW : Below w.heap.size w W) => changeMay_all n (.slice p (X.getD k []).length c) (X.getD k []) W (hix.out.below hW))
          have HEZ : Hid (pc n (X.getD k []) = 0 → E = fstE n (X.drop (k + 1))) := fun hz => hEk.out.trans (fstE_ok hkX hz)
          have HEB : Hid (pc n (X.getD k []) ≠ 0 → E = pc n (X.getD k [])) := fun hz => hEk.out.trans (fstE_bad hkX hz)
          clear hcx hix hEk
          generalize (X.getD k []).length = pl at *
          generalize pc n (X.getD k []) = pe at *
          have HC2 : ∀ W : World, Below w.heap.size w W → Calls Tryd.prog 28 #[.int .i64 n, .slice p pl c] W fun e w' => e = .returned (.int .i64 pe) ∧ W = w' := HC.out
          clear HC
          go_wp2_with fail
          go_quiet ((go_at_call 28; exact Calls.quiet_of_same ((HC2 _ (below_drewN hbw.out _)).mono (fun e wq h => ⟨h.1, h.2.symm⟩))))
          have HB3 := hide (below_drewN hbw.out nq)
          have k1' : (wr.drewN nq).cell? ⟨w.heap.size, 1, none⟩ = some (.int .i64 n) := k1
          have k2' : (wr.drewN nq).cell? ⟨w.heap.size, 2, none⟩ = some (.slice (some ⟨b, off, none⟩) m vc) := k2
          generalize wr.drewN nq = w3 at *
          clear k1 k2 hbw gx HC2
          by_cases hz : pe = 0
          · have HEN := hide (HEZ.out hz)
            subst hz
            clear HEZ HEB
            go_wp2
            go_roundw
            case rel => exact ⟨k + 1, by omega, by go_num, HEN, HB3, k1', k2'⟩
            case measure => simp [intOf]; omega
          · have HEN := hide (HEB.out hz)
            have hzz : (pe != 0) = true := by simpa using hz
            clear HEZ HEB hz
            go_wp2
            go_ret
            exact ⟨ret_int HEN.out.symm, HB3.out⟩
        · obtain rfl : k = m := by omega
          have HEN : Hid (E = 0) := by show E = 0; rw [hEk.out, List.drop_eq_nil_of_le (by rw [hm.out]; exact Nat.le_refl _)]; rfl
          clear hEk
          go_wp2
          go_ret
          exact ⟨ret_int HEN.out.symm, hbw.out⟩

end Go.Proofs.YtenpkhalgkodbaaDoor

/- Calls in memory; contracts: call.Sign's rest, truth.ByHeads' closure, slices.ContainsFunc where none is found. -/
namespace Go.Proofs.YtenpkhalgkodbaaDoor
open Go.RowKit

/-- The slice value v reads as calls: signs, and changes as places. -/
def CallsAt (w : World) (v : Value) (cs : List (Int × List (List Int))) : Prop :=
  ∃ b off cap, v = .slice (some ⟨b, off, none⟩) cs.length cap ∧ b < w.heap.size ∧ cs.length ≤ cap ∧ cap ≤ 9223372036854775807 ∧
    ∀ k, k < cs.length → ∃ u, w.cell? ⟨b, off + k * 2, none⟩ = some (.int .i32 (cs.getD k (0, [])).1) ∧ w.cell? ⟨b, off + k * 2 + 1, none⟩ = some u ∧ IntsAll w u (cs.getD k (0, [])).2

theorem CallsAt.below {w w' : World} {v : Value} {cs : List (Int × List (List Int))} (h : CallsAt w v cs) (hb : Below w.heap.size w w') : CallsAt w' v cs := by
  obtain ⟨b, off, cap, h1, h2, h3, h4, h5⟩ := h
  refine ⟨b, off, cap, h1, Nat.lt_of_lt_of_le h2 hb.size, h3, h4, fun k hk => ?_⟩
  obtain ⟨u, a1, a2, a3⟩ := h5 k hk
  exact ⟨u, (hb.cell (p := ⟨b, off + k * 2, none⟩) h2).trans a1, (hb.cell (p := ⟨b, off + k * 2 + 1, none⟩) h2).trans a2, a3.below hb⟩

theorem Tryd.size50 : (Tryd.prog.info? 50).map (·.size) = some 2 := by kernel_rfl

end Go.Proofs.YtenpkhalgkodbaaDoor

/- Plain: runes that may be signs of calls. -/
namespace Go.Proofs.YtenpkhalgkodbaaDoor
open Go.RowKit

/-- A rune that may be a call's sign. -/
def sgnR (c : Int) : Bool := decide (33 ≤ c ∧ c ≤ 12287 ∧ ¬ (48 ≤ c ∧ c ≤ 57) ∧ c ≠ 40 ∧ c ≠ 41 ∧ (c < 127 ∨ 160 < c))

theorem sgn_letter {c : Int} (h : 97 ≤ c ∧ c ≤ 122) : sgnR c = true := by
  unfold sgnR
  exact decide_eq_true (by omega)

end Go.Proofs.YtenpkhalgkodbaaDoor
