/- Joined: PSa, Raw, TtC, ChOf, XtI. -/
import Derived.Test.YthbhoohdniamaaaJ6
import Derived.Test.YthbhoohdniamaaaJ3
import Derived.Test.YthbhoohdniamaaaJ5
/- Contracts: the answer's isIn and ChangeRow; Check, ChangeMay at every number; Row where it refuses. -/
namespace Go.Proofs.Ythbhoohdniamaaa
open Go.RowKit

/-- What Check says at every number of bells. -/
def pc (n : Int) (ps : List Int) : Int := if 1 ≤ n ∧ n ≤ 12 then pck n ps else 1

theorem pc_range (n : Int) (ps : List Int) : pc n ps = 0 ∨ pc n ps = 1 ∨ pc n ps = 6 := by
  unfold pc
  split
  · rcases pck_range n ps with h | h <;> simp [h]
  · simp

theorem pcheck_all (n : Int) (v : Value) (ps : List Int) (w : World) (i1 : Ints w v ps) :
    Calls Try.prog 76 #[.int .i64 n, v] w fun e w' => e = .returned (.int .i64 (pc n ps)) ∧ w = w' := by
  by_cases h : 1 ≤ n ∧ n ≤ 12
  · unfold pc
    rw [if_pos h]
    exact pcheck_any n v ps w h.1 h.2 i1
  · unfold pc
    rw [if_neg h]
    exact pcheck_count n v w (by omega)

set_option maxRecDepth 20000 in
set_option maxHeartbeats 1000000 in
theorem prow_no (n : Int) (v : Value) (ps : List Int) (w : World) (i1 : Ints w v ps) (h : pc n ps ≠ 0) :
    Calls Try.prog 68 #[.int .i64 n, v] w fun e w' => e = .returned (.tuple #[.slice none 0 0, .int .i64 (pc n ps)]) ∧ w = w' := by
  have HC := hide (pcheck_all n v ps w i1)
  have hr := pc_range n ps
  clear i1
  generalize pc n ps = z at *
  have hz : z = 1 ∨ z = 6 := by omega
  clear hr h
  rcases hz with rfl | rfl
  · go_enter Try.func68, Try.ntmps68
    go_wp2_with fail
    refine HC.out.mono ?_
    rintro e w' ⟨rfl, rfl⟩
    go_wp2
    go_ret2
    exact ⟨rfl, rfl⟩
  · go_enter Try.func68, Try.ntmps68
    go_wp2_with fail
    refine HC.out.mono ?_
    rintro e w' ⟨rfl, rfl⟩
    go_wp2
    go_ret2
    exact ⟨rfl, rfl⟩

set_option maxRecDepth 20000 in
set_option maxHeartbeats 1000000 in
theorem isIn_any (v : Value) (xs : List Int) (x : Int) (w : World) (h : Ints w v xs) :
    Calls Try.prog 35 #[v, .int .i64 x] w fun e w' => e = .returned (.bool (decide (x ∈ xs))) ∧ w = w' := by
  rcases h with ⟨rfl, p, c, rfl⟩ | ⟨b, off, cap, rfl, h0, hc, hm, hb, hcell⟩
  · go_enter Try.func35, Try.ntmps35
    go_wp2
    go_loop [5] (fun i => i = .int .i64 0) (fun _ => 0)
    case atStart => rfl
    case round =>
      subst hrel
      go_wp2
      go_ret
      exact ⟨by simp, rfl⟩
  · go_enter Try.func35, Try.ntmps35
    go_wp2
    go_loop [5] (fun i => ∃ k : Nat, k ≤ xs.length ∧ i = .int .i64 k ∧ Hid (x ∈ xs ↔ x ∈ xs.drop k)) (fun i => xs.length - (intOf i).toNat)
    case atStart => exact ⟨0, by omega, rfl, Iff.rfl⟩
    case round =>
      obtain ⟨k, hk, rfl, hi⟩ := hrel
      by_cases hlt : k < xs.length
      · obtain ⟨y, hy, hcx⟩ := cellAt hcell hlt
        have HD : Hid (x ∈ xs ↔ x = y ∨ x ∈ xs.drop (k + 1)) := by show _ ↔ _; rw [hi.out, drop_cons xs hlt, hy.out, List.mem_cons]
        clear hcell hi
        by_cases hxy : y = x
        · have hp : Hid (decide (x ∈ xs) = true) := decide_eq_true (HD.out.2 (Or.inl hxy.symm))
          subst hxy
          clear HD
          go_wp2
          go_ret
          exact ⟨ret_bool hp.out.symm, rfl⟩
        · have hp : Hid (x ∈ xs ↔ x ∈ xs.drop (k + 1)) := HD.out.trans ⟨fun h => h.resolve_left (fun e => hxy e.symm), Or.inr⟩
          have hne : (y == x) = false := by simpa using hxy
          clear hxy HD
          go_wp2
          go_round
          case rel => exact ⟨k + 1, by omega, by go_num, hp⟩
          case measure => simp [intOf]; omega
      · have hp : Hid (decide (x ∈ xs) = false) := by show _ = _; rw [decide_eq_false_iff_not, hi.out, List.drop_of_length_le (by omega)]; simp
        clear hcell hi
        go_wp2
        go_ret
        exact ⟨ret_bool hp.out.symm, rfl⟩

theorem cell_two_new (w : World) (x y : Value) (e : TypeId) : ∀ j u, [x, y][j]? = some u → (w.alloc (.cells #[x, y] e)).cell? ((⟨w.heap.size, 0, none⟩ : Addr).add j) = some u := by
  intro j u hj
  have h9 := heap_alloc_new w (.cells #[x, y] e)
  rw [Addr.add_lit]
  match j, hj with
  | 0, hj => simp at hj; subst hj; unfold World.cell?; simp only [h9]; rfl
  | 1, hj => simp at hj; subst hj; unfold World.cell?; simp only [h9]; rfl

def lenOf : Value → Nat
  | .slice _ l _ => l
  | _ => 0

set_option maxRecDepth 20000 in
set_option maxHeartbeats 4000000 in
theorem changeRow_ok (t : List Bool) (n : Nat) (v : Value) (w : World) (hn : tsz t = n) (h1 : 1 ≤ n) (h2 : n ≤ 12) (i1 : Ints w v (tpl t)) :
    Calls Try.prog 16 #[.int .i64 n, v] w fun e w' => ∃ v', e = .returned v' ∧ w'.ownsRow w.heap.size 3 1 v' n ((trow t).map (Value.int .i64)) ∧ Below w.heap.size w w' := by
  obtain ⟨i0, hi, hz0, hz1, hz2⟩ := info_parts Try.info3
  have HI := hide i1
  have HT := hide hn
  clear i1 hn
  go_enter Try.func16, Try.ntmps16
  go_wp2
  go_loopw [5] (fun o wr => ∃ (u s : List Bool), Hid (t = u ++ s) ∧ tsz s ≤ n ∧ wr.ownsRow w.heap.size 3 1 o (tsz s) ((trow s).map (Value.int .i64)) ∧ Below w.heap.size w wr) (fun o _ => n - lenOf o)
  case atStart => exact ⟨t, [], by show _ = _; simp, Nat.zero_le _, World.ownsRow_nil _ _ _ _, Below.refl _ _⟩
  case round =>
    obtain ⟨u, s, hus, hsn, hown, hbw⟩ := hrel
    obtain ⟨op, oc, rfl⟩ := owns_slice hown
    have hbs := hbw.size
    by_cases hlt : tsz s < n
    · obtain ⟨u', b, hu, hus'⟩ := til_next (u := u) (s := s) (by rw [← hus.out, HT.out]; exact hlt)
      have HU : Hid (t = u' ++ b :: s) := by show _ = _; rw [hus.out, hus']
      have HCo := hide (isIn_any v (tpl t) ((tsz s : Nat) + 1) wr (HI.out.below hbw))
      have hm := mem_next u' s b
      rw [← HU.out] at hm
      have hsz : tsz (b :: s) ≤ n := by have := tsz_mono (b :: s) u'; rw [← HU.out, HT.out] at this; exact this
      clear hu hus' hus
      cases b with
      | true =>
        rw [decide_eq_true (hm.2 rfl)] at HCo
        clear hm
        simp only [tsz] at hsz
        have HTR : Hid ((trow (true :: s)).map (Value.int .i64) = (trow s).map (Value.int .i64) ++ [.int .i64 ((tsz s : Nat) : Int)]) := by show _ = _; simp [trow]
        have HTS : Hid (tsz (true :: s) = tsz s + 1) := by show _ = _; simp [tsz]
        generalize hS : tsz s = S' at *
        go_wp2_with fail
        refine HCo.out.mono ?_
        rintro e w' ⟨rfl, rfl⟩
        go_wp2_with (at_builtin; refine wpList_append_own _ rfl _ _ 22 rfl w.heap.size 3 i0 (.int .i64 0) 1 8 Try.underlying22 hi hz0 hz1 hz2 rfl (by decide) _ _ _ rfl (hown.alloc _) ⟨wr.heap.size, 0, none⟩ 1 1 [.int .i64 (S' : Int)] rfl rfl ?c1 ?c2 ?c3 ?c4 ?c5 ?_)
        case c1 => exact cell_one_new _ _ _
        case c2 => intro u hu; simp at hu; subst hu; rfl
        case c3 => unfold maxLen; omega
        case c4 => omega
        case c5 => simp; omega
        · intro v' w1 hown' hgrow _
          obtain ⟨vp, vc, rfl⟩ := owns_slice hown'
          have HO : Hid (w1.ownsRow w.heap.size 3 1 (.slice vp (S' + 1) vc) (tsz (true :: s)) ((trow (true :: s)).map (Value.int .i64))) := by show World.ownsRow _ _ _ _ _ _ _; rw [HTS.out, HTR.out]; exact hown'
          have HB1 : Hid (Below w.heap.size w w1) := (hbw.alloc hbw.size _).grown hgrow (by simp; omega) (fun g hg => (hown.lt g hg).1)
          clear hown' hgrow hown
          go_wp2
          go_roundw
          case rel => exact ⟨u', true :: s, HU, by rw [HTS.out]; omega, HO.out, HB1.out⟩
          case measure => simp [lenOf]; omega
      | false =>
        rw [decide_eq_false (by rw [hm]; decide)] at HCo
        clear hm
        simp only [tsz] at hsz
        have HTR : Hid ((trow (false :: s)).map (Value.int .i64) = (trow s).map (Value.int .i64) ++ [.int .i64 (((tsz s : Nat) : Int) + 1), .int .i64 ((tsz s : Nat) : Int)]) := by show _ = _; simp [trow]
        have HTS : Hid (tsz (false :: s) = tsz s + 2) := by show _ = _; simp [tsz]
        generalize hS : tsz s = S' at *
        go_wp2_with fail
        refine HCo.out.mono ?_
        rintro e w' ⟨rfl, rfl⟩
        go_wp2_with (at_builtin; refine wpList_append_own _ rfl _ _ 22 rfl w.heap.size 3 i0 (.int .i64 0) 1 8 Try.underlying22 hi hz0 hz1 hz2 rfl (by decide) _ _ _ rfl (hown.alloc _) ⟨wr.heap.size, 0, none⟩ 2 2 [.int .i64 ((S' : Int) + 1), .int .i64 (S' : Int)] rfl rfl ?c1 ?c2 ?c3 ?c4 ?c5 ?_)
        case c1 => exact cell_two_new _ _ _ _
        case c2 => intro u hu; simp at hu; rcases hu with rfl | rfl <;> rfl
        case c3 => unfold maxLen; omega
        case c4 => omega
        case c5 => simp; omega
        · intro v' w1 hown' hgrow _
          obtain ⟨vp, vc, rfl⟩ := owns_slice hown'
          have HO : Hid (w1.ownsRow w.heap.size 3 1 (.slice vp (S' + 2) vc) (tsz (false :: s)) ((trow (false :: s)).map (Value.int .i64))) := by show World.ownsRow _ _ _ _ _ _ _; rw [HTS.out, HTR.out]; exact hown'
          have HB1 : Hid (Below w.heap.size w w1) := (hbw.alloc hbw.size _).grown hgrow (by simp; omega) (fun g hg => (hown.lt g hg).1)
          clear hown' hgrow hown
          go_wp2
          go_roundw
          case rel => exact ⟨u', false :: s, HU, by rw [HTS.out]; omega, HO.out, HB1.out⟩
          case measure => simp [lenOf]; omega
    · have hs : tsz s = n := by omega
      have hu : u = [] := til_whole (by rw [← hus.out, HT.out, hs]; exact Nat.le_refl _)
      have hts : t = s := by rw [hus.out, hu, List.nil_append]
      rw [hs] at hown ⊢
      have HOW : Hid (wr.ownsRow w.heap.size 3 1 (.slice op n oc) n ((trow t).map (Value.int .i64))) := by show World.ownsRow _ _ _ _ _ _ _; rw [hts]; exact hown
      clear hown hus hts hu hs hlt
      go_wp2
      go_ret
      exact ⟨_, rfl, HOW.out, hbw⟩

end Go.Proofs.Ythbhoohdniamaaa

/- Contract: Raw. -/
namespace Go.Proofs.Ythbhoohdniamaaa
open Go.RowKit

theorem wrap_I64 (x : Int) : I64 (wrap64 x) := by
  unfold I64 wrap64
  omega

set_option maxRecDepth 20000 in
set_option maxHeartbeats 400000 in
theorem raw_any (v : Value) (xs : List Int) (k : Nat) (w : World) (h : Ints w v xs) (hx : ∀ x, x ∈ xs → I64 x) (hk : k ≤ 1000000) :
    Calls Try.prog 18 #[v, .int .i64 k] w fun e w' => ∃ x, I64 x ∧ e = .returned (.int .i64 x) ∧ w = w' := by
  rcases h with ⟨rfl, p, c, rfl⟩ | ⟨b, off, cap, rfl, h0, hc, hm, hb, hcell⟩
  · go_enter Try.func18, Try.ntmps18
    go_wp2
    go_ret
    exact ⟨0, ⟨by omega, by omega⟩, rfl, rfl⟩
  · have hml : k % xs.length < xs.length := Nat.mod_lt _ h0
    have hme : (k : Int) % (xs.length : Int) = ((k % xs.length : Nat) : Int) := (Int.natCast_emod k xs.length).symm
    obtain ⟨x, hxe, hcx⟩ := cellAt hcell hml
    have hxm : I64 x := hx x (by rw [← hxe.out, List.getElem?_eq_getElem hml]; exact List.getElem_mem hml)
    have hne : ((xs.length : Int) == 0) = false := by rw [beq_eq_false_iff_ne]; omega
    generalize k % xs.length = m at *
    have HX := hide hx
    clear hcell hx hxe
    go_enter Try.func18, Try.ntmps18
    go_wp2
    go_ret
    exact ⟨x, hxm, rfl, rfl⟩

end Go.Proofs.Ythbhoohdniamaaa

/- Contracts: the answer's LeadsOf; call.checkLeads. -/
namespace Go.Proofs.Ythbhoohdniamaaa
open Go.RowKit

set_option maxRecDepth 20000 in
set_option maxHeartbeats 2000000 in
theorem leadsOf_ok (v : Value) (xs : List Int) (m k : Nat) (w : World) (h : Ints w v xs) (hx : ∀ x, x ∈ xs → I64 x) (hm : m ≤ 1000) (hk1 : 1 ≤ k) (hk2 : k ≤ 1000) :
    Calls Try.prog 9 #[v, .int .i64 m, .int .i64 k] w fun e w' => ∃ (u : Value) (ls : List Int), e = .returned u ∧ w'.ownsRow w.heap.size 3 1 u m (ls.map (Value.int .i64)) ∧ (∀ l, l ∈ ls → 0 ≤ l ∧ l < (k : Int)) ∧ Below w.heap.size w w' := by
  obtain ⟨i0, hi, hz0, hz1, hz2⟩ := info_parts Try.info3
  obtain ⟨p0, c0, rfl⟩ := h.form
  have HI := hide h
  have HX := hide hx
  clear h hx
  go_enter Try.func9, Try.ntmps9
  go_wp2
  go_loopw [7, 8] (fun u i wr => ∃ (j : Nat) (ls : List Int), j ≤ m ∧ i = .int .i64 j ∧ Hid (wr.ownsRow w.heap.size 3 1 u j (ls.map (Value.int .i64))) ∧ Hid (∀ l, l ∈ ls → 0 ≤ l ∧ l < (k : Int)) ∧ Below w.heap.size w wr) (fun _ i _ => m - (intOf i).toNat)
  case atStart => exact ⟨0, [], by omega, rfl, World.ownsRow_nil _ _ _ _, (fun l h => by cases h), Below.refl _ _⟩
  case round =>
    obtain ⟨j, ls, hj, rfl, hO, hL, hbw⟩ := hrel
    have hbs := hbw.size
    have hrow := hO.out
    obtain ⟨up, uc, rfl⟩ := owns_slice hrow
    by_cases hlt : j < m
    · have HRW := hide (raw_any _ xs j wr (HI.out.below hbw) HX.out (by omega))
      go_wp2_with fail
      refine HRW.out.mono ?_
      rintro e wa ⟨x, hxi, rfl, rfl⟩
      go_wp2_with fail
      refine (pick_any x (k : Int) _ hxi.1 hxi.2 (by omega) (by omega)).mono ?_
      rintro e wa ⟨q, hq0, hq1, rfl, rfl⟩
      go_wp2_with (at_builtin; refine wpList_append_own _ rfl _ _ 22 rfl w.heap.size 3 i0 (.int .i64 0) 1 8 Try.underlying22 hi hz0 hz1 hz2 rfl (by decide) _ _ _ rfl (hrow.alloc _) ⟨wr.heap.size, 0, none⟩ 1 1 [.int .i64 q] rfl rfl ?c1 ?c2 ?c3 ?c4 ?c5 ?_)
      case c1 => exact cell_one_new _ _ _
      case c2 => intro u hu; simp at hu; subst hu; rfl
      case c3 => unfold maxLen; omega
      case c4 => omega
      case c5 => simp; omega
      · intro v' w1 hown' hgrow _
        have HO : Hid (w1.ownsRow w.heap.size 3 1 v' (j + 1) ((ls ++ [q]).map (Value.int .i64))) := by show World.ownsRow _ _ _ _ _ _ _; rw [List.map_append]; exact hown'
        have HL2 : Hid (∀ l, l ∈ ls ++ [q] → 0 ≤ l ∧ l < (k : Int)) := fun l h => by
          rcases List.mem_append.1 h with h | h
          · exact hL.out l h
          · rw [List.mem_singleton] at h; rw [h]; exact ⟨hq0, hq1⟩
        have HB1 : Hid (Below w.heap.size w w1) := (hbw.alloc hbw.size _).grown hgrow (by simp; omega) (fun g hg => (hrow.lt g hg).1)
        clear hown' hgrow hrow hO
        go_wp2
        go_roundw
        case rel => exact ⟨j + 1, ls ++ [q], by omega, by go_num, HO, HL2, HB1.out⟩
        case measure => simp [intOf]; omega
    · obtain rfl : j = m := by omega
      go_wp2
      go_ret
      exact ⟨_, ls, rfl, hrow, hL.out, hbw⟩

set_option maxRecDepth 20000 in
set_option maxHeartbeats 2000000 in
theorem checkLeads_ok (cp : Option Addr) (cl cc : Nat) (v : Value) (ls : List Int) (w : World) (h : Ints w v ls) (hl1 : 1 ≤ ls.length) (hl2 : ls.length ≤ 400) (hin : ∀ l, l ∈ ls → 0 ≤ l ∧ l < (cl : Int)) :
    Calls Try.prog 66 #[.slice cp cl cc, v] w fun e w' => e = .returned (.int .i64 0) ∧ w = w' := by
  rcases h with ⟨rfl, _⟩ | ⟨b, off, cap, rfl, h0, hc, hm, hb, hcell⟩
  · simp at hl1
  have HIN := hide hin
  clear hin
  go_enter Try.func66, Try.ntmps66
  go_wp2
  go_loop [17] (fun i => ∃ k : Nat, k ≤ ls.length ∧ i = .int .i64 k) (fun i => ls.length - (intOf i).toNat)
  case atStart => exact ⟨0, by omega, rfl⟩
  case round =>
    obtain ⟨k, hk, rfl⟩ := hrel
    by_cases hlt : k < ls.length
    · obtain ⟨y, hy, hcx⟩ := cellAt hcell hlt
      have hym : y ∈ ls := by
        rw [← hy.out, List.getElem?_eq_getElem hlt, Option.getD_some]
        exact List.getElem_mem _
      obtain ⟨y1, y2⟩ := HIN.out y hym
      have hy3 : ¬ y < 0 := by omega
      have hy4 : ¬ y ≥ (cl : Int) := by omega
      clear hcell hy hym
      go_wp2
      go_round
      case rel => exact ⟨k + 1, by omega, by go_num⟩
      case measure => simp [intOf]; omega
    · clear hcell
      go_wp2
      go_ret
      exact ⟨rfl, rfl⟩

end Go.Proofs.Ythbhoohdniamaaa

/- Contract: ChangeOf. -/
namespace Go.Proofs.Ythbhoohdniamaaa
open Go.RowKit

set_option maxRecDepth 20000 in
set_option maxHeartbeats 2000000 in
theorem changeOf_ok (c : Int) (n : Nat) (w : World) (hc : I64 c) (h1 : 1 ≤ n) (h2 : n ≤ 12) :
    Calls Try.prog 17 #[.int .i64 c, .int .i64 n] w fun e w' => ∃ v t, e = .returned v ∧ tsz t = n ∧ w'.ownsRow w.heap.size 3 1 v (tpl t).length ((tpl t).map (Value.int .i64)) ∧ Below w.heap.size w w' := by
  obtain ⟨i0, hi, hz0, hz1, hz2⟩ := info_parts Try.info3
  obtain ⟨l0, u0⟩ := hc
  go_enter Try.func17, Try.ntmps17
  go_wp2_with fail
  refine (pick_any _ _ _ l0 u0 (by omega) (by omega)).mono ?_
  rintro e wa ⟨q0, hq0, hq1, rfl, rfl⟩
  clear l0 u0
  go_wp2
  go_loopw [0, 5, 6] (fun c v a wr => ∃ (q : Int) (t : List Bool), 0 ≤ q ∧ q < 1099511627776 ∧ tsz t ≤ n ∧ c = .int .i64 q ∧ a = .int .i64 ((tsz t + 1 : Nat) : Int) ∧ wr.ownsRow w.heap.size 3 1 v (tpl t).length ((tpl t).map (Value.int .i64)) ∧ Below w.heap.size w wr) (fun _ _ a _ => n + 1 - (intOf a).toNat)
  case atStart => exact ⟨q0, [], hq0, hq1, Nat.zero_le _, rfl, rfl, World.ownsRow_nil _ _ _ _, Below.refl _ _⟩
  case round =>
    obtain ⟨q, t, hq0, hq1, hts, rfl, rfl, hown, hbw⟩ := hrel
    have hbs := hbw.size
    have htl : (tpl t).length ≤ tsz t := by have := tpl_length t; omega
    by_cases hlt : tsz t + 1 ≤ n
    · have hq3 : 0 ≤ q / 3 := by omega
      have hq4 : q / 3 < 1099511627776 := by omega
      have HT1 : Hid (tpl (true :: t) = tpl t ++ [((tsz t + 1 : Nat) : Int)]) := rfl
      have HT2 : Hid (tsz (true :: t) = tsz t + 1) := rfl
      by_cases hc : q % 3 = 0 ∨ tsz t + 1 = n
      · have hstep : ∀ (W : World) (v' : Value), W.ownsRow w.heap.size 3 1 v' ((tpl t).length + 1) ((tpl t).map (Value.int .i64) ++ [Value.int .i64 ((tsz t + 1 : Nat) : Int)]) → W.ownsRow w.heap.size 3 1 v' (tpl (true :: t)).length ((tpl (true :: t)).map (Value.int .i64)) := by
          intro W v' h
          rw [HT1.out, List.length_append, List.map_append]
          exact h
        have HST := hide hstep
        clear hstep
        by_cases hc1 : q % 3 = 0
        · have hd1 : (q % 3 == 0) = true := by simpa using hc1
          clear hc hc1
          go_wp2_with (at_builtin; refine wpList_append_own _ rfl _ _ 22 rfl w.heap.size 3 i0 (.int .i64 0) 1 8 Try.underlying22 hi hz0 hz1 hz2 rfl (by decide) _ _ _ rfl (hown.alloc _) ⟨wr.heap.size, 0, none⟩ 1 1 [.int .i64 ((tsz t + 1 : Nat) : Int)] rfl rfl ?c1 ?c2 ?c3 ?c4 ?c5 ?_)
          case c1 => exact cell_one_new _ _ _
          case c2 => intro u hu; simp at hu; subst hu; rfl
          case c3 => unfold maxLen; omega
          case c4 => omega
          case c5 => simp; omega
          · intro v' w1 hown' hgrow _
            go_wp2
            go_roundw
            case rel => exact ⟨q / 3, true :: t, hq3, hq4, by rw [HT2.out]; omega, by go_num, by rw [HT2.out]; go_num, HST.out _ _ hown', (hbw.alloc hbw.size _).grown hgrow (by simp; omega) (fun g hg => (hown.lt g hg).1)⟩
            case measure => simp [intOf]; omega
        · have hd1 : (q % 3 == 0) = false := by simpa using hc1
          have hc2 : tsz t + 1 = n := by rcases hc with h | h; exact absurd h hc1; exact h
          have hd2 : (((tsz t + 1 : Nat) : Int) == (n : Int)) = true := by rw [hc2]; simp
          clear hc hc1 hc2
          go_wp2_with (at_builtin; refine wpList_append_own _ rfl _ _ 22 rfl w.heap.size 3 i0 (.int .i64 0) 1 8 Try.underlying22 hi hz0 hz1 hz2 rfl (by decide) _ _ _ rfl (hown.alloc _) ⟨wr.heap.size, 0, none⟩ 1 1 [.int .i64 ((tsz t + 1 : Nat) : Int)] rfl rfl ?c1 ?c2 ?c3 ?c4 ?c5 ?_)
          case c1 => exact cell_one_new _ _ _
          case c2 => intro u hu; simp at hu; subst hu; rfl
          case c3 => unfold maxLen; omega
          case c4 => omega
          case c5 => simp; omega
          · intro v' w1 hown' hgrow _
            go_wp2
            go_roundw
            case rel => exact ⟨q / 3, true :: t, hq3, hq4, by rw [HT2.out]; omega, by go_num, by rw [HT2.out]; go_num, HST.out _ _ hown', (hbw.alloc hbw.size _).grown hgrow (by simp; omega) (fun g hg => (hown.lt g hg).1)⟩
            case measure => simp [intOf]; omega
      · have hd1 : (q % 3 == 0) = false := by simp; omega
        have hd2 : (((tsz t + 1 : Nat) : Int) == (n : Int)) = false := by rw [beq_eq_false_iff_ne]; omega
        have hl2 : tsz t + 2 ≤ n := by omega
        have HT3 : Hid (tsz (false :: t) = tsz t + 2) := rfl
        clear hc
        go_wp2
        go_roundw
        case rel => exact ⟨q / 3, false :: t, hq3, hq4, by rw [HT3.out]; omega, by go_num, by rw [HT3.out]; go_num, hown, hbw⟩
        case measure => simp [intOf]; omega
    · go_wp2
      go_ret
      exact ⟨_, t, rfl, by omega, hown, hbw⟩

end Go.Proofs.Ythbhoohdniamaaa

/- The law TopExtent. -/
namespace Go.Proofs.Ythbhoohdniamaaa
open Go.RowKit

theorem blw_nI : ∀ x y : List Nat, blw (nI x) (nI y) = true ↔ Ltl x y
  | [], [] => by simp [nI, blw, Ltl]
  | [], _ :: _ => by simp [nI, blw, Ltl]
  | _ :: _, [] => by simp [nI, blw, Ltl]
  | a :: x, b :: y => by
    have ih := blw_nI x y
    show (if ((a : Nat) : Int) = ((b : Nat) : Int) then blw (nI x) (nI y) else decide (((a : Nat) : Int) < ((b : Nat) : Int))) = true ↔ (a < b ∨ (a = b ∧ Ltl x y))
    by_cases h : a = b
    · rw [if_pos (by rw [h]), ih]
      constructor
      · exact fun h2 => Or.inr ⟨h, h2⟩
      · rintro (h2 | h2)
        · omega
        · exact h2.2
    · rw [if_neg (by omega), decide_eq_true_iff]
      constructor
      · exact fun h2 => Or.inl (by omega)
      · rintro (h2 | h2)
        · omega
        · exact absurd h2.1 h

theorem good_low {nx : Nat → Nat → Nat} {K all : Nat} : ∀ (q ks : List Nat) (a : Nat), Good nx K all ks a q → ∀ k, k ∈ q → k < K
  | [], _, _, h => h.elim
  | k :: t, ks, a, h => by
    intro x hx
    unfold Good at h
    rcases List.mem_cons.1 hx with rfl | hx
    · exact h.1
    · rcases h.2 with ⟨rfl, _⟩ | ⟨_, h2⟩
      · cases hx
      · exact good_low t _ _ h2 x hx

theorem good_len {nx : Nat → Nat → Nat} {K all : Nat} : ∀ (q ks : List Nat) (a : Nat), Good nx K all ks a q → ks.length + q.length = all + 1
  | [], _, _, h => h.elim
  | k :: t, ks, a, h => by
    unfold Good at h
    rcases h.2 with ⟨rfl, _, h2⟩ | ⟨_, h2⟩
    · simp; omega
    · have := good_len t _ _ h2
      simp at this ⊢; omega

theorem ord_twice {x : List Int} (hr : isRow x) (h : by_ x x = rnd x.length) : ord x ≤ 2 := by
  have h2 : pw x 2 = rnd x.length := by
    have := pw_succ hr 1
    rw [pw_one hr, h] at this
    exact this.symm
  exact Nat.le_of_dvd (by omega) ((ord_pw hr 2).1 h2)

theorem trows_ok {n : Nat} {ts : List (List Bool)} (h : ∀ t, t ∈ ts → tsz t = n) : RowsN n (ts.map trow) ∧ ∀ x, x ∈ ts.map trow → ord x ≤ 2 := by
  constructor
  · intro x hx
    obtain ⟨t, ht, rfl⟩ := List.mem_map.1 hx
    exact ⟨trow_row t, by rw [trow_length, h t ht]⟩
  · intro x hx
    obtain ⟨t, ht, rfl⟩ := List.mem_map.1 hx
    exact ord_twice (trow_row t) (by rw [trow_twice, trow_length])

theorem nat_list : ∀ (ls : List Int) (K : Nat), (∀ l, l ∈ ls → 0 ≤ l ∧ l < (K : Int)) → ∃ q : List Nat, ls = nI q ∧ ∀ k, k ∈ q → k < K
  | [], _, _ => ⟨[], rfl, fun k hk => by cases hk⟩
  | l :: ls, K, h => by
    obtain ⟨q, hq, hk⟩ := nat_list ls K (fun x hx => h x (List.mem_cons_of_mem _ hx))
    have h1 := h l (by simp)
    obtain ⟨m, rfl⟩ := Int.eq_ofNat_of_zero_le h1.1
    refine ⟨m :: q, by rw [hq]; rfl, fun k hk' => ?_⟩
    rcases List.mem_cons.1 hk' with rfl | h2
    · have := h1.2; omega
    · exact hk k h2

set_option maxRecDepth 20000 in
set_option maxHeartbeats 400000 in
theorem topExtent_long (v : Value) (xs : List Int) (a1 a2 : Int) (v2 : Value) (ys : List Int) (w : World) (hi : Ints w v xs) (hi2 : Ints w v2 ys) (hs1 : xs.length ≤ 17592186044416) (hs2 : ys.length ≤ 17592186044416) (hl : 256 < xs.length + ys.length) :
    Calls Try.prog 5 #[v, .int .i64 a1, .int .i64 a2, v2] w fun e w' => e = .returned (.bool true) ∧ Below w.heap.size w w' := by
  obtain ⟨p, c, rfl⟩ := hi.form
  obtain ⟨p2, c2, rfl⟩ := hi2.form
  clear hi hi2
  go_enter Try.func5, Try.ntmps5
  go_wp2
  go_ret
  exact ⟨rfl, Below.refl _ _⟩

set_option maxRecDepth 100000 in
set_option maxHeartbeats 8000000 in
theorem topExtent_short (v : Value) (xs : List Int) (a1 a2 : Int) (v2 : Value) (ys : List Int) (w : World) (hin : Ints w v xs) (hin2 : Ints w v2 ys) (hx : ∀ x, x ∈ xs → I64 x) (hy : ∀ x, x ∈ ys → I64 x) (hl : xs.length + ys.length ≤ 256) (h1 : I64 a1) (h2 : I64 a2) :
    Calls Try.prog 5 #[v, .int .i64 a1, .int .i64 a2, v2] w fun e w' => e = .returned (.bool true) ∧ Below w.heap.size w w' := by
  obtain ⟨i0, hi, hz0, hz1, hz2⟩ := info_parts Try.info22
  obtain ⟨p0, c0, rfl⟩ := hin.form
  obtain ⟨p2, c2, rfl⟩ := hin2.form
  have HI := hide hin
  have HX := hide hx
  have HI2 := hide hin2
  have HY := hide hy
  obtain ⟨l1, u1⟩ := h1
  obtain ⟨l2, u2⟩ := h2
  clear hin hx hin2 hy
  obtain ⟨hm1, hm2⟩ := pk_range a2 (n := 4) (by omega)
  have HPK := hide (fun W => pick_det a2 4 W l2 u2 (by omega) (by omega))
  obtain ⟨M, hM⟩ := Int.eq_ofNat_of_zero_le hm1
  rw [hM] at HPK hm2
  clear hM hm1 l2 u2
  go_enter Try.func5, Try.ntmps5
  go_wp2_with fail
  refine (pick_any _ _ _ l1 u1 (by omega) (by omega)).mono ?_
  rintro e wa ⟨q, hq0, hq1, rfl, rfl⟩
  obtain ⟨m0, rfl⟩ := Int.eq_ofNat_of_zero_le hq0
  clear l1 u1 hq0
  go_upto_region 5 with fail
  rw [show (1 + (m0 : Int)) = ((m0 + 1 : Nat) : Int) from by omega]
  generalize hn : m0 + 1 = n
  have n1 : 1 ≤ n := by omega
  have n4 : n ≤ 4 := by omega
  clear hn hq1
  go_wp2_with fail
  go_loopw [9, 10] (fun u i wr => ∃ (k : Nat) (vs : List Value) (ts : List (List Bool)), k ≤ M ∧ i = .int .i64 k ∧ Hid (ts.length = k) ∧ Hid (vs.length = k) ∧ Hid (∀ t, t ∈ ts → tsz t = n) ∧ Hid (LL wr w.heap.size u vs (ts.map trow)) ∧ Below w.heap.size w wr) (fun _ i _ => M - (intOf i).toNat)
  case atStart => exact ⟨0, [], [], by omega, rfl, rfl, rfl, (fun t ht => by cases ht), LL.nil _ _, Below.refl _ _⟩
  case round =>
    obtain ⟨k, vs, ts, hk, rfl, hl1, hlv, hts, hL, hbw⟩ := hrel
    have hbs := hbw.size
    by_cases hlt : k < M
    · go_wp2_with fail
      refine (HPK.out _).mono ?_
      rintro e wa ⟨rfl, rfl⟩
      go_wp2_with fail
      refine (raw_any _ xs k wr (HI.out.below hbw) HX.out (by omega)).mono ?_
      rintro e wa ⟨x1, hx1, rfl, rfl⟩
      go_wp2_with fail
      refine (changeOf_ok x1 n _ hx1 n1 (by omega)).mono ?_
      rintro e w1 ⟨cu, t, rfl, ht, hcu, hb1⟩
      have HCR := hide (changeRow_ok t n cu w1 ht n1 (by omega) (Ints.own hcu))
      have HT := hide ht
      obtain ⟨cp, cc, rfl⟩ := owns_slice hcu
      clear hcu ht
      go_wp2_with fail
      refine HCR.out.mono ?_
      rintro e w2 ⟨ru, rfl, hru, hb2⟩
      have hb12 := hb1.trans (hb2.mono hb1.size)
      have hL1 := hL.out.below hb12
      have hrow1 := hL1.row
      have hou := owns_base hru (Nat.le_trans hbs hb1.size)
      obtain ⟨p, c, rfl⟩ := owns_slice hru
      have HOU := hide hou
      have HL1 := hide hL1
      have hb3 := hbw.trans (hb12.mono hbs)
      have hs1 := hb3.size
      rw [hlv.out] at hrow1
      have htl : (trow t).length = n := by rw [trow_length]; exact HT.out
      have HTL := hide htl
      clear hru hou hL1 hL hb1 hb2 hb12 hbw HCR htl
      go_wp2_with (at_builtin; refine wpList_append_own _ rfl _ _ 24 rfl w.heap.size 22 i0 (.slice none 0 0) 1 24 Try.underlying24 hi hz0 hz1 hz2 rfl (by decide) _ _ _ rfl (hrow1.alloc _) ⟨w2.heap.size, 0, none⟩ 1 1 [.slice p n c] rfl rfl ?c1 ?c2 ?c3 ?c4 ?c5 ?_)
      case c1 => exact cell_one_new _ _ _
      case c2 => intro u hu; simp at hu; subst hu; rfl
      case c3 => unfold maxLen; omega
      case c4 => omega
      case c5 => simp; omega
      intro v' w4 hown4 hgrow _
      have HL4 : Hid (LL w4 w.heap.size v' (vs ++ [.slice p n c]) ((ts ++ [t]).map trow)) := by
        show LL _ _ _ _ _
        rw [List.map_append]
        exact HL1.out.push (by rw [HTL.out]; exact HOU.out) (by rw [hlv.out]; exact hown4) hgrow
      have hB4 := HL1.out.step hb3 (Nat.le_refl _) hs1 hgrow
      have HLE : Hid ((ts ++ [t]).length = k + 1) := by show _ = _; rw [List.length_append, hl1.out]; rfl
      have HLV : Hid ((vs ++ [Value.slice p n c]).length = k + 1) := by show _ = _; rw [List.length_append, hlv.out]; rfl
      have HTS : Hid (∀ t', t' ∈ ts ++ [t] → tsz t' = n) := by
        intro t' ht'
        rcases List.mem_append.1 ht' with h | h
        · exact hts.out t' h
        · rw [List.mem_singleton.1 h]; exact HT.out
      clear hown4 hgrow hrow1
      go_wp2
      go_roundw
      case rel => exact ⟨k + 1, _, ts ++ [t], by omega, by go_num, HLE, HLV, HTS, HL4, hB4⟩
      case measure => simp [intOf]; omega
    · obtain rfl : k = M := by omega
      have hLi := hL.out.ints
      obtain ⟨up, uc, hue⟩ := hLi.len
      rw [List.length_map, hl1.out] at hue
      subst hue
      obtain ⟨hRN, hOR⟩ := trows_ok hts.out
      have hLl : (ts.map trow).length = k := by rw [List.length_map]; exact hl1.out
      have HCI := hide (circuit_ok n (.slice up k uc) (ts.map trow) wr n1 n4 hLi (by omega) hRN hOR)
      have HLI := hide hLi
      have HRN := hide hRN
      have HLL := hide hLl
      have hfc := fct_24 n4
      have hfp := fct_pos n
      clear hLi hRN hOR hLl hL hl1 hlv hts
      go_wp2_with fail
      refine (HPK.out _).mono ?_
      rintro e wa ⟨rfl, rfl⟩
      go_wp2_with fail
      refine HCI.out.mono ?_
      rintro e w3 ⟨hb3, (⟨q, pv, rfl, hpi, hg, hmin⟩ | ⟨rfl, hno⟩)⟩
      · have hB3 : Below w.heap.size w w3 := hbw.trans (hb3.mono hbs)
        have hqk := good_low q _ _ hg
        have hql := good_len q _ _ hg
        have hql2 : q.length = fct n := by simp at hql; omega
        have hq0 : q ≠ [] := by intro e; rw [e] at hql2; simp at hql2; omega
        have hk1 : 1 ≤ k := by
          cases q with
          | nil => exact absurd rfl hq0
          | cons x t => have := hqk x (by simp); rw [HLL.out] at this; omega
        have HRB : Hid ((rngb (nxc n (ts.map trow)) [] 0 q && decide (q.length = fct n)) = true) := by
          show _ = _
          rw [((rngb_good (N := fct n) q [] 0 hq0 hqk (by simp)).2 hg).1, decide_eq_true hql2]; rfl
        have HRG := hide (rings_ok n (.slice up k uc) pv (ts.map trow) q w3 n1 n4 (HLI.out.below hb3) HRN.out hpi hqk (by omega) (by rw [HLL.out]; omega))
        rw [HRB.out] at HRG
        obtain ⟨pp, pc, hpe⟩ := hpi.form
        rw [nI_len] at hpe
        subst hpe
        have HPI := hide hpi
        have HMIN := hide hmin
        have HGG := hide hg
        have HQL := hide hql2
        have ek : (((k : Nat) : Int) == 0) = false := by rw [beq_eq_false_iff_ne]; omega
        clear hpi hmin hg hql hql2 hq0 hqk HRB
        go_wp2_with fail
        refine HRG.out.mono ?_
        rintro e w5 ⟨rfl, hb5⟩
        have hB5 : Below w.heap.size w w5 := hB3.trans (hb5.mono hB3.size)
        have hb35 := hb3.trans (hb5.mono hb3.size)
        clear HRG
        go_wp2_with fail
        refine (factorial_any n _ (by omega)).mono ?_
        rintro e wa ⟨rfl, rfl⟩
        go_wp2_with fail
        refine (leadsOf_ok _ ys (fct n) k w5 (HI2.out.below hB5) HY.out (by omega) (by omega) (by omega)).mono ?_
        rintro e w6 ⟨gv, ls, rfl, hgo, hgl, hb6⟩
        obtain ⟨gq, rfl, hgk⟩ := nat_list ls k hgl
        have hgi := Ints.own hgo
        have hglen : gq.length = fct n := by have := hgo.1; simpa [nI] using this
        obtain ⟨gp, gc, rfl⟩ := owns_slice hgo
        have hB6 : Below w.heap.size w w6 := hB5.trans (hb6.mono hB5.size)
        have HRG2 := hide (rings_ok n (.slice up k uc) _ (ts.map trow) gq w6 n1 n4 ((HLI.out.below hb35).below hb6) HRN.out hgi (fun x hx => by rw [HLL.out]; exact hgk x hx) (by omega) (by rw [HLL.out]; omega))
        have HBE := hide (fun W (hW : Below w6.heap.size w6 W) => rbelow_any (.slice gp (fct n) gc) (.slice pp q.length pc) (nI gq) (nI q) W (hgi.below hW) ((HPI.out.below (hb5.trans (hb6.mono hb5.size))).below hW) (by rw [nI_len]; omega) (by rw [nI_len, HQL.out]; omega))
        have hgq0 : gq ≠ [] := by intro e; rw [e] at hglen; simp at hglen; omega
        by_cases hrg : (rngb (nxc n (ts.map trow)) [] 0 gq && decide (gq.length = fct n)) = true
        · have HGQ := (rngb_good (nx := nxc n (ts.map trow)) (K := (ts.map trow).length) (N := fct n) gq [] 0 hgq0 (fun x hx => by rw [HLL.out]; exact hgk x hx) (by simp)).1 ⟨(Bool.and_eq_true _ _ ▸ hrg : _ ∧ _).1, by simpa using hglen⟩
          have hnb : blw (nI gq) (nI q) = false := by
            cases hbb : blw (nI gq) (nI q) with
            | false => rfl
            | true => exact absurd ((blw_nI gq q).1 hbb) (HMIN.out gq HGQ)
          rw [hrg] at HRG2
          rw [hnb] at HBE
          clear hrg HGQ hnb hgo hgi hgl hgk hglen hgq0 hb6 hb5 hb35 hb3 hbw
          go_wp2_with fail
          refine HRG2.out.mono ?_
          rintro e w7 ⟨rfl, hb7⟩
          go_wp2_with fail
          refine (HBE.out w7 hb7).mono ?_
          rintro e w8 ⟨rfl, hb8⟩
          have hB8 : Below w.heap.size w w8 := (hB6.trans (hb7.mono hB6.size)).trans (hb8.mono (Nat.le_trans hB6.size hb7.size))
          clear hb7 hb8
          go_wp2
          go_ret
          exact ⟨rfl, hB8⟩
        · rw [Bool.eq_false_iff.2 hrg] at HRG2
          clear hrg hgo hgi hgl hgk hglen hgq0 hb6 hb5 hb35 hb3 hbw HBE
          go_wp2_with fail
          refine HRG2.out.mono ?_
          rintro e w7 ⟨rfl, hb7⟩
          have hB7 : Below w.heap.size w w7 := hB6.trans (hb7.mono hB6.size)
          clear hb7
          go_wp2
          go_ret
          exact ⟨rfl, hB7⟩
      · have hB3 : Below w.heap.size w w3 := hbw.trans (hb3.mono hbs)
        have HNO := hide hno
        clear hno HCI
        by_cases hk0 : k = 0
        · have ek : (((k : Nat) : Int) == 0) = true := by rw [hk0]; rfl
          clear hk0
          go_wp2
          go_ret
          exact ⟨rfl, hB3⟩
        have ek : (((k : Nat) : Int) == 0) = false := by rw [beq_eq_false_iff_ne]; omega
        go_wp2_with fail
        refine (factorial_any n _ (by omega)).mono ?_
        rintro e wa ⟨rfl, rfl⟩
        go_wp2_with fail
        refine (leadsOf_ok _ ys (fct n) k w3 (HI2.out.below hB3) HY.out (by omega) (by omega) (by omega)).mono ?_
        rintro e w6 ⟨gv, ls, rfl, hgo, hgl, hb6⟩
        obtain ⟨gq, rfl, hgk⟩ := nat_list ls k hgl
        have hgi := Ints.own hgo
        have hglen : gq.length = fct n := by have := hgo.1; simpa [nI] using this
        obtain ⟨gp, gc, rfl⟩ := owns_slice hgo
        have hB6 : Below w.heap.size w w6 := hB3.trans (hb6.mono hB3.size)
        have HRG2 := hide (rings_ok n (.slice up k uc) _ (ts.map trow) gq w6 n1 n4 ((HLI.out.below hb3).below hb6) HRN.out hgi (fun x hx => by rw [HLL.out]; exact hgk x hx) (by omega) (by rw [HLL.out]; omega))
        have hgq0 : gq ≠ [] := by intro e; rw [e] at hglen; simp at hglen; omega
        have hrg : (rngb (nxc n (ts.map trow)) [] 0 gq && decide (gq.length = fct n)) = false := by
          rw [Bool.eq_false_iff]
          intro hrg
          exact HNO.out gq ((rngb_good (nx := nxc n (ts.map trow)) (K := (ts.map trow).length) (N := fct n) gq [] 0 hgq0 (fun x hx => by rw [HLL.out]; exact hgk x hx) (by simp)).1 ⟨(Bool.and_eq_true _ _ ▸ hrg : _ ∧ _).1, by simpa using hglen⟩)
        rw [hrg] at HRG2
        clear hrg hgo hgi hgl hgk hglen hgq0 hb6 hb3 hbw
        go_wp2_with fail
        refine HRG2.out.mono ?_
        rintro e w7 ⟨rfl, hb7⟩
        have hB7 : Below w.heap.size w w7 := hB6.trans (hb7.mono hB6.size)
        clear hb7
        go_wp2
        go_ret
        exact ⟨rfl, hB7⟩

theorem topExtent_walk (v : Value) (xs : List Int) (a1 a2 : Int) (v2 : Value) (ys : List Int) (w : World) (hin : Ints w v xs) (hx : ∀ x, x ∈ xs → I64 x) (hs1 : xs.length ≤ 17592186044416) (h1 : I64 a1) (h2 : I64 a2) (hin2 : Ints w v2 ys) (hy : ∀ x, x ∈ ys → I64 x) (hs2 : ys.length ≤ 17592186044416) :
    Calls Try.prog 5 #[v, .int .i64 a1, .int .i64 a2, v2] w fun e w' => e = .returned (.bool true) ∧ Below w.heap.size w w' := by
  by_cases hl : 256 < xs.length + ys.length
  · exact topExtent_long v xs a1 a2 v2 ys w hin hin2 hs1 hs2 hl
  · exact topExtent_short v xs a1 a2 v2 ys w hin hin2 hx hy (by omega) h1 h2

end Go.Proofs.Ythbhoohdniamaaa
