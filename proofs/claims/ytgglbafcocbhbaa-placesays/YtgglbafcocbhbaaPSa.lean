/- Contracts: the answer's isIn and ChangeRow; Check, ChangeMay at every number; Row where it refuses. -/
import Derived.Test.YtgglbafcocbhbaaChRow
import Derived.Test.YtgglbafcocbhbaaChMay
namespace Go.Proofs.Ytgglbafcocbhbaa
open Go.RowKit

/-- What Check says at every number of bells. -/
def pc (n : Int) (ps : List Int) : Int := if 1 ≤ n ∧ n ≤ 12 then pck n ps else 1

theorem pc_range (n : Int) (ps : List Int) : pc n ps = 0 ∨ pc n ps = 1 ∨ pc n ps = 6 := by
  unfold pc
  split
  · rcases pck_range n ps with h | h <;> simp [h]
  · simp

theorem pcheck_all (n : Int) (v : Value) (ps : List Int) (w : World) (i1 : Ints w v ps) :
    Calls Try.prog 33 #[.int .i64 n, v] w fun e w' => e = .returned (.int .i64 (pc n ps)) ∧ w = w' := by
  by_cases h : 1 ≤ n ∧ n ≤ 12
  · unfold pc
    rw [if_pos h]
    exact pcheck_any n v ps w h.1 h.2 i1
  · unfold pc
    rw [if_neg h]
    exact pcheck_count n v w (by omega)

set_option maxRecDepth 20000 in
set_option maxHeartbeats 1000000 in
theorem changeMay_count (n : Int) (v : Value) (w : World) (h : n < 1 ∨ 12 < n) :
    Calls Try.prog 32 #[.int .i64 n, v] w fun e w' => e = .returned (.int .i64 1) ∧ w = w' := by
  rcases h with h | h
  · go_enter Try.func32, Try.ntmps32
    go_wp2
    go_ret
    exact ⟨rfl, rfl⟩
  · have h1 : ¬ n < 1 := by omega
    go_enter Try.func32, Try.ntmps32
    go_wp2
    go_ret
    exact ⟨rfl, rfl⟩

theorem changeMay_all (n : Int) (v : Value) (ps : List Int) (w : World) (i1 : Ints w v ps) :
    Calls Try.prog 32 #[.int .i64 n, v] w fun e w' => e = .returned (.int .i64 (pc n ps)) ∧ w = w' := by
  by_cases h : 1 ≤ n ∧ n ≤ 12
  · unfold pc
    rw [if_pos h]
    exact changeMay_any n v ps w h.1 h.2 i1
  · unfold pc
    rw [if_neg h]
    exact changeMay_count n v w (by omega)

set_option maxRecDepth 20000 in
set_option maxHeartbeats 1000000 in
theorem prow_no (n : Int) (v : Value) (ps : List Int) (w : World) (i1 : Ints w v ps) (h : pc n ps ≠ 0) :
    Calls Try.prog 34 #[.int .i64 n, v] w fun e w' => e = .returned (.tuple #[.slice none 0 0, .int .i64 (pc n ps)]) ∧ w = w' := by
  have HC := hide (pcheck_all n v ps w i1)
  have hr := pc_range n ps
  clear i1
  generalize pc n ps = z at *
  have hz : z = 1 ∨ z = 6 := by omega
  clear hr h
  rcases hz with rfl | rfl
  · go_enter Try.func34, Try.ntmps34
    go_wp2_with fail
    refine HC.out.mono ?_
    rintro e w' ⟨rfl, rfl⟩
    go_wp2
    go_ret2
    exact ⟨rfl, rfl⟩
  · go_enter Try.func34, Try.ntmps34
    go_wp2_with fail
    refine HC.out.mono ?_
    rintro e w' ⟨rfl, rfl⟩
    go_wp2
    go_ret2
    exact ⟨rfl, rfl⟩

set_option maxRecDepth 20000 in
set_option maxHeartbeats 1000000 in
theorem isIn_any (v : Value) (xs : List Int) (x : Int) (w : World) (h : Ints w v xs) :
    Calls Try.prog 58 #[v, .int .i64 x] w fun e w' => e = .returned (.bool (decide (x ∈ xs))) ∧ w = w' := by
  rcases h with ⟨rfl, p, c, rfl⟩ | ⟨b, off, cap, rfl, h0, hc, hm, hb, hcell⟩
  · go_enter Try.func58, Try.ntmps58
    go_wp2
    go_loop [5] (fun i => i = .int .i64 0) (fun _ => 0)
    case atStart => rfl
    case round =>
      subst hrel
      go_wp2
      go_ret
      exact ⟨by simp, rfl⟩
  · go_enter Try.func58, Try.ntmps58
    go_wp2
    go_loop [5] (fun i => ∃ k : Nat, k ≤ xs.length ∧ i = .int .i64 k ∧ Hid (x ∈ xs ↔ x ∈ xs.drop k)) (fun i => xs.length - (intOf i).toNat)
    case atStart => exact ⟨0, by omega, rfl, Iff.rfl⟩
    case round =>
      obtain ⟨k, hk, rfl, hi⟩ := hrel
      by_cases hlt : k < xs.length
      · obtain ⟨y, hy, hcx⟩ := cellAt hcell hlt
        have HD : Hid (x ∈ xs ↔ x = y ∨ x ∈ xs.drop (k + 1)) := by show _ ↔ _; rw [hi.out, drop_cons xs hlt, hy.out, List.mem_cons]
        clear hcell hi
        by_cases hxy : y = x
        · have hp : Hid (decide (x ∈ xs) = true) := decide_eq_true (HD.out.2 (Or.inl hxy.symm))
          subst hxy
          clear HD
          go_wp2
          go_ret
          exact ⟨ret_bool hp.out.symm, rfl⟩
        · have hp : Hid (x ∈ xs ↔ x ∈ xs.drop (k + 1)) := HD.out.trans ⟨fun h => h.resolve_left (fun e => hxy e.symm), Or.inr⟩
          have hne : (y == x) = false := by simpa using hxy
          clear hxy HD
          go_wp2
          go_round
          case rel => exact ⟨k + 1, by omega, by go_num, hp⟩
          case measure => simp [intOf]; omega
      · have hp : Hid (decide (x ∈ xs) = false) := by show _ = _; rw [decide_eq_false_iff_not, hi.out, List.drop_of_length_le (by omega)]; simp
        clear hcell hi
        go_wp2
        go_ret
        exact ⟨ret_bool hp.out.symm, rfl⟩

theorem cell_two_new (w : World) (x y : Value) (e : TypeId) : ∀ j u, [x, y][j]? = some u → (w.alloc (.cells #[x, y] e)).cell? ((⟨w.heap.size, 0, none⟩ : Addr).add j) = some u := by
  intro j u hj
  have h9 := heap_alloc_new w (.cells #[x, y] e)
  rw [Addr.add_lit]
  match j, hj with
  | 0, hj => simp at hj; subst hj; unfold World.cell?; simp only [h9]; rfl
  | 1, hj => simp at hj; subst hj; unfold World.cell?; simp only [h9]; rfl

def lenOf : Value → Nat
  | .slice _ l _ => l
  | _ => 0

set_option maxRecDepth 20000 in
set_option maxHeartbeats 4000000 in
theorem changeRow_ok (t : List Bool) (n : Nat) (v : Value) (w : World) (hn : tsz t = n) (h1 : 1 ≤ n) (h2 : n ≤ 12) (i1 : Ints w v (tpl t)) :
    Calls Try.prog 35 #[.int .i64 n, v] w fun e w' => ∃ v', e = .returned v' ∧ w'.ownsRow w.heap.size 3 1 v' n ((trow t).map (Value.int .i64)) ∧ Below w.heap.size w w' := by
  obtain ⟨i0, hi, hz0, hz1, hz2⟩ := info_parts Try.info3
  have HI := hide i1
  have HT := hide hn
  clear i1 hn
  go_enter Try.func35, Try.ntmps35
  go_wp2
  go_loopw [5] (fun o wr => ∃ (u s : List Bool), Hid (t = u ++ s) ∧ tsz s ≤ n ∧ wr.ownsRow w.heap.size 3 1 o (tsz s) ((trow s).map (Value.int .i64)) ∧ Below w.heap.size w wr) (fun o _ => n - lenOf o)
  case atStart => exact ⟨t, [], by show _ = _; simp, Nat.zero_le _, World.ownsRow_nil _ _ _ _, Below.refl _ _⟩
  case round =>
    obtain ⟨u, s, hus, hsn, hown, hbw⟩ := hrel
    obtain ⟨op, oc, rfl⟩ := owns_slice hown
    have hbs := hbw.size
    by_cases hlt : tsz s < n
    · obtain ⟨u', b, hu, hus'⟩ := til_next (u := u) (s := s) (by rw [← hus.out, HT.out]; exact hlt)
      have HU : Hid (t = u' ++ b :: s) := by show _ = _; rw [hus.out, hus']
      have HCo := hide (isIn_any v (tpl t) ((tsz s : Nat) + 1) wr (HI.out.below hbw))
      have hm := mem_next u' s b
      rw [← HU.out] at hm
      have hsz : tsz (b :: s) ≤ n := by have := tsz_mono (b :: s) u'; rw [← HU.out, HT.out] at this; exact this
      clear hu hus' hus
      cases b with
      | true =>
        rw [decide_eq_true (hm.2 rfl)] at HCo
        clear hm
        simp only [tsz] at hsz
        have HTR : Hid ((trow (true :: s)).map (Value.int .i64) = (trow s).map (Value.int .i64) ++ [.int .i64 ((tsz s : Nat) : Int)]) := by show _ = _; simp [trow]
        have HTS : Hid (tsz (true :: s) = tsz s + 1) := by show _ = _; simp [tsz]
        generalize hS : tsz s = S' at *
        go_wp2_with fail
        refine HCo.out.mono ?_
        rintro e w' ⟨rfl, rfl⟩
        go_wp2_with (at_builtin; refine wpList_append_own _ rfl _ _ 22 rfl w.heap.size 3 i0 (.int .i64 0) 1 8 Try.underlying22 hi hz0 hz1 hz2 rfl (by decide) _ _ _ rfl (hown.alloc _) ⟨wr.heap.size, 0, none⟩ 1 1 [.int .i64 (S' : Int)] rfl rfl ?c1 ?c2 ?c3 ?c4 ?c5 ?_)
        case c1 => exact cell_one_new _ _ _
        case c2 => intro u hu; simp at hu; subst hu; rfl
        case c3 => unfold maxLen; omega
        case c4 => omega
        case c5 => simp; omega
        · intro v' w1 hown' hgrow _
          obtain ⟨vp, vc, rfl⟩ := owns_slice hown'
          have HO : Hid (w1.ownsRow w.heap.size 3 1 (.slice vp (S' + 1) vc) (tsz (true :: s)) ((trow (true :: s)).map (Value.int .i64))) := by show World.ownsRow _ _ _ _ _ _ _; rw [HTS.out, HTR.out]; exact hown'
          have HB1 : Hid (Below w.heap.size w w1) := (hbw.alloc hbw.size _).grown hgrow (by simp; omega) (fun g hg => (hown.lt g hg).1)
          clear hown' hgrow hown
          go_wp2
          go_roundw
          case rel => exact ⟨u', true :: s, HU, by rw [HTS.out]; omega, HO.out, HB1.out⟩
          case measure => simp [lenOf]; omega
      | false =>
        rw [decide_eq_false (by rw [hm]; decide)] at HCo
        clear hm
        simp only [tsz] at hsz
        have HTR : Hid ((trow (false :: s)).map (Value.int .i64) = (trow s).map (Value.int .i64) ++ [.int .i64 (((tsz s : Nat) : Int) + 1), .int .i64 ((tsz s : Nat) : Int)]) := by show _ = _; simp [trow]
        have HTS : Hid (tsz (false :: s) = tsz s + 2) := by show _ = _; simp [tsz]
        generalize hS : tsz s = S' at *
        go_wp2_with fail
        refine HCo.out.mono ?_
        rintro e w' ⟨rfl, rfl⟩
        go_wp2_with (at_builtin; refine wpList_append_own _ rfl _ _ 22 rfl w.heap.size 3 i0 (.int .i64 0) 1 8 Try.underlying22 hi hz0 hz1 hz2 rfl (by decide) _ _ _ rfl (hown.alloc _) ⟨wr.heap.size, 0, none⟩ 2 2 [.int .i64 ((S' : Int) + 1), .int .i64 (S' : Int)] rfl rfl ?c1 ?c2 ?c3 ?c4 ?c5 ?_)
        case c1 => exact cell_two_new _ _ _ _
        case c2 => intro u hu; simp at hu; rcases hu with rfl | rfl <;> rfl
        case c3 => unfold maxLen; omega
        case c4 => omega
        case c5 => simp; omega
        · intro v' w1 hown' hgrow _
          obtain ⟨vp, vc, rfl⟩ := owns_slice hown'
          have HO : Hid (w1.ownsRow w.heap.size 3 1 (.slice vp (S' + 2) vc) (tsz (false :: s)) ((trow (false :: s)).map (Value.int .i64))) := by show World.ownsRow _ _ _ _ _ _ _; rw [HTS.out, HTR.out]; exact hown'
          have HB1 : Hid (Below w.heap.size w w1) := (hbw.alloc hbw.size _).grown hgrow (by simp; omega) (fun g hg => (hown.lt g hg).1)
          clear hown' hgrow hown
          go_wp2
          go_roundw
          case rel => exact ⟨u', false :: s, HU, by rw [HTS.out]; omega, HO.out, HB1.out⟩
          case measure => simp [lenOf]; omega
    · have hs : tsz s = n := by omega
      have hu : u = [] := til_whole (by rw [← hus.out, HT.out, hs]; exact Nat.le_refl _)
      have hts : t = s := by rw [hus.out, hu, List.nil_append]
      rw [hs] at hown ⊢
      have HOW : Hid (wr.ownsRow w.heap.size 3 1 (.slice op n oc) n ((trow t).map (Value.int .i64))) := by show World.ownsRow _ _ _ _ _ _ _; rw [hts]; exact hown
      clear hown hus hts hu hs hlt
      go_wp2
      go_ret
      exact ⟨_, rfl, HOW.out, hbw⟩

end Go.Proofs.Ytgglbafcocbhbaa
