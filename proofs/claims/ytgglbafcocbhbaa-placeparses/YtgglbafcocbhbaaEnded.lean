/- Contract: the answer's ended. (Written by mkended.py.) -/
import Derived.Test.YtgglbafcocbhbaaChMay
import Derived.Test.YtgglbafcocbhbaaMach
import Derived.Test.YtgglbafcocbhbaaRd3
import Derived.Test.YtgglbafcocbhbaaAppM
namespace Go.Proofs.Ytgglbafcocbhbaa
open Go.RowKit

/-- Each greater than the one ahead. -/
def rises (l : List Int) : Prop := ∀ j, j + 1 < l.length → l.getD j 0 < l.getD (j + 1) 0

theorem okc_rises (n : Int) : ∀ (ps : List Int) (last : Int), okc n last ps = true → (∀ x, ps.head? = some x → last < x) ∧ rises ps
  | [], _, _ => ⟨fun _ h => by simp at h, fun j h => by simp at h⟩
  | p :: ps, last, h => by
    unfold okc at h
    rw [Bool.and_eq_true, decide_eq_true_iff] at h
    obtain ⟨⟨h1, _, _⟩, h2⟩ := h
    obtain ⟨ih1, ih2⟩ := okc_rises n ps p h2
    refine ⟨fun x hx => by simp at hx; omega, fun j hj => ?_⟩
    match j with
    | 0 =>
      cases ps with
      | nil => simp at hj
      | cons q qs => exact ih1 q rfl
    | j + 1 => exact ih2 j (by simpa using hj)

theorem rises_tail {a : Int} {l : List Int} (h : rises (a :: l)) : rises l := fun j hj => h (j + 1) (by simpa using hj)

theorem rises_init {a : Int} {l : List Int} (h : rises (l ++ [a])) : rises l := fun j hj => by
  have := h j (by simp; omega)
  simpa [List.getElem?_append_left (show j < l.length by omega), List.getElem?_append_left (show j + 1 < l.length by omega), List.getD_eq_getElem?_getD] using this

theorem fill_rises {n : Int} {l : List Int} (h : okc n 0 (fill2 n (fill1 l)) = true) : rises l := by
  have h1 := (okc_rises n _ _ h).2
  have h2 : rises (fill1 l) := by
    unfold fill2 at h1
    split at h1
    · exact rises_init h1
    · exact h1
  unfold fill1 at h2
  split at h2
  · exact rises_tail h2
  · exact h2

theorem fill_falls {n : Int} {l : List Int} {j : Nat} {p q : Int} (hj : j + 1 < l.length) (hp : l.getD j 0 = p) (hq : l.getD (j + 1) 0 = q) (h : q ≤ p) : pck n (fill2 n (fill1 l)) = 6 := by
  unfold pck
  rw [if_neg]
  intro hok
  have := fill_rises hok j hj
  omega

def EndedPost (n : Int) (D : Nat) (l : List Int) (w : World) (e : Ending) (w' : World) : Prop :=
  Below D w w' ∧ ∃ x, e = .returned (.tuple #[x, .int .i64 (pck n (fill2 n (fill1 l)))]) ∧ (pck n (fill2 n (fill1 l)) = 0 → w'.ownsRow D 3 1 x (fill2 n (fill1 l)).length ((fill2 n (fill1 l)).map (Value.int .i64)))

set_option maxRecDepth 20000 in
set_option maxHeartbeats 8000000 in
theorem ended_any (n : Int) (D : Nat) (l : List Int) (v : Value) (w : World) (hn1 : 1 ≤ n) (hn2 : n ≤ 12) (hown : w.ownsRow D 3 1 v l.length (l.map (Value.int .i64))) (hD : D ≤ w.heap.size) (hpos : 1 ≤ l.length) (hl : l.length ≤ 5000) (hop : ∀ x ∈ l, 1 ≤ x ∧ x ≤ 12) :
    Calls Try.prog 55 #[.int .i64 n, v] w fun e w' => EndedPost n D l w e w' := by
  obtain ⟨j0, hj, hq0, hq1, hq2⟩ := info_parts Try.info3
  obtain ⟨g, cap, rfl, hg1, hg2, hcap1, hcap2⟩ := owns_form hown hpos
  have HO := hide hown
  have HOP := hide hop
  clear hown hop
  go_enter Try.func55, Try.ntmps55
  go_wp2
  go_loopw [6] (fun i wr => ∃ j : Nat, j + 1 ≤ l.length ∧ i = .int .i64 ((j : Int) + 1) ∧ Below w.heap.size w wr) (fun i _ => l.length - (intOf i).toNat)
  case atStart => exact ⟨0, by omega, rfl, Below.refl _ _⟩
  case round =>
    obtain ⟨j, hjl, rfl, hbw⟩ := hrel
    have hbs := hbw.size
    have hown := owns_below HO.out hbw (Nat.le_refl _)
    by_cases hlt : j + 1 < l.length
    · obtain ⟨p, hp, hcp, _⟩ := owns_cellAt hown (show j < l.length by omega)
      obtain ⟨q, hq, hcq, _⟩ := owns_cellAt hown hlt
      have hi1 : ((j : Int) + 1).toNat = j + 1 := by omega
      by_cases hqp : q ≤ p
      · have HZ : Hid (pck n (fill2 n (fill1 l)) = 6) := fill_falls hlt hp.out hq.out hqp
        clear hown hp hq
        go_wp2
        go_region
        all_goals
          go_wp2
          go_ret2
          exact ⟨by first | exact hbw.mono hD | exact hbw.drew.mono hD | exact hbw.drew.drew.mono hD, _, by rw [HZ.out]; rfl, fun h => by rw [HZ.out] at h; exact absurd h (by decide)⟩
      · clear hown hp hq
        go_wp2
        go_region
        all_goals
          go_wp2
          go_roundw
          case rel => exact ⟨j + 1, by omega, by first | rfl | go_num, by first | exact hbw | exact hbw.drew | exact hbw.drew.drew⟩
          case measure => simp [intOf]; omega
    · obtain ⟨y0, hy0, hc0, _⟩ := owns_cellAt hown hpos
      have ⟨hyr0, hyr1⟩ : 1 ≤ y0 ∧ y0 ≤ 12 := by
        rw [← hy0.out]
        refine HOP.out _ ?_
        rw [List.getElem?_eq_getElem (by omega : 0 < l.length)]
        exact List.getElem_mem _
      have hhd : l.headD 0 = y0 := by rw [head_get l hpos]; exact hy0.out
      have hB0 : Below D w wr := hbw.mono hD
      have HOW := hide hown
      have hDr : D ≤ wr.heap.size := by omega
      clear hy0 hbw hown
      by_cases hev : y0 % 2 = 0
      · have hf1 : Hid (fill1 l = 1 :: l) := by show _ = _; unfold fill1; rw [hhd, if_pos hev]
        have hd0 : (y0 % 2 == 0) = true := by simpa using hev
        have HFR := hide (fill1_range HOP.out)
        rw [hf1.out] at HFR
        clear hev hhd
        have hnew : (wr.alloc (.cells #[.int .i64 1] 3)).ownsRow D 3 1 (.slice (some ⟨wr.heap.size, 0, none⟩) 1 1) 1 ([(1 : Int)].map (Value.int .i64)) := World.ownsRow_lit wr #[.int .i64 1] 1 hDr (by unfold maxLen; omega) rfl
        have hsrc := HOW.out.alloc (.cells #[.int .i64 1] 3)
        have h1c : ∀ u ∈ l.map (Value.int .i64), u.oneCell' = true := by
          intro u hu
          obtain ⟨z, _, rfl⟩ := List.mem_map.1 hu
          rfl
        go_wp2_with (at_builtin; refine wpList_append_more rfl _ _ 22 rfl D D 3 j0 (.int .i64 0) 8 Try.underlying22 hj hq0 hq1 hq2 rfl _ _ _ rfl hnew _ _ _ rfl hsrc h1c ?c3 ?c4 ?c5 ?_)
        case c3 => unfold maxLen; omega
        case c4 => omega
        case c5 => simp; omega
        intro v1 w1 hown1 hgr1
        have hB1 : Below D w w1 := (hB0.alloc hDr _).grown hgr1 (by simp; omega) (fun k hk => by have : wr.heap.size = k := Option.some.inj hk; omega)
        have hD1 : D ≤ w1.heap.size := by have := hgr1.size; simp at this; omega
        have hown1 : w1.ownsRow D 3 1 v1 (l.length + 1) (((1 : Int) :: l).map (Value.int .i64)) := by rw [Nat.add_comm]; exact hown1
        generalize hl1 : (1 : Int) :: l = l1 at *
        have hlen : l1.length = l.length + 1 := by rw [← hl1]; rfl
        rw [← hlen] at hown1
        have hM1 : 1 ≤ l1.length := by omega
        have hM5 : l1.length ≤ 5001 := by omega
        obtain ⟨g1, cap1, rfl, hga, hgb, hgc, hgd⟩ := owns_form hown1 hM1
        clear hlen hl1 hgr1 hnew hsrc h1c hc0 HOW HO HOP hB0 hDr
        obtain ⟨y, hy, hcy, _⟩ := owns_cellAt hown1 (show l1.length - 1 < l1.length by omega)
        have hyr : 1 ≤ y ∧ y ≤ 12 := by
          rw [← hy.out]
          refine HFR.out _ ?_
          rw [List.getElem?_eq_getElem (by omega)]
          exact List.getElem_mem _
        have hyl : l1.getLastD 0 = y := by rw [last_get l1 hM1]; exact hy.out
        have hmi : ((l1.length : Nat) : Int) - 1 = ((l1.length - 1 : Nat) : Int) := by omega
        clear hy
        generalize hmq : l1.length - 1 = mq at *
        have hmq2 : mq < l1.length := by omega
        clear hmq
        have HOW1 := hide hown1
        by_cases hc : y < n ∧ (n - y) % 2 = 1
        · obtain ⟨hlt1, hodd⟩ := hc
          have HF2 : Hid (fill2 n l1 = l1 ++ [n]) := by show _ = _; unfold fill2; rw [hyl, if_pos ⟨hlt1, hodd⟩]
          have hcell1 : ∀ j u, [Value.int .i64 n][j]? = some u → (w1.alloc (.cells #[.int .i64 n] 3)).cell? ((⟨w1.heap.size, 0, none⟩ : Addr).add j) = some u := cell_one_new _ _ _
          clear hyl
          go_wp2_with (at_builtin; refine wpList_append_own _ rfl _ _ 22 rfl D 3 j0 (.int .i64 0) 1 8 Try.underlying22 hj hq0 hq1 hq2 rfl (by decide) _ _ _ rfl (hown1.alloc _) ⟨w1.heap.size, 0, none⟩ 1 1 [.int .i64 n] rfl rfl ?d1 ?d2 ?d3 ?d4 ?d5 ?_)
          case d1 => exact hcell1
          case d2 => intro u hu; simp at hu; subst hu; rfl
          case d3 => unfold maxLen; omega
          case d4 => omega
          case d5 => simp; omega
          intro v5 w5 hown5 hgr5 _
          have hB5 : Below D w w5 := (hB1.alloc hD1 _).grown hgr5 (by simp; omega) (fun k hk => (hown1.lt k hk).1)
          have hown6 : w5.ownsRow D 3 1 v5 (l1 ++ [n]).length ((l1 ++ [n]).map (Value.int .i64)) := by
            rw [List.length_append, List.map_append]; exact hown5
          clear hown5 hgr5
          obtain ⟨vp, vc, hve⟩ := owns_slice hown6
          have HEQ : Hid (fill2 n (fill1 l) = l1 ++ [n]) := by show _ = _; rw [hf1.out, HF2.out]
          have HC := hide (changeMay_any n _ _ w5 hn1 hn2 (Ints.own hown6))
          have HPOST : Hid (∀ e, e = Ending.returned (.tuple #[v5, .int .i64 (pck n (l1 ++ [n]))]) → EndedPost n D l w e w5) := by
            intro e he
            subst he
            refine ⟨hB5, _, by rw [HEQ.out], fun _ => ?_⟩
            rw [HEQ.out]
            exact hown6
          have HVE : Hid True := trivial
          clear hown6 hB5 HF2 HEQ hown1 HOW1 HVE
          generalize pck n (l1 ++ [n]) = z at *
          generalize (l1 ++ [n]).length = ln at *
          subst hve
          go_wp2_with fail
          refine HC.out.mono ?_
          rintro e w' ⟨rfl, rfl⟩
          go_wp2
          go_ret2
          exact HPOST.out _ rfl
        · have HF2 : Hid (fill2 n l1 = l1) := by show _ = _; unfold fill2; rw [hyl, if_neg hc]
          clear hyl
          have HEQ : Hid (fill2 n (fill1 l) = l1) := by show _ = _; rw [hf1.out, HF2.out]
          have HC := hide (changeMay_any n _ _ w1 hn1 hn2 (Ints.own HOW1.out))
          have HPOST : Hid (∀ e, e = Ending.returned (.tuple #[Value.slice (some ⟨g1, 0, none⟩) l1.length cap1, .int .i64 (pck n (l1))]) → EndedPost n D l w e w1) := by
            intro e he
            subst he
            refine ⟨hB1, _, by rw [HEQ.out], fun _ => ?_⟩
            rw [HEQ.out]
            exact HOW1.out
          clear HF2 HEQ hown1 HOW1
          generalize pck n l1 = z at *
          by_cases hlt1 : y < n
          · have hodd : ((n - y) % 2 == 1) = false := by rw [beq_eq_false_iff_ne]; omega
            clear hc
            go_wp2_with fail
            refine HC.out.mono ?_
            rintro e w' ⟨rfl, rfl⟩
            go_wp2
            go_ret2
            exact HPOST.out _ rfl
          · clear hc
            go_wp2_with fail
            refine HC.out.mono ?_
            rintro e w' ⟨rfl, rfl⟩
            go_wp2
            go_ret2
            exact HPOST.out _ rfl
      · have hf1 : Hid (fill1 l = l) := by show _ = _; unfold fill1; rw [hhd, if_neg hev]
        have hd0 : (y0 % 2 == 0) = false := by simpa using hev
        have HFR := hide (fill1_range HOP.out)
        rw [hf1.out] at HFR
        clear hev hhd
        have hown1 := HOW.out
        have hB1 := hB0
        have hD1 := hDr
        have hM5 : l.length ≤ 5001 := by omega
        have hM1 := hpos
        obtain ⟨y, hy, hcy, _⟩ := owns_cellAt hown1 (show l.length - 1 < l.length by omega)
        have hyr : 1 ≤ y ∧ y ≤ 12 := by
          rw [← hy.out]
          refine HFR.out _ ?_
          rw [List.getElem?_eq_getElem (by omega)]
          exact List.getElem_mem _
        have hyl : l.getLastD 0 = y := by rw [last_get l hM1]; exact hy.out
        have hmi : ((l.length : Nat) : Int) - 1 = ((l.length - 1 : Nat) : Int) := by omega
        clear hy
        generalize hmq : l.length - 1 = mq at *
        have hmq2 : mq < l.length := by omega
        clear hmq
        have HOW1 := hide hown1
        by_cases hc : y < n ∧ (n - y) % 2 = 1
        · obtain ⟨hlt1, hodd⟩ := hc
          have HF2 : Hid (fill2 n l = l ++ [n]) := by show _ = _; unfold fill2; rw [hyl, if_pos ⟨hlt1, hodd⟩]
          have hcell1 : ∀ j u, [Value.int .i64 n][j]? = some u → (wr.alloc (.cells #[.int .i64 n] 3)).cell? ((⟨wr.heap.size, 0, none⟩ : Addr).add j) = some u := cell_one_new _ _ _
          clear hyl
          go_wp2_with (at_builtin; refine wpList_append_own _ rfl _ _ 22 rfl D 3 j0 (.int .i64 0) 1 8 Try.underlying22 hj hq0 hq1 hq2 rfl (by decide) _ _ _ rfl (hown1.alloc _) ⟨wr.heap.size, 0, none⟩ 1 1 [.int .i64 n] rfl rfl ?d1 ?d2 ?d3 ?d4 ?d5 ?_)
          case d1 => exact hcell1
          case d2 => intro u hu; simp at hu; subst hu; rfl
          case d3 => unfold maxLen; omega
          case d4 => omega
          case d5 => simp; omega
          intro v5 w5 hown5 hgr5 _
          have hB5 : Below D w w5 := (hB1.alloc hD1 _).grown hgr5 (by simp; omega) (fun k hk => (hown1.lt k hk).1)
          have hown6 : w5.ownsRow D 3 1 v5 (l ++ [n]).length ((l ++ [n]).map (Value.int .i64)) := by
            rw [List.length_append, List.map_append]; exact hown5
          clear hown5 hgr5
          obtain ⟨vp, vc, hve⟩ := owns_slice hown6
          have HEQ : Hid (fill2 n (fill1 l) = l ++ [n]) := by show _ = _; rw [hf1.out, HF2.out]
          have HC := hide (changeMay_any n _ _ w5 hn1 hn2 (Ints.own hown6))
          have HPOST : Hid (∀ e, e = Ending.returned (.tuple #[v5, .int .i64 (pck n (l ++ [n]))]) → EndedPost n D l w e w5) := by
            intro e he
            subst he
            refine ⟨hB5, _, by rw [HEQ.out], fun _ => ?_⟩
            rw [HEQ.out]
            exact hown6
          have HVE : Hid True := trivial
          clear hown6 hB5 HF2 HEQ hown1 HOW1 HVE
          generalize pck n (l ++ [n]) = z at *
          generalize (l ++ [n]).length = ln at *
          subst hve
          go_wp2_with fail
          refine HC.out.mono ?_
          rintro e w' ⟨rfl, rfl⟩
          go_wp2
          go_ret2
          exact HPOST.out _ rfl
        · have HF2 : Hid (fill2 n l = l) := by show _ = _; unfold fill2; rw [hyl, if_neg hc]
          clear hyl
          have HEQ : Hid (fill2 n (fill1 l) = l) := by show _ = _; rw [hf1.out, HF2.out]
          have HC := hide (changeMay_any n _ _ wr hn1 hn2 (Ints.own HOW1.out))
          have HPOST : Hid (∀ e, e = Ending.returned (.tuple #[Value.slice (some ⟨g, 0, none⟩) l.length cap, .int .i64 (pck n (l))]) → EndedPost n D l w e wr) := by
            intro e he
            subst he
            refine ⟨hB1, _, by rw [HEQ.out], fun _ => ?_⟩
            rw [HEQ.out]
            exact HOW1.out
          clear HF2 HEQ hown1 HOW1
          generalize pck n l = z at *
          by_cases hlt1 : y < n
          · have hodd : ((n - y) % 2 == 1) = false := by rw [beq_eq_false_iff_ne]; omega
            clear hc
            go_wp2_with fail
            refine HC.out.mono ?_
            rintro e w' ⟨rfl, rfl⟩
            go_wp2
            go_ret2
            exact HPOST.out _ rfl
          · clear hc
            go_wp2_with fail
            refine HC.out.mono ?_
            rintro e w' ⟨rfl, rfl⟩
            go_wp2
            go_ret2
            exact HPOST.out _ rfl

end Go.Proofs.Ytgglbafcocbhbaa
