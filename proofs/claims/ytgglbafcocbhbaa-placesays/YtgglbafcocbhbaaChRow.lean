/- Contracts: place.Row, ChangeOf. -/
import Derived.Test.YtgglbafcocbhbaaChng
namespace Go.Proofs.Ytgglbafcocbhbaa
open Go.RowKit

/-- A row that is changed up to a tile. -/
def Upto (n : Nat) (s : List Bool) (zs : List Int) : Prop := zs.length = n ∧ ∀ j, j < n → zs.getD j 0 = if j < tsz s then (trow s).getD j 0 else (j : Int)

theorem upto_start (n : Nat) : Upto n [] (rnd n) := ⟨rnd_length n, fun j hj => by rw [rnd_get hj, if_neg (by simp [tsz])]⟩

theorem upto_end {n : Nat} {t : List Bool} {zs : List Int} (h : Upto n t zs) (ht : tsz t = n) : zs = trow t :=
  ext_getD (by rw [h.1, trow_length, ht]) (fun j hj => by rw [h.2 j (by rw [← h.1]; exact hj), if_pos (by rw [ht, ← h.1]; exact hj)])

theorem trow_get_old {b : Bool} {s : List Bool} {j : Nat} (h : j < tsz s) : (trow (b :: s)).getD j 0 = (trow s).getD j 0 := by
  have hl : j < (trow s).length := by rw [trow_length]; exact h
  cases b <;> simp only [trow, List.getD] <;> rw [List.getElem?_append_left hl]

theorem trow_get_one (s : List Bool) : (trow (true :: s)).getD (tsz s) 0 = (tsz s : Nat) := by
  simp only [trow, List.getD]; rw [List.getElem?_append_right (by rw [trow_length]; omega), trow_length, Nat.sub_self]; rfl

theorem trow_get_fst (s : List Bool) : (trow (false :: s)).getD (tsz s) 0 = ((tsz s + 1 : Nat) : Int) := by
  simp only [trow, List.getD]; rw [List.getElem?_append_right (by rw [trow_length]; omega), trow_length, Nat.sub_self]; rfl

theorem trow_get_snd (s : List Bool) : (trow (false :: s)).getD (tsz s + 1) 0 = (tsz s : Nat) := by
  simp only [trow, List.getD]; rw [List.getElem?_append_right (by rw [trow_length]; omega), trow_length, show tsz s + 1 - tsz s = 1 from by omega]; rfl

theorem upto_one {n : Nat} {s : List Bool} {zs : List Int} (h : Upto n s zs) : Upto n (true :: s) zs := by
  have e : tsz (true :: s) = tsz s + 1 := rfl
  refine ⟨h.1, fun j hj => ?_⟩
  rw [h.2 j hj]
  by_cases h1 : j < tsz s
  · rw [if_pos h1, if_pos (by omega), trow_get_old h1]
  · by_cases h2 : j = tsz s
    · subst h2; rw [if_neg h1, if_pos (by omega), trow_get_one]
    · rw [if_neg h1, if_neg (by omega)]

theorem upto_two {n : Nat} {s : List Bool} {zs : List Int} (h : Upto n s zs) (hn : tsz s + 2 ≤ n) : Upto n (false :: s) ((zs.set (tsz s) ((tsz s + 1 : Nat) : Int)).set (tsz s + 1) (tsz s : Nat)) := by
  have e : tsz (false :: s) = tsz s + 2 := rfl
  refine ⟨by simp [h.1], fun j hj => ?_⟩
  rw [getD_set (by simp [h.1]; omega), getD_set (by rw [h.1]; omega), h.2 j hj]
  by_cases h1 : tsz s + 1 = j
  · subst h1; rw [if_pos rfl, if_pos (by omega), trow_get_snd]
  · rw [if_neg h1]
    by_cases h2 : tsz s = j
    · subst h2; rw [if_pos rfl, if_pos (by omega), trow_get_fst]
    · rw [if_neg h2]
      by_cases h3 : j < tsz s
      · rw [if_pos h3, if_pos (by omega), trow_get_old h3]
      · rw [if_neg h3, if_neg (by omega)]

theorem upto_at {n : Nat} {s : List Bool} {zs : List Int} (h : Upto n s zs) {j : Nat} (hj : j < n) (hs : tsz s ≤ j) : zs[j]?.getD 0 = (j : Int) := by
  have := h.2 j hj
  rw [if_neg (by omega)] at this
  exact this

set_option maxHeartbeats 4000000 in
theorem prow_ok (t : List Bool) (n : Nat) (v : Value) (w : World) (hn : tsz t = n) (h1 : 1 ≤ n) (h2 : n ≤ 12) (i1 : Ints w v (tpl t)) :
    Calls Try.prog 34 #[.int .i64 n, v] w fun e w' => ∃ v', e = .returned (.tuple #[v', .int .i64 0]) ∧ w'.ownsRow w.heap.size 3 1 v' n ((trow t).map (Value.int .i64)) ∧ Below w.heap.size w w' := by
  have HC := hide (pcheck_any n v (tpl t) w (by omega) (by omega) i1)
  rw [pck_til hn] at HC
  have HI := hide i1
  have HT := hide hn
  clear i1 hn
  go_enter Try.func34, Try.ntmps34
  go_wp2_with fail
  refine HC.out.mono ?_
  rintro e w' ⟨rfl, rfl⟩
  clear HC
  go_wp2_with fail
  refine (rounds_ok n w h1 h2).mono ?_
  rintro e w0 ⟨v', rfl, hown0, hb0⟩
  obtain ⟨g, cap, rfl, hg1, hg2, hcap, hcap2⟩ := owns_form hown0 h1
  go_wp2
  go_loopw [9] (fun i wr => ∃ (u s : List Bool) (zs : List Int), Hid (t = u ++ s) ∧ Hid (Upto n s zs) ∧ tsz s ≤ n ∧ i = .int .i64 (tsz s : Nat) ∧ wr.ownsRow w.heap.size 3 1 (.slice (some ⟨g, 0, none⟩) n cap) n (zs.map (Value.int .i64)) ∧ Below w.heap.size w wr) (fun i _ => n - (intOf i).toNat)
  case atStart => exact ⟨t, [], rnd n, by show _ = _; simp, upto_start n, Nat.zero_le _, rfl, hown0, hb0⟩
  case round =>
    obtain ⟨u, s, zs, hus, hup, hsn, rfl, hown, hbw⟩ := hrel
    clear hown0 hb0
    by_cases hlt : tsz s < n
    · obtain ⟨u', b, hu, hus'⟩ := til_next (u := u) (s := s) (by rw [← hus.out, HT.out]; exact hlt)
      have HU : Hid (t = u' ++ b :: s) := by show _ = _; rw [hus.out, hus']
      have HCo := hide (contains_any v (tpl t) ((tsz s : Nat) + 1) wr (HI.out.below hbw))
      have hm := mem_next u' s b
      rw [← HU.out] at hm
      have hsz : tsz (b :: s) ≤ n := by have := tsz_mono (b :: s) u'; rw [← HU.out, HT.out] at this; exact this
      clear hu hus' hus
      cases b with
      | true =>
        rw [decide_eq_true (hm.2 rfl)] at HCo
        have HZ := hide (upto_one hup.out)
        clear hm hup
        simp only [tsz] at hsz
        go_wp2_with fail
        refine HCo.out.mono ?_
        rintro e w' ⟨rfl, rfl⟩
        go_wp2
        go_roundw
        case rel => exact ⟨u', true :: s, zs, HU, HZ, hsz, by simp only [tsz]; go_num, hown, hbw⟩
        case measure => simp [intOf]; omega
      | false =>
        rw [decide_eq_false (by rw [hm]; decide)] at HCo
        simp only [tsz] at hsz
        have HZ := hide (upto_two hup.out hsz)
        have hl1 : tsz s < n := by omega
        have hl2 : tsz s + 1 < n := by omega
        obtain ⟨y, hy, hcx, hfx⟩ := owns_cellAt hown hl1
        obtain ⟨z, hz, hcz, hfz⟩ := owns_cellAt hown hl2
        have hyv : y = ((tsz s : Nat) : Int) := by rw [← hy.out]; exact upto_at hup.out hl1 (Nat.le_refl _)
        have hzv : z = ((tsz s + 1 : Nat) : Int) := by rw [← hz.out]; exact upto_at hup.out hl2 (by omega)
        clear hm hup hy hz
        have hown1 := owns_set_int (m := tsz s) hown z
        have hown2 := owns_set_int (m := tsz s + 1) hown1 y
        rw [hzv, hyv] at hown2
        have HOW := hide hown2
        generalize hS : tsz s = S' at *
        subst hyv hzv
        clear hown1 hown2
        go_wp2_with fail
        refine HCo.out.mono ?_
        rintro e w' ⟨rfl, rfl⟩
        go_wp2
        go_region
        all_goals
          go_wp2
          go_roundw
          case rel => exact ⟨u', false :: s, _, HU, HZ, by simp only [tsz]; omega, by simp only [tsz]; go_num, HOW.out, ((hbw.setCell (p := ⟨g, S', none⟩) hg1 _).setCell (p := ⟨g, S' + 1, none⟩) hg1 _).drew⟩
          case measure => simp [intOf]; omega
    · have hs : tsz s = n := by omega
      have hu : u = [] := til_whole (by rw [← hus.out, HT.out, hs]; exact Nat.le_refl _)
      have hts : t = s := by rw [hus.out, hu, List.nil_append]
      have hzt : zs = trow t := by rw [hts]; exact upto_end hup.out hs
      have HOW := hide hown
      rw [hzt] at HOW
      clear hown hup hus hzt hts hu
      go_wp2
      go_ret2
      exact ⟨_, rfl, HOW.out, hbw⟩

end Go.Proofs.Ytgglbafcocbhbaa
