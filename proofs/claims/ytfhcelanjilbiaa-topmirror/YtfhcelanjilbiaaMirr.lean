/- Contracts: slices.Equal, method.Mirrored. -/
import Derived.Test.YtfhcelanjilbiaaLead
namespace Go.Proofs.Ytfhcelanjilbiaa
open Go.RowKit

set_option maxHeartbeats 800000 in
theorem equal_any (v1 v2 : Value) (xs ys : List Int) (w : World) (h1 : Ints w v1 xs) (h2 : Ints w v2 ys) :
    Calls Try.prog 71 #[v1, v2] w fun e w' => e = .returned (.bool (decide (xs = ys))) ∧ Below w.heap.size w w' := by
  by_cases hlen : xs.length = ys.length
  · rcases h1 with ⟨rfl, p, c, rfl⟩ | ⟨b, off, cap, rfl, h0, hc, hm, hb, hcell⟩
    · obtain rfl : ys = [] := List.length_eq_zero_iff.1 (by simpa using hlen.symm)
      obtain ⟨p2, c2, rfl⟩ := h2.form
      clear h2
      go_enter Try.func71, Try.ntmps71
      go_wp2
      go_loop [13] (fun i => i = .int .i64 0) (fun _ => 0)
      case atStart => rfl
      case round =>
        subst hrel
        go_wp2
        go_ret
        exact ⟨rfl, Below.refl _ _⟩
    · rcases h2 with ⟨rfl, p, c, rfl⟩ | ⟨b2, off2, cap2, rfl, h02, hc2, hm2, hb2, hcell2⟩
      · simp at hlen; subst hlen; simp at h0
      · have hl : (((xs.length : Nat) : Int) != ((ys.length : Nat) : Int)) = false := by rw [hlen]; simp
        have HL : Hid (xs.length = ys.length) := hlen
        clear hlen
        go_enter Try.func71, Try.ntmps71
        go_wp2
        go_loopw [13] (fun i wr => ∃ k : Nat, k ≤ xs.length ∧ i = .int .i64 k ∧ Hid (xs.take k = ys.take k) ∧ Below w.heap.size w wr) (fun i _ => xs.length - (intOf i).toNat)
        case atStart => exact ⟨0, by omega, rfl, by simp [Hid], Below.refl _ _⟩
        case round =>
          obtain ⟨k, hk, rfl, ht, hbw⟩ := hrel
          by_cases hlt : k < xs.length
          · have hlt2 : k < ys.length := by have := HL.out; omega
            obtain ⟨x, hx, hcx⟩ := cellAt hcell hlt
            obtain ⟨y, hy, hcy⟩ := cellAt hcell2 hlt2
            have gx : wr.cell? ⟨b, off + k, none⟩ = some (.int .i64 x) := (hbw.cell (by exact hb)).trans hcx
            have gy : wr.cell? ⟨b2, off2 + k, none⟩ = some (.int .i64 y) := (hbw.cell (by exact hb2)).trans hcy
            clear hcx hcy hcell hcell2
            by_cases hxy : x = y
            · subst hxy
              go_wp2
              go_region
              all_goals
                go_wp2
                go_roundw
                case rel => exact ⟨k + 1, by omega, by go_num, take_eq_snoc ht.out hlt hlt2 (by rw [hx.out, hy.out]), by first | exact hbw | exact hbw.drew | exact hbw.drew.drew⟩
                case measure => simp [intOf]; omega
            · have hne : (x != y) = true := by simpa using hxy
              have HXY : Hid (¬ x = y) := hxy
              clear hxy
              go_wp2
              go_region
              all_goals
                go_wp2
                go_ret
                refine ⟨ret_bool ?_, by first | exact hbw | exact hbw.drew | exact hbw.drew.drew⟩
                symm
                rw [decide_eq_false_iff_not]
                intro e
                exact HXY.out (by rw [← hx.out, ← hy.out, e])
          · clear hcell hcell2
            go_wp2
            go_ret
            refine ⟨ret_bool ?_, hbw⟩
            symm
            rw [decide_eq_true_iff]
            have h3 := ht.out
            have h4 := HL.out
            rwa [List.take_of_length_le (by omega), List.take_of_length_le (by omega)] at h3
  · obtain ⟨p1, c1, rfl⟩ := h1.form
    obtain ⟨p2, c2, rfl⟩ := h2.form
    have hl : (((xs.length : Nat) : Int) != ((ys.length : Nat) : Int)) = true := by rw [bne_iff_ne]; omega
    have hd : decide (xs = ys) = false := by rw [decide_eq_false_iff_not]; intro e; exact hlen (by rw [e])
    clear hlen h1 h2
    go_enter Try.func71, Try.ntmps71
    go_wp2
    go_ret
    exact ⟨ret_bool hd.symm, Below.refl _ _⟩

/-- Are lists, but for the last one, the same from the back? -/
def Mir (css : List (List Int)) : Prop := ∀ i, i < css.length - 1 → css.getD i [] = css.getD (css.length - 2 - i) []

theorem ret_b0 {a b : Bool} (h : a = b) : Ending.returned (.tuple #[.bool a, .int .i64 0]) = .returned (.tuple #[.bool b, .int .i64 0]) := by rw [h]

set_option maxRecDepth 20000 in
set_option maxHeartbeats 4000000 in
theorem mirrored_ok (s : ByteArray) (n : Nat) (v : Value) (css : List (List Int)) (w : World) (hs : s.size ≤ 9223372036854775807) (hn : nm s = true) (h1 : 2 ≤ n) (h2 : n ≤ 12) (hl1 : 1 ≤ css.length) (hl2 : css.length ≤ 200) (hv : IntsAll w v css)
    (hok : ∀ k, k < css.length → okc n 0 (css.getD k []) = true) :
    Calls Try.prog 45 #[meth s n v] w fun e w' => ∃ b : Bool, (b = true ↔ Mir css) ∧ e = .returned (.tuple #[.bool b, .int .i64 0]) ∧ Below w.heap.size w w' := by
  have HC := hide (fun W (hb : Below w.heap.size w W) => mcheck_ok s n v css W hs hn h1 h2 hl1 hl2 (hv.below hb) hok)
  obtain ⟨b, off, cap, hve, hbl, hc1, hc2, hcell⟩ := hv.cell (by omega)
  subst hve
  have HCE := hide hcell
  clear hn hv hcell hok
  unfold meth at HC ⊢
  go_enter Try.func45, Try.ntmps45
  go_wp2_with fail
  refine (HC.out _ ((Below.refl _ _).alloc (Nat.le_refl _) _)).mono ?_
  rintro e w1 ⟨rfl, hb1⟩
  have hB : Below w.heap.size w w1 := ((Below.refl _ _).alloc (Nat.le_refl _) _).trans (hb1.mono (by simp))
  have hx := (Box.start w s n (.slice (some ⟨b, off, none⟩) css.length cap) 66).below hb1
  have g2 := hx.c2
  clear hb1 HC hx
  obtain ⟨L, hL⟩ : ∃ L, css.length = L + 1 := ⟨css.length - 1, by omega⟩
  have HL := hide hL
  rw [hL] at g2 HCE hc1 hl2
  clear hL
  go_wp2_with fail
  go_loopw [22] (fun i wr => ∃ k : Nat, k ≤ L ∧ i = .int .i64 k ∧ Hid (∀ j, j < k → css.getD j [] = css.getD (L - 1 - j) []) ∧ Below w1.heap.size w1 wr) (fun i _ => L - (intOf i).toNat)
  case atStart => exact ⟨0, by omega, rfl, (fun j hj => by omega), Below.refl _ _⟩
  case round =>
    obtain ⟨k, hk, rfl, hall, hbw⟩ := hrel
    have hB2 := hB.trans (hbw.mono hB.size)
    clear g2
    by_cases hlt : k < L
    · obtain ⟨p1, c1, hcx, hix⟩ := HCE.out k (by omega)
      obtain ⟨p2, c2, hcy, hiy⟩ := HCE.out (L - 1 - k) (by omega)
      have gx := (hB2.cell (p := ⟨b, off + k, none⟩) (by exact hbl)).trans hcx
      have gy := (hB2.cell (p := ⟨b, off + (L - 1 - k), none⟩) (by exact hbl)).trans hcy
      have HE := hide (equal_any _ _ _ _ wr (hix.out.below hB2) (hiy.out.below hB2))
      have hme : (L : Int) - 1 - (k : Int) = ((L - 1 - k : Nat) : Int) := by omega
      have hmL : L - 1 - k < L := by omega
      have HST : Hid (css.getD k [] = css.getD (L - 1 - k) [] → ∀ j, j < k + 1 → css.getD j [] = css.getD (L - 1 - j) []) := by
        intro he j hj
        by_cases e : j = k
        · subst e; exact he
        · exact hall.out j (by omega)
      have HNO : Hid (¬ css.getD k [] = css.getD (L - 1 - k) [] → ¬ Mir css) := by
        intro he hm
        have := hm k (by rw [HL.out]; omega)
        rw [HL.out] at this
        exact he (by rw [this]; congr 1)
      generalize L - 1 - k = m at *
      generalize css.getD k [] = X at *
      generalize css.getD m [] = Y at *
      generalize hXl : X.length = XL at *
      generalize hYl : Y.length = YL at *
      clear hcx hcy hix hiy hXl hYl
      by_cases hxy : X = Y
      · rw [decide_eq_true hxy] at HE
        have HS2 := hide (HST.out hxy)
        clear hxy HST HNO
        go_wp2_with fail
        refine HE.out.mono ?_
        rintro e w2 ⟨rfl, hb2⟩
        have hB3 := hbw.trans (hb2.mono hbw.size)
        clear hb2 HE
        go_wp2
        go_roundw
        case rel => exact ⟨k + 1, by omega, by go_num, HS2, hB3⟩
        case measure => simp [intOf]; omega
      · rw [decide_eq_false hxy] at HE
        have HS2 := hide (HNO.out hxy)
        clear hxy HST HNO
        go_wp2_with fail
        refine HE.out.mono ?_
        rintro e w2 ⟨rfl, hb2⟩
        have hB3 := hB2.trans (hb2.mono hB2.size)
        clear hb2 HE
        go_wp2
        go_ret2
        exact ⟨false, ⟨fun h => (by cases h), fun h => absurd h HS2.out⟩, rfl, hB3⟩
    · obtain rfl : L = k := by omega
      have HM : Hid (Mir css) := by
        intro i hi
        rw [HL.out] at hi ⊢
        have := hall.out i (by omega)
        rw [this]
        congr 1
      go_wp2
      go_ret2
      exact ⟨true, ⟨fun _ => HM.out, fun _ => rfl⟩, rfl, hB2⟩

end Go.Proofs.Ytfhcelanjilbiaa
