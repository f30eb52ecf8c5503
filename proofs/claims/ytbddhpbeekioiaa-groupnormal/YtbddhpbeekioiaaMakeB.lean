/- Contracts: Check and Make, where n and how many there are may be. -/
import Derived.Test.YtbddhpbeekioiaaMake
namespace Go.Proofs.Ytbddhpbeekioiaa
open Go.RowKit

/-- What Check says of rows. -/
def gchk (n : Nat) : List (List Int) → Int
  | [] => 0
  | x :: t => if rchk n x = 0 then gchk n t else rchk n x

theorem gchk_drop {n k : Nat} {xss : List (List Int)} (hk : k < xss.length) : gchk n (xss.drop k) = if rchk n (xss.getD k []) = 0 then gchk n (xss.drop (k + 1)) else rchk n (xss.getD k []) := by
  rw [List.drop_eq_getElem_cons hk]
  simp only [List.getD, List.getElem?_eq_getElem hk, Option.getD_some]
  rfl

set_option maxRecDepth 20000 in
set_option maxHeartbeats 2000000 in
theorem gcheck_ok (n : Nat) (v : Value) (xss : List (List Int)) (w : World) (h : IntsAll w v xss) (h1 : 1 ≤ n) (h12 : n ≤ 12) (h8 : xss.length ≤ 8) :
    Calls Try.prog 34 #[.int .i64 n, v] w fun e w' => e = .returned (.int .i64 (gchk n xss)) ∧ Below w.heap.size w w' := by
  obtain ⟨vs, hv, hl, he⟩ := h
  have hn1 : ¬ ((n : Int) < 1) := by omega
  have hn2 : ¬ ((n : Int) > 12) := by omega
  rcases hv with ⟨rfl, p, c, rfl⟩ | ⟨b, off, cap, rfl, h0, hc, hm, hb, hcell⟩
  · obtain rfl : xss = [] := List.length_eq_zero_iff.1 (by simpa using hl.symm)
    clear he hl
    go_enter Try.func34, Try.ntmps34
    go_wp2
    go_loop [21] (fun i => i = .int .i64 0) (fun _ => 0)
    case atStart => rfl
    case round =>
      subst hrel
      go_wp2
      go_ret
      exact ⟨rfl, Below.refl _ _⟩
  · have hv8 : (vs.length : Int) ≤ 8 := by omega
    have HL := hide hl
    have HE := hide he
    have HC := hide hcell
    clear hl he hcell
    go_enter Try.func34, Try.ntmps34
    go_wp2
    go_loopw [21] (fun i wr => ∃ k : Nat, k ≤ vs.length ∧ i = .int .i64 k ∧ Hid (gchk n (xss.drop k) = gchk n xss) ∧ Below w.heap.size w wr) (fun i _ => vs.length - (intOf i).toNat)
    case atStart => exact ⟨0, by omega, rfl, rfl, Below.refl _ _⟩
    case round =>
      obtain ⟨k, hk, rfl, ht, hbw⟩ := hrel
      by_cases hlt : k < vs.length
      · have hkx : k < xss.length := by have := HL.out; omega
        obtain ⟨p1, c1, hcx, hix⟩ := elAt HC.out hlt (HE.out k hkx)
        have gx : wr.cell? ⟨b, off + k, none⟩ = some (.slice p1 (xss.getD k []).length c1) := (hbw.cell (by exact hb)).trans hcx
        have HS := hide (checkRow_any n _ _ wr (hix.out.below hbw))
        have HD := hide (gchk_drop (n := n) hkx)
        rw [ht.out] at HD
        generalize xss.getD k [] = X at *
        generalize X.length = lx at *
        clear hcx hix
        go_wp2_with fail
        refine HS.out.mono ?_
        rintro e w1 ⟨rfl, hb1⟩
        have hB1 : Below w.heap.size w w1 := hbw.trans (hb1.mono hbw.size)
        by_cases hz : rchk n X = 0
        · have HD' : Hid (gchk n (xss.drop (k + 1)) = gchk n xss) := by have := HD.out; rw [if_pos hz] at this; exact this.symm
          rw [hz]
          clear HD HS hz
          go_wp2
          go_roundw
          case rel => exact ⟨k + 1, by omega, by go_num, HD', hB1⟩
          case measure => simp [intOf]; omega
        · have HD' : Hid (gchk n xss = rchk n X) := by have := HD.out; rw [if_neg hz] at this; exact this
          have hne : (rchk n X != 0) = true := by rw [bne_iff_ne]; exact hz
          clear HD HS hz
          generalize rchk n X = z at *
          go_wp2
          go_ret
          exact ⟨ret_int HD'.out.symm, hB1⟩
      · have HE0 : Hid (gchk n xss = 0) := by show _ = _; rw [← ht.out, List.drop_eq_nil_of_le (by have := HL.out; omega)]; rfl
        go_wp2
        go_ret
        exact ⟨ret_int HE0.out.symm, hbw⟩

/-- Rows of n bells. -/
def RowsN (n : Nat) (xss : List (List Int)) : Prop := ∀ x, x ∈ xss → isRow x ∧ x.length = n

theorem gchk_rows {n : Nat} {xss : List (List Int)} (h1 : 1 ≤ n) (h12 : n ≤ 12) (h : RowsN n xss) : gchk n xss = 0 := by
  induction xss with
  | nil => rfl
  | cons x t ih =>
    have hx := h x (by simp)
    have e : rchk n x = 0 := by unfold rchk; rw [if_pos (chk_ok (by omega) (by omega) hx.1), if_pos hx.2]
    show (if rchk n x = 0 then gchk n t else rchk n x) = 0
    rw [if_pos e]
    exact ih (fun y hy => h y (by simp [hy]))

set_option maxRecDepth 20000 in
set_option maxHeartbeats 2000000 in
theorem make_ok (n : Nat) (v : Value) (xss : List (List Int)) (w : World) (h : IntsAll w v xss) (h1 : 1 ≤ n) (h12 : n ≤ 12) (h8 : xss.length ≤ 8) (hr : RowsN n xss) :
    Calls Try.prog 32 #[.int .i64 n, v] w fun e w' => ∃ u, e = .returned (.tuple #[u, .int .i64 0]) ∧ GroupAt w' u n (xss.map pad) ∧ Below w.heap.size w w' := by
  obtain ⟨i0, hi, hz0, hz1, hz2⟩ := info_parts Try.info92
  have HK := hide (gcheck_ok n v xss w h h1 h12 h8)
  rw [gchk_rows h1 h12 hr] at HK
  have HA := hide h
  have HR := hide hr
  obtain ⟨vs, hv, hl, he⟩ := h
  obtain ⟨p, cap, rfl⟩ := hv.form
  have hv8 : (vs.length : Int) ≤ 8 := by omega
  have HL := hide hl
  clear hr hv he hl
  go_enter Try.func32, Try.ntmps32
  go_wp2_with fail
  refine HK.out.mono ?_
  rintro e w1 ⟨rfl, hb1⟩
  clear HK
  have hbs1 := hb1.size
  go_wp2_with (at_make; refine wpList_make_full _ rfl _ _ 89 rfl w.heap.size 92 i0 (.agg (i8s zeros12)) 12 Try.underlying89 hi hz0 hz1 _ _ _ _ vs.length rfl rfl (by omega) (by omega) ?b2 ?b3 hbs1 ?_)
  case b2 => rw [hz2]; omega
  case b3 => unfold maxLen; omega
  intro w2 hown2 hg2
  have hobj : ∃ cs, w2.heap[w1.heap.size]? = some (.cells cs 92) ∧ cs.size = vs.length * 12 := by
    rcases hown2.2 with ⟨h, _⟩ | ⟨g', cap', cur, hv, _, hh, _, _, hs, _⟩
    · cases h
    · injection hv with e1 _ e3
      injection e1 with e1
      injection e1 with e1
      subst e1; subst e3
      exact ⟨cur, hh, hs⟩
  have hth2 : w2.there w1.heap.size 0 (vs.length * 12) := by obtain ⟨cs, ho, hos⟩ := hobj; exact there_obj ho hos 0 _ (by omega)
  have hB2 : Below w.heap.size w w2 := hb1.grown hg2 hb1.size (fun k h => by cases h)
  have hlt2 : w1.heap.size < w2.heap.size := by obtain ⟨cs, ho, _⟩ := hobj; exact (Array.getElem?_eq_some_iff.1 ho).1
  clear hown2 hg2 hobj hi hz0 hz1 hz2
  generalize w1.heap.size = D at *
  clear hb1
  go_wp2
  go_loopw [21] (fun i wr => ∃ k : Nat, k ≤ vs.length ∧ i = .int .i64 k ∧ Hid (∀ i x, i < k → xss[i]? = some x → wr.rangeAt D (i * 12) ((pad x).l.map (Value.int .i8))) ∧ Hid (wr.there D 0 (vs.length * 12)) ∧ D < wr.heap.size ∧ Below w.heap.size w wr) (fun i _ => vs.length - (intOf i).toNat)
  case atStart => exact ⟨0, by omega, rfl, fun i x hi => by omega, hth2, hlt2, hB2⟩
  case round =>
    clear hth2 hlt2 hB2
    obtain ⟨k, hk, rfl, hrg, hth, hDl, hbw⟩ := hrel
    by_cases hlt : k < vs.length
    · have hkx : k < xss.length := by have := HL.out; omega
      obtain ⟨X, hX⟩ : ∃ X, xss[k]? = some X := ⟨_, List.getElem?_eq_getElem hkx⟩
      have hXr := HR.out X (List.mem_of_getElem? hX)
      obtain ⟨us, hus, hul, hue⟩ := HA.out.below hbw
      obtain ⟨b, off, hpp, hcell⟩ : ∃ b off, p = some ⟨b, off, none⟩ ∧ (∀ j, j < us.length → wr.cell? ⟨b, off + j, none⟩ = some (us.getD j undef)) ∧ vs.length ≤ cap := by
        rcases hus with ⟨e, p', c', hv⟩ | ⟨b, off, c', hv, _, hc, _, _, hcell⟩
        · injection hv with _ e2 _; have := HL.out; omega
        · injection hv with e1 e2 e3
          exact ⟨b, off, e1, hcell, by omega⟩
      obtain ⟨hcell, hcap⟩ := hcell
      obtain ⟨p1, c1, hcx, hix⟩ := elAt hcell (k := k) (by have := HL.out; omega) (hue k hkx)
      have eX : xss.getD k [] = X := by rw [List.getD, hX]; rfl
      rw [eX] at hcx hix
      have HPk := hide (pack_ok _ X wr hix.out hXr.1 (by omega) (by omega))
      have hl12 := (pad X).len
      have hone : Hid ((i8s (pad X).l).all (·.oneCell') = true) := i8s_one _
      have hin : Hid ((Try.prog.info? 92).map (·.size) = some (i8s (pad X).l).size) := by show _ = _; rw [i8s_size, hl12]; exact Try.size92
      have HXX := hide hX
      have hlx : X.length ≤ 12 := by omega
      subst hpp
      clear hus hul hue hcell hix eX hX hXr
      generalize X.length = lx at *
      unfold pv at HPk
      go_wp2_with fail
      refine HPk.out.mono ?_
      rintro e w3 ⟨rfl, hb3⟩
      have hth3 : w3.there D (k * 12) (i8s (pad X).l).size := fun j hj => by
        rw [i8s_size, hl12] at hj
        have h1 := hth.out (k * 12 + j) (by omega)
        rw [Nat.zero_add] at h1
        rw [hb3.cell (p := ⟨D, _, none⟩) hDl, hb3.frozen (p := ⟨D, _, none⟩) hDl]
        exact h1
      have hD3 : D < w3.heap.size := Nat.lt_of_lt_of_le hDl hb3.size
      go_wp2_with (refine wpList_store_mid rfl 92 _ _ rfl D (k * 12) (i8s (pad X).l) rfl rfl hth3 hin.out hone.out ?_)
      have e1 : (i8s (pad X).l).toList = (pad X).l.map (Value.int .i8) := by simp [i8s]
      have hb4 : Below w3.heap.size w3 w3 := Below.refl _ _
      have hB4 : Below w.heap.size w (w3.setCells D (k * 12) (i8s (pad X).l).toList) := (hbw.trans (hb3.mono hbw.size)).trans (below_setCells _ _ _ _ hbs1)
      have hD4 : D < (w3.setCells D (k * 12) (i8s (pad X).l).toList).heap.size := Nat.lt_of_lt_of_le hD3 (below_setCells D (i8s (pad X).l).toList (k * 12) w3 (B := D) (Nat.le_refl _)).size
      have hth4 : (w3.setCells D (k * 12) (i8s (pad X).l).toList).there D 0 (vs.length * 12) := World.there_setCells (fun j hj => by
        rw [hb3.cell (p := ⟨D, _, none⟩) hDl, hb3.frozen (p := ⟨D, _, none⟩) hDl]
        exact hth.out j hj) _ _ _
      have hrg4 : ∀ i x, i < k + 1 → xss[i]? = some x → (w3.setCells D (k * 12) (i8s (pad X).l).toList).rangeAt D (i * 12) ((pad x).l.map (Value.int .i8)) := by
        intro i x hi hx
        rw [e1]
        by_cases e : i = k
        · subst e
          rw [HXX.out] at hx
          have := Option.some.inj hx
          subst this
          refine World.rangeAt_setCells_same _ _ _ _ ?_
          rw [List.length_map, hl12]
          rw [i8s_size, hl12] at hth3
          exact hth3
        · refine World.rangeAt_setCells_apart (fun j u hu => ?_) _ _ _ (Or.inr (Or.inl (by rw [List.length_map, (pad x).len]; omega)))
          rw [hb3.cell (p := ⟨D, _, none⟩) hDl]
          exact hrg.out i x (by omega) hx j u hu
      refine ⟨⟨k + 1, by omega, by go_num, hrg4, hth4, hD4, hB4⟩, by simp [intOf]; omega⟩
    · obtain rfl : k = vs.length := by omega
      have hP : Packs wr (.slice (some ⟨D, 0, none⟩) vs.length vs.length) (xss.map pad) := by
        rcases Nat.eq_zero_or_pos vs.length with h0 | h0
        · refine Or.inl ⟨?_, some ⟨D, 0, none⟩, vs.length, by rw [h0]⟩
          have : xss = [] := List.length_eq_zero_iff.1 (by rw [← HL.out]; exact h0)
          rw [this]; rfl
        · have e : (xss.map pad).length = vs.length := by rw [List.length_map, HL.out]
          refine Or.inr ⟨D, 0, vs.length, by rw [e], by omega, by omega, by omega, hDl, fun i q hi => ?_⟩
          rw [List.getElem?_map] at hi
          cases hx : xss[i]? with
          | none => rw [hx] at hi; cases hi
          | some x =>
            rw [hx] at hi
            have : pad x = q := by simpa using hi
            subst this
            rw [Nat.zero_add]
            exact hrg.out i x (by rw [HL.out]; exact (List.getElem?_eq_some_iff.1 hx).1) hx
      have HG := hide (generate_ok n _ (xss.map pad) wr h1 h12 hP (by rw [List.length_map]; omega) (fun y hy => by
        obtain ⟨x, hx, rfl⟩ := List.mem_map.1 hy
        exact pad_fixes h12 (HR.out x hx).2 (HR.out x hx).1))
      clear hP hrg hth
      go_wp2_with fail
      refine HG.out.mono ?_
      rintro e w9 ⟨u, rfl, hGr, hb9⟩
      go_wp2
      go_ret2
      exact ⟨u, rfl, hGr, hbw.trans (hb9.mono hbw.size)⟩
end Go.Proofs.Ytbddhpbeekioiaa
