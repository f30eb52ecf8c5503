/- Joined: GChk, Make, MakeB, Schr, Size, RankInj, PickB, Pick, I6, Raw, RwO, RowsOf, AppM, Clo, Clos. -/
import Derived.Test.YtahffpgadoiijaaJ4
import Derived.Test.YtahffpgadoiijaaJ2
import Derived.Test.YtahffpgadoiijaaJ0
import Derived.Test.YtahffpgadoiijaaJ1
import Derived.Laws.OwnMore
/- Contracts: group's checkRow and Check, where n and how many there are may be. -/
namespace Go.Proofs.Ytahffpgadoiijaa
open Go.RowKit

/-- What checkRow says. -/
def rchk (n : Nat) (xs : List Int) : Int := if chk xs = 0 then (if xs.length = n then 0 else 1) else chk xs

set_option maxHeartbeats 1000000 in
theorem checkRow_any (n : Nat) (v : Value) (xs : List Int) (w : World) (h : Ints w v xs) :
    Calls Try.prog 69 #[.int .i64 n, v] w fun e w' => e = .returned (.int .i64 (rchk n xs)) ∧ Below w.heap.size w w' := by
  have HC := hide (check_any v xs w h)
  have hr := chk_range xs
  obtain ⟨p, c, rfl⟩ := h.form
  by_cases h0 : chk xs = 0
  · rw [h0] at HC
    by_cases hl : xs.length = n
    · have HE : Hid (rchk n xs = 0) := by unfold Hid rchk; rw [if_pos h0, if_pos hl]
      have hb : (((xs.length : Nat) : Int) != ((n : Nat) : Int)) = false := by rw [hl]; simp
      clear h h0 hr hl
      go_enter Try.func69, Try.ntmps69
      go_wp2_with fail
      refine HC.out.mono ?_
      rintro e w1 ⟨rfl, hb1⟩
      go_wp2
      go_ret
      exact ⟨ret_int HE.out.symm, hb1⟩
    · have HE : Hid (rchk n xs = 1) := by unfold Hid rchk; rw [if_pos h0, if_neg hl]
      have hb : (((xs.length : Nat) : Int) != ((n : Nat) : Int)) = true := by rw [bne_iff_ne]; omega
      clear h h0 hr hl
      go_enter Try.func69, Try.ntmps69
      go_wp2_with fail
      refine HC.out.mono ?_
      rintro e w1 ⟨rfl, hb1⟩
      go_wp2
      go_ret
      exact ⟨ret_int HE.out.symm, hb1⟩
  · have HE : Hid (rchk n xs = chk xs) := by unfold Hid rchk; rw [if_neg h0]
    have hb : (chk xs != 0) = true := by rw [bne_iff_ne]; exact h0
    clear h h0
    generalize chk xs = z at *
    go_enter Try.func69, Try.ntmps69
    go_wp2_with fail
    refine HC.out.mono ?_
    rintro e w1 ⟨rfl, hb1⟩
    go_wp2
    go_ret
    exact ⟨ret_int HE.out.symm, hb1⟩

/-- What Check says of rows. -/
def gchk (n : Nat) : List (List Int) → Int
  | [] => 0
  | x :: t => if rchk n x = 0 then gchk n t else rchk n x

theorem gchk_drop {n k : Nat} {xss : List (List Int)} (hk : k < xss.length) : gchk n (xss.drop k) = if rchk n (xss.getD k []) = 0 then gchk n (xss.drop (k + 1)) else rchk n (xss.getD k []) := by
  rw [List.drop_eq_getElem_cons hk]
  simp only [List.getD, List.getElem?_eq_getElem hk, Option.getD_some]
  rfl

set_option maxRecDepth 20000 in
set_option maxHeartbeats 2000000 in
theorem gcheck_ok (n : Nat) (v : Value) (xss : List (List Int)) (w : World) (h : IntsAll w v xss) (h1 : 1 ≤ n) (h12 : n ≤ 12) (h8 : xss.length ≤ 8) :
    Calls Try.prog 51 #[.int .i64 n, v] w fun e w' => e = .returned (.int .i64 (gchk n xss)) ∧ Below w.heap.size w w' := by
  obtain ⟨vs, hv, hl, he⟩ := h
  have hn1 : ¬ ((n : Int) < 1) := by omega
  have hn2 : ¬ ((n : Int) > 12) := by omega
  rcases hv with ⟨rfl, p, c, rfl⟩ | ⟨b, off, cap, rfl, h0, hc, hm, hb, hcell⟩
  · obtain rfl : xss = [] := List.length_eq_zero_iff.1 (by simpa using hl.symm)
    clear he hl
    go_enter Try.func51, Try.ntmps51
    go_wp2
    go_loop [21] (fun i => i = .int .i64 0) (fun _ => 0)
    case atStart => rfl
    case round =>
      subst hrel
      go_wp2
      go_ret
      exact ⟨rfl, Below.refl _ _⟩
  · have hv8 : (vs.length : Int) ≤ 8 := by omega
    have HL := hide hl
    have HE := hide he
    have HC := hide hcell
    clear hl he hcell
    go_enter Try.func51, Try.ntmps51
    go_wp2
    go_loopw [21] (fun i wr => ∃ k : Nat, k ≤ vs.length ∧ i = .int .i64 k ∧ Hid (gchk n (xss.drop k) = gchk n xss) ∧ Below w.heap.size w wr) (fun i _ => vs.length - (intOf i).toNat)
    case atStart => exact ⟨0, by omega, rfl, rfl, Below.refl _ _⟩
    case round =>
      obtain ⟨k, hk, rfl, ht, hbw⟩ := hrel
      by_cases hlt : k < vs.length
      · have hkx : k < xss.length := by have := HL.out; omega
        obtain ⟨p1, c1, hcx, hix⟩ := elAt HC.out hlt (HE.out k hkx)
        have gx : wr.cell? ⟨b, off + k, none⟩ = some (.slice p1 (xss.getD k []).length c1) := (hbw.cell (by exact hb)).trans hcx
        have HS := hide (checkRow_any n _ _ wr (hix.out.below hbw))
        have HD := hide (gchk_drop (n := n) hkx)
        rw [ht.out] at HD
        generalize xss.getD k [] = X at *
        generalize X.length = lx at *
        clear hcx hix
        go_wp2_with fail
        refine HS.out.mono ?_
        rintro e w1 ⟨rfl, hb1⟩
        have hB1 : Below w.heap.size w w1 := hbw.trans (hb1.mono hbw.size)
        by_cases hz : rchk n X = 0
        · have HD' : Hid (gchk n (xss.drop (k + 1)) = gchk n xss) := by have := HD.out; rw [if_pos hz] at this; exact this.symm
          rw [hz]
          clear HD HS hz
          go_wp2
          go_roundw
          case rel => exact ⟨k + 1, by omega, by go_num, HD', hB1⟩
          case measure => simp [intOf]; omega
        · have HD' : Hid (gchk n xss = rchk n X) := by have := HD.out; rw [if_neg hz] at this; exact this
          have hne : (rchk n X != 0) = true := by rw [bne_iff_ne]; exact hz
          clear HD HS hz
          generalize rchk n X = z at *
          go_wp2
          go_ret
          exact ⟨ret_int HD'.out.symm, hB1⟩
      · have HE0 : Hid (gchk n xss = 0) := by show _ = _; rw [← ht.out, List.drop_eq_nil_of_le (by have := HL.out; omega)]; rfl
        go_wp2
        go_ret
        exact ⟨ret_int HE0.out.symm, hbw⟩

/-- Rows of n bells. -/
def RowsN (n : Nat) (xss : List (List Int)) : Prop := ∀ x, x ∈ xss → isRow x ∧ x.length = n

theorem gchk_rows {n : Nat} {xss : List (List Int)} (h1 : 1 ≤ n) (h12 : n ≤ 12) (h : RowsN n xss) : gchk n xss = 0 := by
  induction xss with
  | nil => rfl
  | cons x t ih =>
    have hx := h x (by simp)
    have e : rchk n x = 0 := by unfold rchk; rw [if_pos (chk_ok (by omega) (by omega) hx.1), if_pos hx.2]
    show (if rchk n x = 0 then gchk n t else rchk n x) = 0
    rw [if_pos e]
    exact ih (fun y hy => h y (by simp [hy]))

end Go.Proofs.Ytahffpgadoiijaa

/- Contracts: checkRow, Check, generate, Make. -/
namespace Go.Proofs.Ytahffpgadoiijaa
open Go.RowKit

/-- A group, as it lies. -/
def GroupAt (w : World) (v : Value) (n : Nat) (gs : List Pm) : Prop :=
  ∃ gb vg B g bs C st, v = .pointer (some ⟨gb, 0, none⟩) ∧ gb < w.heap.size ∧ w.cell? ⟨gb, 0, none⟩ = some (.int .i64 (n : Int)) ∧ w.cell? ⟨gb, 1, none⟩ = some vg ∧ w.cell? ⟨gb, 2, none⟩ = some (.slice (some ⟨g, 0, none⟩) n n) ∧
    Packs w vg gs ∧ Chained w B g n bs C st gs ∧ (∀ b, b ∈ bs → b < 12) ∧ bs = List.range n

theorem GroupAt.below {w w' : World} {v : Value} {n X : Nat} {gs : List Pm} (h : GroupAt w v n gs) (hb : Below X w w') (hX : w.heap.size ≤ X) : GroupAt w' v n gs := by
  obtain ⟨gb, vg, B, g, bs, C, st, h1, h2, h3, h4, h5, h6, h7, h8⟩ := h
  refine ⟨gb, vg, B, g, bs, C, st, h1, Nat.lt_of_lt_of_le h2 hb.size, ?_, ?_, ?_, h6.below hb hX, ⟨h7.len, h7.bases, h7.whole, h7.gen, h7.chain.below hb hX, h7.nd⟩, h8⟩
  · rw [hb.cell (p := ⟨gb, 0, none⟩) (by show gb < X; omega)]; exact h3
  · rw [hb.cell (p := ⟨gb, 1, none⟩) (by show gb < X; omega)]; exact h4
  · rw [hb.cell (p := ⟨gb, 2, none⟩) (by show gb < X; omega)]; exact h5

set_option maxRecDepth 20000 in
set_option maxHeartbeats 1000000 in
theorem generate_ok (n : Nat) (v1 : Value) (gs : List Pm) (w : World) (h1 : 1 ≤ n) (h12 : n ≤ 12) (hP : Packs w v1 gs) (hgs : gs.length ≤ 8916100448256) (hF : ∀ x, x ∈ gs → Fixes (fun b => n ≤ b) x) :
    Calls Try.prog 53 #[.int .i64 n, v1] w fun e w' => ∃ v, e = .returned v ∧ GroupAt w' v n gs ∧ Below w.heap.size w w' := by
  have HN := hide (newChain_ok n v1 gs w h1 h12 hP hgs hF)
  obtain ⟨pp, pcap, hv⟩ := hP.form
  rw [hv] at HN hP ⊢
  have HP := hide hP
  clear hP hF hv
  go_enter Try.func53, Try.ntmps53
  go_wp2_with fail
  refine HN.out.mono ?_
  rintro e w1 ⟨g, C, st, rfl, hCd, hb1⟩
  go_wp2
  go_ret
  have hB2 : Below w1.heap.size w1 (w1.alloc (.cells #[.int .i64 (n : Int), .slice pp gs.length pcap, .slice (some ⟨g, 0, none⟩) n n] 87)) := (Below.refl _ _).alloc (Nat.le_refl _) _
  have hn := heap_alloc_last w1 (.cells #[.int .i64 (n : Int), .slice pp gs.length pcap, .slice (some ⟨g, 0, none⟩) n n] 87)
  refine ⟨_, rfl, ⟨w1.heap.size, .slice pp gs.length pcap, w.heap.size, g, List.range n, C, st, rfl, by simp, ?_, ?_, ?_, (HP.out.below hb1 (Nat.le_refl _)).below hB2 (Nat.le_refl _), ⟨hCd.len, hCd.bases, hCd.whole, hCd.gen, hCd.chain.alloc _, hCd.nd⟩, fun b hb => (by have := List.mem_range.1 hb; omega), rfl⟩, hb1.alloc hb1.size _⟩
  · rw [cell_of_row _ _ 0 _ _ _ hn]; rfl
  · rw [cell_of_row _ _ 1 _ _ _ hn]; rfl
  · rw [cell_of_row _ _ 2 _ _ _ hn]; rfl

end Go.Proofs.Ytahffpgadoiijaa

/- Contracts: Check and Make, where n and how many there are may be. -/
namespace Go.Proofs.Ytahffpgadoiijaa
open Go.RowKit

set_option maxRecDepth 20000 in
set_option maxHeartbeats 2000000 in
theorem make_ok (n : Nat) (v : Value) (xss : List (List Int)) (w : World) (h : IntsAll w v xss) (h1 : 1 ≤ n) (h12 : n ≤ 12) (h8 : xss.length ≤ 8) (hr : RowsN n xss) :
    Calls Try.prog 24 #[.int .i64 n, v] w fun e w' => ∃ u, e = .returned (.tuple #[u, .int .i64 0]) ∧ GroupAt w' u n (xss.map pad) ∧ Below w.heap.size w w' := by
  obtain ⟨i0, hi, hz0, hz1, hz2⟩ := info_parts Try.info81
  have HK := hide (gcheck_ok n v xss w h h1 h12 h8)
  rw [gchk_rows h1 h12 hr] at HK
  have HA := hide h
  have HR := hide hr
  obtain ⟨vs, hv, hl, he⟩ := h
  obtain ⟨p, cap, rfl⟩ := hv.form
  have hv8 : (vs.length : Int) ≤ 8 := by omega
  have HL := hide hl
  clear hr hv he hl
  go_enter Try.func24, Try.ntmps24
  go_wp2_with fail
  refine HK.out.mono ?_
  rintro e w1 ⟨rfl, hb1⟩
  clear HK
  have hbs1 := hb1.size
  go_wp2_with (at_make; refine wpList_make_full _ rfl _ _ 78 rfl w.heap.size 81 i0 (.agg (i8s zeros12)) 12 Try.underlying78 hi hz0 hz1 _ _ _ _ vs.length rfl rfl (by omega) (by omega) ?b2 ?b3 hbs1 ?_)
  case b2 => rw [hz2]; omega
  case b3 => unfold maxLen; omega
  intro w2 hown2 hg2
  have hobj : ∃ cs, w2.heap[w1.heap.size]? = some (.cells cs 81) ∧ cs.size = vs.length * 12 := by
    rcases hown2.2 with ⟨h, _⟩ | ⟨g', cap', cur, hv, _, hh, _, _, hs, _⟩
    · cases h
    · injection hv with e1 _ e3
      injection e1 with e1
      injection e1 with e1
      subst e1; subst e3
      exact ⟨cur, hh, hs⟩
  have hth2 : w2.there w1.heap.size 0 (vs.length * 12) := by obtain ⟨cs, ho, hos⟩ := hobj; exact there_obj ho hos 0 _ (by omega)
  have hB2 : Below w.heap.size w w2 := hb1.grown hg2 hb1.size (fun k h => by cases h)
  have hlt2 : w1.heap.size < w2.heap.size := by obtain ⟨cs, ho, _⟩ := hobj; exact (Array.getElem?_eq_some_iff.1 ho).1
  clear hown2 hg2 hobj hi hz0 hz1 hz2
  generalize w1.heap.size = D at *
  clear hb1
  go_wp2
  go_loopw [21] (fun i wr => ∃ k : Nat, k ≤ vs.length ∧ i = .int .i64 k ∧ Hid (∀ i x, i < k → xss[i]? = some x → wr.rangeAt D (i * 12) ((pad x).l.map (Value.int .i8))) ∧ Hid (wr.there D 0 (vs.length * 12)) ∧ D < wr.heap.size ∧ Below w.heap.size w wr) (fun i _ => vs.length - (intOf i).toNat)
  case atStart => exact ⟨0, by omega, rfl, fun i x hi => by omega, hth2, hlt2, hB2⟩
  case round =>
    clear hth2 hlt2 hB2
    obtain ⟨k, hk, rfl, hrg, hth, hDl, hbw⟩ := hrel
    by_cases hlt : k < vs.length
    · have hkx : k < xss.length := by have := HL.out; omega
      obtain ⟨X, hX⟩ : ∃ X, xss[k]? = some X := ⟨_, List.getElem?_eq_getElem hkx⟩
      have hXr := HR.out X (List.mem_of_getElem? hX)
      obtain ⟨us, hus, hul, hue⟩ := HA.out.below hbw
      obtain ⟨b, off, hpp, hcell⟩ : ∃ b off, p = some ⟨b, off, none⟩ ∧ (∀ j, j < us.length → wr.cell? ⟨b, off + j, none⟩ = some (us.getD j undef)) ∧ vs.length ≤ cap := by
        rcases hus with ⟨e, p', c', hv⟩ | ⟨b, off, c', hv, _, hc, _, _, hcell⟩
        · injection hv with _ e2 _; have := HL.out; omega
        · injection hv with e1 e2 e3
          exact ⟨b, off, e1, hcell, by omega⟩
      obtain ⟨hcell, hcap⟩ := hcell
      obtain ⟨p1, c1, hcx, hix⟩ := elAt hcell (k := k) (by have := HL.out; omega) (hue k hkx)
      have eX : xss.getD k [] = X := by rw [List.getD, hX]; rfl
      rw [eX] at hcx hix
      have HPk := hide (pack_ok _ X wr hix.out hXr.1 (by omega) (by omega))
      have hl12 := (pad X).len
      have hone : Hid ((i8s (pad X).l).all (·.oneCell') = true) := i8s_one _
      have hin : Hid ((Try.prog.info? 81).map (·.size) = some (i8s (pad X).l).size) := by show _ = _; rw [i8s_size, hl12]; exact Try.size81
      have HXX := hide hX
      have hlx : X.length ≤ 12 := by omega
      subst hpp
      clear hus hul hue hcell hix eX hX hXr
      generalize X.length = lx at *
      unfold pv at HPk
      go_wp2_with fail
      refine HPk.out.mono ?_
      rintro e w3 ⟨rfl, hb3⟩
      have hth3 : w3.there D (k * 12) (i8s (pad X).l).size := fun j hj => by
        rw [i8s_size, hl12] at hj
        have h1 := hth.out (k * 12 + j) (by omega)
        rw [Nat.zero_add] at h1
        rw [hb3.cell (p := ⟨D, _, none⟩) hDl, hb3.frozen (p := ⟨D, _, none⟩) hDl]
        exact h1
      have hD3 : D < w3.heap.size := Nat.lt_of_lt_of_le hDl hb3.size
      go_wp2_with (refine wpList_store_mid rfl 81 _ _ rfl D (k * 12) (i8s (pad X).l) rfl rfl hth3 hin.out hone.out ?_)
      have e1 : (i8s (pad X).l).toList = (pad X).l.map (Value.int .i8) := by simp [i8s]
      have hb4 : Below w3.heap.size w3 w3 := Below.refl _ _
      have hB4 : Below w.heap.size w (w3.setCells D (k * 12) (i8s (pad X).l).toList) := (hbw.trans (hb3.mono hbw.size)).trans (below_setCells _ _ _ _ hbs1)
      have hD4 : D < (w3.setCells D (k * 12) (i8s (pad X).l).toList).heap.size := Nat.lt_of_lt_of_le hD3 (below_setCells D (i8s (pad X).l).toList (k * 12) w3 (B := D) (Nat.le_refl _)).size
      have hth4 : (w3.setCells D (k * 12) (i8s (pad X).l).toList).there D 0 (vs.length * 12) := World.there_setCells (fun j hj => by
        rw [hb3.cell (p := ⟨D, _, none⟩) hDl, hb3.frozen (p := ⟨D, _, none⟩) hDl]
        exact hth.out j hj) _ _ _
      have hrg4 : ∀ i x, i < k + 1 → xss[i]? = some x → (w3.setCells D (k * 12) (i8s (pad X).l).toList).rangeAt D (i * 12) ((pad x).l.map (Value.int .i8)) := by
        intro i x hi hx
        rw [e1]
        by_cases e : i = k
        · subst e
          rw [HXX.out] at hx
          have := Option.some.inj hx
          subst this
          refine World.rangeAt_setCells_same _ _ _ _ ?_
          rw [List.length_map, hl12]
          rw [i8s_size, hl12] at hth3
          exact hth3
        · refine World.rangeAt_setCells_apart (fun j u hu => ?_) _ _ _ (Or.inr (Or.inl (by rw [List.length_map, (pad x).len]; omega)))
          rw [hb3.cell (p := ⟨D, _, none⟩) hDl]
          exact hrg.out i x (by omega) hx j u hu
      refine ⟨⟨k + 1, by omega, by go_num, hrg4, hth4, hD4, hB4⟩, by simp [intOf]; omega⟩
    · obtain rfl : k = vs.length := by omega
      have hP : Packs wr (.slice (some ⟨D, 0, none⟩) vs.length vs.length) (xss.map pad) := by
        rcases Nat.eq_zero_or_pos vs.length with h0 | h0
        · refine Or.inl ⟨?_, some ⟨D, 0, none⟩, vs.length, by rw [h0]⟩
          have : xss = [] := List.length_eq_zero_iff.1 (by rw [← HL.out]; exact h0)
          rw [this]; rfl
        · have e : (xss.map pad).length = vs.length := by rw [List.length_map, HL.out]
          refine Or.inr ⟨D, 0, vs.length, by rw [e], by omega, by omega, by omega, hDl, fun i q hi => ?_⟩
          rw [List.getElem?_map] at hi
          cases hx : xss[i]? with
          | none => rw [hx] at hi; cases hi
          | some x =>
            rw [hx] at hi
            have : pad x = q := by simpa using hi
            subst this
            rw [Nat.zero_add]
            exact hrg.out i x (by rw [HL.out]; exact (List.getElem?_eq_some_iff.1 hx).1) hx
      have HG := hide (generate_ok n _ (xss.map pad) wr h1 h12 hP (by rw [List.length_map]; omega) (fun y hy => by
        obtain ⟨x, hx, rfl⟩ := List.mem_map.1 hy
        exact pad_fixes h12 (HR.out x hx).2 (HR.out x hx).1))
      clear hP hrg hth
      go_wp2_with fail
      refine HG.out.mono ?_
      rintro e w9 ⟨u, rfl, hGr, hb9⟩
      go_wp2
      go_ret2
      exact ⟨u, rfl, hGr, hbw.trans (hb9.mono hbw.size)⟩
end Go.Proofs.Ytahffpgadoiijaa

/- Plain: Schreier's lemma over lists; one row in another's place among generators; the size of a chain; contract: size. -/
namespace Go.Proofs.Ytahffpgadoiijaa
open Go.RowKit

/-- What leaves a place, told by what brings bells there. -/
def Sch (S : Pm → Prop) (T : List (Nat × Pm)) (y : Pm) : Prop := ∃ s, S s ∧ ∃ e, e ∈ T ∧ ∃ e', e' ∈ T ∧ e'.1 = s.act e.1 ∧ y = e'.2⁻¹ * (s * e.2)

theorem schreier {S : Pm → Prop} {T : List (Nat × Pm)} {k : Nat} (hn : (T.map (·.1)).Nodup) (h1 : (k, (1 : Pm)) ∈ T) (hb : ∀ e, e ∈ T → e.2.act k = e.1) (hG : ∀ e, e ∈ T → Gen S e.2) (hc : ∀ s, S s → ∀ e, e ∈ T → ∃ e', e' ∈ T ∧ e'.1 = s.act e.1) (x : Pm) :
    Gen (Sch S T) x ↔ Gen S x ∧ x.act k = k := by
  have hS : Sub (fun x => Gen S x ∧ x.act k = k) := (Gen.sub S).and ⟨Pm.act_one k, fun {x y} hx hy => by show (x * y).act k = k; rw [Pm.act_mul, hy, hx], fun {x} hx => by have hx : x.act k = k := hx; show x⁻¹.act k = k; rw [← hx, Pm.inv_act, hx]⟩
  have hsub : ∀ y, Gen (Sch S T) y → Gen S y ∧ y.act k = k := fun y hy => hy.least hS (fun z hz => by
    obtain ⟨s, hs, e, he, e', he', e1, rfl⟩ := hz
    refine ⟨Gen.mul' (Gen.inv (hG e' he')) (Gen.mul hs (hG e he)), ?_⟩
    show (e'.2⁻¹ * (s * e.2)).act k = k
    rw [Pm.act_mul, Pm.act_mul, hb e he, ← e1, ← hb e' he', Pm.inv_act])
  refine ⟨hsub x, fun hx => ?_⟩
  have key : ∀ y, Gen S y → ∃ e, e ∈ T ∧ ∃ h, Gen (Sch S T) h ∧ y = e.2 * h := by
    intro y hy
    induction hy with
    | one => exact ⟨_, h1, 1, Gen.one, by rw [Pm.mul_one]⟩
    | @mul s y hs _ ih =>
      obtain ⟨e, he, h, hh, rfl⟩ := ih
      obtain ⟨e', he', e1⟩ := hc s hs e he
      exact ⟨e', he', _, Gen.mul ⟨s, hs, e, he, e', he', e1, rfl⟩ hh, by rw [Pm.mul_assoc e'.2⁻¹, Pm.mul_inv_cancel, Pm.mul_assoc]⟩
  obtain ⟨e, he, h, hh, rfl⟩ := key x hx.1
  have hk := (hsub h hh).2
  have h2 : (e.2 * h).act k = k := hx.2
  rw [Pm.act_mul, hk, hb e he] at h2
  have e1 : e.2 = 1 := tab_eq hn (b := k) (by rw [← h2]; exact he) h1
  rw [e1, Pm.one_mul]; exact hh

/-- A row among generators may be changed by one of the others. -/
theorem gen_swap {A : Pm → Prop} {t r : Pm} (ht : A t) (x : Pm) : Gen (fun y => A y ∨ y = r) x ↔ Gen (fun y => A y ∨ y = t⁻¹ * r) x := by
  constructor
  · refine fun h => h.least (Gen.sub _) (fun y hy => ?_)
    rcases hy with hy | hy
    · exact Gen.of (Or.inl hy)
    · have h1 : Gen (fun y => A y ∨ y = t⁻¹ * r) (t * (t⁻¹ * r)) := Gen.mul (Or.inl ht) (Gen.of (Or.inr rfl))
      rw [Pm.mul_inv_cancel] at h1
      rw [hy]; exact h1
  · refine fun h => h.least (Gen.sub _) (fun y hy => ?_)
    rcases hy with hy | rfl
    · exact Gen.of (Or.inl hy)
    · exact Gen.mul' (Gen.inv (Gen.of (Or.inl ht))) (Gen.of (Or.inr rfl))

theorem gen_drop {A : Pm → Prop} (x : Pm) : Gen (fun y => A y ∨ y = 1) x ↔ Gen A x := by
  constructor
  · refine fun h => h.least (Gen.sub _) (fun y hy => ?_)
    rcases hy with hy | rfl
    · exact Gen.of hy
    · exact Gen.one
  · exact fun h => h.mono (fun y hy => Or.inl hy)

theorem Chained.sz {w : World} {B g n : Nat} {C : List Lk} {st : Nat → St} {gs : List Pm} (h : Chained w B g n (List.range n) C st gs) (h12 : n ≤ 12) : tabs C = sz (Gen (fun y => y ∈ gs)) n := by
  have e := sz_tabs (G := Gen (fun y => y ∈ gs)) C 0 _ h.whole (by rw [h.bases, h.len]; simp) (by rw [h.len]; omega) (fun x => by
    rw [h.gen x]
    exact ⟨fun hx => ⟨hx, fun b hb => by omega⟩, fun hx => hx.1⟩)
  rw [h.len, Nat.zero_add] at e
  rw [e]
  show tabs C = 1 * tabs C
  rw [Nat.one_mul]

theorem sz_le (G : Pm → Prop) (n : Nat) : sz G n ≤ 12 ^ n := by
  induction n with
  | zero => exact Nat.le_refl _
  | succ n ih =>
    have : oc G n ≤ 12 := by
      have := nodup_len (orbL G n) (List.range 12) (orbL_nodup G n) (fun b hb => by unfold orbL at hb; exact (List.mem_filter.1 hb).1)
      rw [List.length_range] at this
      exact this
    show sz G n * oc G n ≤ 12 ^ (n + 1)
    rw [Nat.pow_succ]
    exact Nat.mul_le_mul ih this

end Go.Proofs.Ytahffpgadoiijaa

/- Contracts: the chain's size, Size, Bells, Has. -/
namespace Go.Proofs.Ytahffpgadoiijaa
open Go.RowKit

theorem tabs_pos {F : Nat → Prop} : ∀ (C : List Lk), Whole F C → 1 ≤ tabs C
  | [], _ => Nat.le_refl _
  | l :: c, h => Nat.mul_pos (List.length_pos_of_mem h.1.first) (tabs_pos (F := plus F l.base) c h.2.1)

theorem whole_len {F : Nat → Prop} : ∀ (C : List Lk), Whole F C → (∀ l, l ∈ C → l.base < 12) → ∀ l, l ∈ C → 1 ≤ l.tab.length ∧ l.tab.length ≤ 12
  | [], _, _, l, h => by cases h
  | x :: c, hw, hb, l, h => by
    rcases List.mem_cons.1 h with rfl | h
    · exact ⟨List.length_pos_of_mem hw.1.first, tab_len hw.1 (hb _ List.mem_cons_self)⟩
    · exact whole_len (F := plus F x.base) c hw.2.1 (fun y hy => hb y (List.mem_cons_of_mem _ hy)) l h

theorem tabs_drop {C : List Lk} {i : Nat} {l : Lk} (h : C[i]? = some l) : tabs (C.drop i) = l.tab.length * tabs (C.drop (i + 1)) := by
  obtain ⟨hj, rfl⟩ := List.getElem?_eq_some_iff.1 h
  rw [List.drop_eq_getElem_cons hj]
  rfl

theorem tabs_le {C : List Lk} (h : ∀ l, l ∈ C → l.tab.length ≤ 12) : tabs C ≤ 12 ^ C.length := by
  induction C with
  | nil => exact Nat.le_refl _
  | cons l c ih =>
    show l.tab.length * tabs c ≤ 12 ^ (c.length + 1)
    rw [Nat.pow_succ, Nat.mul_comm (12 ^ c.length)]
    exact Nat.mul_le_mul (h l List.mem_cons_self) (ih (fun y hy => h y (List.mem_cons_of_mem _ hy)))

set_option maxRecDepth 20000 in
set_option maxHeartbeats 2000000 in
theorem size_ok {w0 : World} {B g n : Nat} {bs : List Nat} {C : List Lk} {st : Nat → St} {gs : List Pm} (hCd : Chained w0 B g n bs C st gs) (h12 : n ≤ 12) (hbs : ∀ b, b ∈ bs → b < 12) (w : World) (hb0 : Below w0.heap.size w0 w) :
    Calls Try.prog 65 #[.slice (some ⟨g, 0, none⟩) n n] w fun e w' => e = .returned (.int .i64 (tabs C : Nat)) ∧ Below w.heap.size w w' := by
  have hC := hCd.chain.below hb0 (Nat.le_refl _)
  have hbase : ∀ l, l ∈ C → l.base < 12 := fun l hl => hbs _ (by rw [← hCd.bases]; exact List.mem_map.2 ⟨l, hl, rfl⟩)
  have hlen := whole_len C hCd.whole hbase
  have hle : tabs C ≤ 12 ^ 12 := by
    refine Nat.le_trans (tabs_le (fun l hl => (hlen l hl).2)) ?_
    rw [hCd.len]
    exact Nat.pow_le_pow_right (by decide) h12
  have hpos : ∀ i, 1 ≤ tabs (C.drop i) := fun i => by
    have : ∀ (c : List Lk), (∀ l, l ∈ c → 1 ≤ l.tab.length) → 1 ≤ tabs c := by
      intro c
      induction c with
      | nil => intro _; exact Nat.le_refl _
      | cons l c ih => intro h; exact Nat.mul_pos (h l List.mem_cons_self) (ih (fun y hy => h y (List.mem_cons_of_mem _ hy)))
    exact this _ (fun l hl => (hlen l (List.mem_of_mem_drop hl)).1)
  have h1212 : (12 : Nat) ^ 12 = 8916100448256 := by decide
  have HL : Hid (tabs C ≤ 8916100448256) := by show _ ≤ _; omega
  have HPS := hide hpos
  have HLN := hide hlen
  have HC := hide hC
  have HN := hide hCd.len
  clear hC hbase hlen hle hpos h1212 hCd
  go_enter Try.func65, Try.ntmps65
  go_wp2
  go_loopw [3, 8] (fun sm si wr => ∃ i m : Nat, i ≤ n ∧ si = .int .i64 i ∧ sm = .int .i64 m ∧ Hid (m * tabs (C.drop i) = tabs C) ∧ Below w.heap.size w wr) (fun _ si _ => n - (intOf si).toNat)
  case atStart => exact ⟨0, 1, by omega, rfl, rfl, by show 1 * tabs (C.drop 0) = _; rw [Nat.one_mul]; rfl, Below.refl _ _⟩
  case round =>
    obtain ⟨i, m, hi, rfl, rfl, hm, hbw⟩ := hrel
    have hbs' := hbw.size
    by_cases hlt : i < n
    · have hiC : i < C.length := by rw [HN.out]; exact hlt
      obtain ⟨l, hl⟩ : ∃ l, C[i]? = some l := ⟨_, List.getElem?_eq_getElem hiC⟩
      have lk := (HC.out.below hbw (Nat.le_refl _)).link i (rawOf l) (by rw [List.getElem?_map, hl]; rfl)
      have htd := tabs_drop hl
      have hll := HLN.out l (List.mem_of_getElem? hl)
      have hp := HPS.out (i + 1)
      have hm' : Hid (m * l.tab.length * tabs (C.drop (i + 1)) = tabs C) := by show _ = _; rw [Nat.mul_assoc, ← htd]; exact hm.out
      have hml : m * l.tab.length ≤ 8916100448256 := by
        have h1 := hm'.out
        have h2 := HL.out
        have h3 : m * l.tab.length ≤ m * l.tab.length * tabs (C.drop (i + 1)) := Nat.le_mul_of_pos_right _ hp
        omega
      have hmb : m ≤ 8916100448256 := Nat.le_trans (Nat.le_mul_of_pos_right _ hll.1) hml
      obtain ⟨pb, cb, ebv⟩ := owns_slice12 lk.bells
      obtain ⟨pg, cg, egv⟩ := owns_slice12 lk.gens
      have c0 := lk.c0
      have c1 := lk.c1
      have c2 := lk.c2
      have c3 := lk.c3
      rw [ebv] at c2
      rw [egv] at c3
      have hrange : wr.rangeAt g (i * 4) [.int .i64 ((l.base : Nat) : Int), .map (some (st i).m), .slice pb (rawOf l).bs.length cb, .slice pg (rawOf l).gs.length cg] := by
        rw [Nat.mul_comm]
        intro x v hv
        match x, hv with
        | 0, hv => rw [← Option.some.inj hv]; exact c0
        | 1, hv => rw [← Option.some.inj hv]; exact c1
        | 2, hv => rw [← Option.some.inj hv]; exact c2
        | 3, hv => rw [← Option.some.inj hv]; exact c3
        | x + 4, hv => cases hv
      have hbl : (rawOf l).bs.length = l.tab.length := by show (l.tab.map _).length = _; simp
      rw [hbl] at hrange
      generalize (st i).m = mm at *
      generalize (rawOf l).gs.length = ng at *
      generalize l.tab.length = t at *
      have hmt : (m : Int) * (t : Int) = ((m * t : Nat) : Int) := by rw [Int.natCast_mul]
      have hmt1 : (m : Int) * (t : Int) ≤ 8916100448256 := by rw [hmt]; omega
      have hmt0 : 0 ≤ (m : Int) * (t : Int) := by rw [hmt]; omega
      have HMT := hide hmt
      clear lk c0 c1 c2 c3 ebv egv htd hll hp hl hbl hmt
      go_wp2_with (refine wpList_load_mid rfl 102 _ rfl g _ rfl _ _ hrange Try.underlying102 rfl Try.size102 ?_)
      go_roundw
      case rel =>
        have hfin : ∃ i' m' : Nat, i' ≤ n ∧ Value.int .i64 ((i : Int) + 1) = .int .i64 (i' : Int) ∧ Value.int .i64 ((m : Int) * (t : Int)) = .int .i64 (m' : Int) ∧ Hid (m' * tabs (C.drop i') = tabs C) ∧ Below w.heap.size w (wr.alloc (.cells #[.int .i64 ((l.base : Nat) : Int), .map (some mm), .slice pb t cb, .slice pg ng cg] 102)) :=
          ⟨i + 1, m * t, by omega, by go_num, by rw [HMT.out], hm', hbw.alloc hbs' _⟩
        first
          | exact hfin
          | ((repeat apply Exists.intro); exact ⟨hfin, rfl⟩)
      case measure => simp [intOf]; omega
    · obtain rfl : i = n := by omega
      have HE : Hid (m = tabs C) := by
        have := hm.out
        rw [List.drop_eq_nil_of_le (by rw [HN.out]; exact Nat.le_refl _)] at this
        show m = tabs C
        rw [← this]
        exact (Nat.mul_one m).symm
      go_wp2
      go_ret
      exact ⟨ret_int (by rw [HE.out]), hbw⟩

end Go.Proofs.Ytahffpgadoiijaa

/- Plain: rows of as many bells with one rank are one. -/
namespace Go.Proofs.Ytahffpgadoiijaa

theorem cnt_cons (x z : Int) (l : List Int) : cnt x (z :: l) = (if z < x then 1 else 0) + cnt x l := by
  unfold cnt
  by_cases h : z < x
  · rw [List.filter_cons_of_pos (by simpa using h), if_pos h, List.length_cons]; omega
  · rw [List.filter_cons_of_neg (by simpa using h), if_neg h]; omega

theorem cnt_mono {x y : Int} (h : x < y) (l : List Int) : cnt x l ≤ cnt y l ∧ (x ∈ l → cnt x l < cnt y l) := by
  induction l with
  | nil => exact ⟨Nat.le_refl _, fun h => by cases h⟩
  | cons z l ih =>
    rw [cnt_cons, cnt_cons]
    refine ⟨?_, fun hm => ?_⟩
    · split <;> split <;> omega
    · rcases List.mem_cons.1 hm with rfl | hm
      · rw [if_neg (by omega), if_pos h]; omega
      · have := ih.2 hm
        split <;> split <;> omega

theorem rankR_lt : ∀ l : List Int, rankR l < fct l.length
  | [] => by decide
  | x :: xs => by
    have ih := rankR_lt xs
    have hc := cnt_le x xs
    show cnt x xs * fct xs.length + rankR xs < (xs.length + 1) * fct xs.length
    have h1 : cnt x xs * fct xs.length ≤ xs.length * fct xs.length := Nat.mul_le_mul_right _ hc
    rw [Nat.add_mul, Nat.one_mul]
    omega

theorem rankR_inj : ∀ (a b : List Int), a.Perm b → a.Nodup → rankR a = rankR b → a = b
  | [], b, hp, _, _ => (List.nil_perm.1 hp).symm
  | x :: xs, [], hp, _, _ => absurd hp.length_eq (by simp)
  | x :: xs, y :: ys, hp, hn, he => by
    have hl : xs.length = ys.length := by simpa using hp.length_eq
    have h1 := rankR_lt xs
    have h2 := rankR_lt ys
    have he' : cnt x xs * fct xs.length + rankR xs = cnt y ys * fct ys.length + rankR ys := he
    rw [← hl] at he' h2
    have hG := fct_pos xs.length
    have hc : cnt x xs = cnt y ys := by
      have e1 : (cnt x xs * fct xs.length + rankR xs) / fct xs.length = cnt x xs := by
        rw [Nat.mul_comm, Nat.mul_add_div hG, Nat.div_eq_of_lt h1]; rfl
      have e2 : (cnt y ys * fct xs.length + rankR ys) / fct xs.length = cnt y ys := by
        rw [Nat.mul_comm, Nat.mul_add_div hG, Nat.div_eq_of_lt h2]; rfl
      rw [← e1, ← e2, he']
    have hr : rankR xs = rankR ys := by rw [hc] at he'; omega
    have c1 : cnt x (x :: xs) = cnt x xs := by rw [cnt_cons, if_neg (by omega)]; omega
    have c2 : cnt y (y :: ys) = cnt y ys := by rw [cnt_cons, if_neg (by omega)]; omega
    have exy : x = y := by
      rcases Int.lt_trichotomy x y with h | h | h
      · have h3 := (cnt_mono h (x :: xs)).2 List.mem_cons_self
        rw [cnt_perm hp (x := y), c1, c2] at h3
        omega
      · exact h
      · have h3 := (cnt_mono h (y :: ys)).2 List.mem_cons_self
        rw [← cnt_perm hp (x := x), c1, c2] at h3
        omega
    subst exy
    rw [rankR_inj xs ys ((List.perm_cons x).1 hp) (List.nodup_cons.1 hn).2 hr]

theorem rank_inj {a b : List Int} (ha : isRow a) (hb : isRow b) (hl : b.length = a.length) (h : rkTo a a.length = rkTo b b.length) : a = b := by
  rw [rkTo_all, rkTo_all] at h
  refine rankR_inj a b ((row_perm_rnd ha).trans ?_) ha.2 h
  rw [← hl]
  exact (row_perm_rnd hb).symm

end Go.Proofs.Ytahffpgadoiijaa

/- Contract: Pick. -/
namespace Go.Proofs.Ytahffpgadoiijaa
open Go.RowKit

set_option maxHeartbeats 400000 in
theorem pick_any (c n : Int) (w : World) (h1 : -9223372036854775808 ≤ c) (h2 : c ≤ 9223372036854775807) (h3 : 0 < n) (h4 : n ≤ 9223372036854775807) :
    Calls Try.prog 15 #[.int .i64 c, .int .i64 n] w fun e w' => ∃ k : Int, 0 ≤ k ∧ k < n ∧ e = .returned (.int .i64 k) ∧ w = w' := by
  by_cases h : c < 0
  · go_enter Try.func15, Try.ntmps15
    go_wp2
    go_ret
    refine ⟨_, ?_, ?_, rfl, rfl⟩
    · rw [← Int.neg_tmod]; exact Int.tmod_nonneg _ (by omega)
    · rw [← Int.neg_tmod]; exact Int.tmod_lt_of_pos _ h3
  · go_enter Try.func15, Try.ntmps15
    go_wp2
    go_ret
    refine ⟨_, ?_, ?_, rfl, rfl⟩
    · exact Int.emod_nonneg _ (by omega)
    · exact Int.emod_lt_of_pos _ h3

/-- Which of n things a raw number speaks of. -/
def pk (c n : Int) : Int := (if c < 0 then -(c + 1) else c) % n

theorem pk_range (c : Int) {n : Int} (h : 0 < n) : 0 ≤ pk c n ∧ pk c n < n := ⟨Int.emod_nonneg _ (by omega), Int.emod_lt_of_pos _ h⟩

set_option maxHeartbeats 400000 in
theorem pick_det (c n : Int) (w : World) (h1 : -9223372036854775808 ≤ c) (h2 : c ≤ 9223372036854775807) (h3 : 0 < n) (h4 : n ≤ 9223372036854775807) :
    Calls Try.prog 15 #[.int .i64 c, .int .i64 n] w fun e w' => e = .returned (.int .i64 (pk c n)) ∧ w = w' := by
  by_cases h : c < 0
  · have HP : Hid (pk c n = (-(c + 1)) % n) := by show _ = _; unfold pk; rw [if_pos h]
    go_enter Try.func15, Try.ntmps15
    go_wp2
    go_ret
    refine ⟨ret_int ?_, rfl⟩
    rw [HP.out, ← Int.neg_tmod, Int.tmod_eq_emod_of_nonneg (by omega)]
  · have HP : Hid (pk c n = c % n) := by show _ = _; unfold pk; rw [if_neg h]
    go_enter Try.func15, Try.ntmps15
    go_wp2
    go_ret
    exact ⟨ret_int HP.out.symm, rfl⟩

end Go.Proofs.Ytahffpgadoiijaa

/- Pick: see PickB. -/
namespace Go.Proofs.Ytahffpgadoiijaa
end Go.Proofs.Ytahffpgadoiijaa

/- A number that an int may be. -/
namespace Go.Proofs.Ytahffpgadoiijaa
open Go.RowKit


end Go.Proofs.Ytahffpgadoiijaa

/- Contract: Raw. -/
namespace Go.Proofs.Ytahffpgadoiijaa
open Go.RowKit

theorem wrap_I64 (x : Int) : I64 (wrap64 x) := by
  unfold I64 wrap64
  omega

set_option maxRecDepth 20000 in
set_option maxHeartbeats 400000 in
theorem raw_any (v : Value) (xs : List Int) (k : Nat) (w : World) (h : Ints w v xs) (hx : ∀ x, x ∈ xs → I64 x) (hk : k ≤ 1000000) :
    Calls Try.prog 45 #[v, .int .i64 k] w fun e w' => ∃ x, I64 x ∧ e = .returned (.int .i64 x) ∧ w = w' := by
  rcases h with ⟨rfl, p, c, rfl⟩ | ⟨b, off, cap, rfl, h0, hc, hm, hb, hcell⟩
  · go_enter Try.func45, Try.ntmps45
    go_wp2
    go_ret
    exact ⟨0, ⟨by omega, by omega⟩, rfl, rfl⟩
  · have hml : k % xs.length < xs.length := Nat.mod_lt _ h0
    have hme : (k : Int) % (xs.length : Int) = ((k % xs.length : Nat) : Int) := (Int.natCast_emod k xs.length).symm
    obtain ⟨x, hxe, hcx⟩ := cellAt hcell hml
    have hxm : I64 x := hx x (by rw [← hxe.out, List.getElem?_eq_getElem hml]; exact List.getElem_mem hml)
    have hne : ((xs.length : Int) == 0) = false := by rw [beq_eq_false_iff_ne]; omega
    generalize k % xs.length = m at *
    have HX := hide hx
    clear hcell hx hxe
    go_enter Try.func45, Try.ntmps45
    go_wp2
    go_ret
    exact ⟨x, hxm, rfl, rfl⟩

end Go.Proofs.Ytahffpgadoiijaa

/- Contract: RowOf. -/
namespace Go.Proofs.Ytahffpgadoiijaa
open Go.RowKit

set_option maxRecDepth 20000 in
set_option maxHeartbeats 400000 in
theorem rowOf_ok (c : Int) (n : Nat) (w : World) (h : I64 c) (h12 : n ≤ 12) :
    Calls Try.prog 44 #[.int .i64 c, .int .i64 n] w fun e w' => ∃ v X, e = .returned v ∧ isRow X ∧ X.length = n ∧ w'.ownsRow w.heap.size 3 1 v n (X.map (Value.int .i64)) ∧ Below w.heap.size w w' := by
  obtain ⟨l0, u0⟩ := h
  have hF0 : (0 : Int) < ((fct n : Nat) : Int) := by have := fct_pos n; omega
  have hF1 : ((fct n : Nat) : Int) ≤ 9223372036854775807 := by have := fct_le h12; omega
  go_enter Try.func44, Try.ntmps44
  go_wp2_with fail
  refine (factorial_any n _ h12).mono ?_
  rintro e wa ⟨rfl, rfl⟩
  go_wp2_with fail
  refine (pick_any _ _ _ l0 u0 hF0 hF1).mono ?_
  rintro e wa ⟨k, hk0, hk1, rfl, rfl⟩
  obtain ⟨kx, rfl⟩ := Int.eq_ofNat_of_zero_le hk0
  have hkx : kx < fct n := by omega
  clear hk0 hk1 l0 u0
  go_wp2_with fail
  refine (rat_own n kx _ h12 hkx).mono ?_
  rintro e w1 ⟨v, rfl, ho, hb⟩
  have HO := hide ho
  clear ho
  go_wp2
  go_ret
  exact ⟨_, rowAt n kx, rfl, rowAt_row hkx, rowAt_length hkx, HO.out, hb⟩

end Go.Proofs.Ytahffpgadoiijaa

/- Contracts: Raw, RowOf, RowsOf. -/
namespace Go.Proofs.Ytahffpgadoiijaa
open Go.RowKit

structure RowsRel (w wr : World) (n k : Nat) (v : Value) (vs : List Value) (xss : List (List Int)) : Prop where
  row : wr.ownsRow w.heap.size 23 1 v k vs
  all : OwnAll wr w.heap.size vs xss
  len : vs.length = k
  rows : RowsN n xss
  below : Below w.heap.size w wr

set_option maxRecDepth 20000 in
set_option maxHeartbeats 2000000 in
theorem rowsOf_ok2 (v : Value) (xs : List Int) (f n m : Nat) (w : World) (h : Ints w v xs) (hx : ∀ x, x ∈ xs → I64 x) (hf : f ≤ 1000) (h1 : 1 ≤ n) (h12 : n ≤ 12) (hm : m ≤ 1000) :
    Calls Try.prog 16 #[v, .int .i64 f, .int .i64 n, .int .i64 m] w fun e w' => ∃ u vs xss, e = .returned u ∧ RowsRel w w' n m u vs xss := by
  obtain ⟨i0, hi, hz0, hz1, hz2⟩ := info_parts Try.info23
  have HI := hide h
  have HX := hide hx
  clear h hx
  go_enter Try.func16, Try.ntmps16
  go_wp2
  go_loopw [9, 10] (fun u i wr => ∃ (k : Nat) (vs : List Value) (xss : List (List Int)), k ≤ m ∧ i = .int .i64 k ∧ RowsRel w wr n k u vs xss) (fun _ i _ => m - (intOf i).toNat)
  case atStart => exact ⟨0, [], [], by omega, rfl, ⟨World.ownsRow_nil _ _ _ _, trivial, rfl, (fun x hx => absurd hx (by simp)), Below.refl _ _⟩⟩
  case round =>
    obtain ⟨k, vs, xss, hk, rfl, hR⟩ := hrel
    have hbw := hR.below
    have hbs := hbw.size
    by_cases hlt : k < m
    · have HR := hide hR
      have e1 : (f : Int) + (k : Int) = ((f + k : Nat) : Int) := by omega
      have e2 : ((f + k : Nat) : Int) + 1 = ((f + k + 1 : Nat) : Int) := by omega
      have E1 := hide e1
      have E2 := hide e2
      have HRaw1 := hide (raw_any v xs (f + k) wr (HI.out.below hbw) HX.out (by omega))
      have HRaw2 := hide (raw_any v xs (f + k + 1) wr (HI.out.below hbw) HX.out (by omega))
      rw [← E2.out] at HRaw2
      rw [← E1.out] at HRaw1 HRaw2
      clear e1 e2 hR hbw
      go_wp2_with fail
      refine HRaw1.out.mono ?_
      rintro e wa ⟨x1, hx1, rfl, rfl⟩
      go_wp2_with fail
      refine HRaw2.out.mono ?_
      rintro e wa ⟨x2, hx2, rfl, rfl⟩
      go_wp2_with fail
      refine (rowOf_ok _ n _ (wrap_I64 _) h12).mono ?_
      rintro e w1 ⟨u, X, rfl, hXr, hXl, ho, hb1⟩
      obtain ⟨gx, cx, rfl, _, _, _, _⟩ := owns_form ho h1
      have hrow1 := owns_below HR.out.row hb1 (Nat.le_refl _)
      have hs1 := hb1.size
      go_wp2_with (at_builtin; refine wpList_append_own _ rfl _ _ 22 rfl w.heap.size 23 i0 (.slice none 0 0) 1 24 Try.underlying22 hi hz0 hz1 hz2 rfl (by decide) _ _ _ rfl (hrow1.alloc _) ⟨w1.heap.size, 0, none⟩ 1 1 [.slice (some ⟨gx, 0, none⟩) n cx] rfl rfl ?c1 ?c2 ?c3 ?c4 ?c5 ?_)
      case c1 => exact cell_one_new _ _ _
      case c2 => intro u hu; simp at hu; subst hu; rfl
      case c3 => unfold maxLen; omega
      case c4 => omega
      case c5 => simp; omega
      · intro v' w4 hown4 hgrow _
        have hR4 : RowsRel w w4 n (k + 1) v' (vs ++ [.slice (some ⟨gx, 0, none⟩) n cx]) (xss ++ [X]) := by
          refine ⟨hown4, OwnAll.snoc ?_ (HR.out.all.mono (fun _ _ _ h' => owns_kept_ty ((owns_below h' hb1 (Nat.le_refl _)).alloc _) (hrow1.alloc _) hgrow)), by rw [List.length_append, HR.out.len]; rfl, ?_, ?_⟩
          · rw [hXl]
            exact owns_kept_ty ((owns_base ho hbs).alloc _) (hrow1.alloc _) hgrow
          · intro y hy
            rcases List.mem_append.1 hy with hy | hy
            · exact HR.out.rows y hy
            · rw [List.mem_singleton.1 hy]; exact ⟨hXr, hXl⟩
          · refine ((HR.out.below.trans (hb1.mono hbs)).alloc (by omega) _).grown hgrow (by simp; omega) (fun g' hg' => (hrow1.lt g' hg').1)
        have HR4 := hide hR4
        clear hR4 hown4 hgrow hrow1 ho
        go_wp2
        go_roundw
        case rel => exact ⟨k + 1, _, _, by omega, by go_num, HR4.out⟩
        case measure => simp [intOf]; omega
    · obtain rfl : k = m := by omega
      have HR := hide hR
      clear hR hbw
      go_wp2
      go_ret
      exact ⟨_, vs, xss, rfl, HR.out⟩

theorem RowsRel.all' {w w' : World} {n m : Nat} {u : Value} {vs : List Value} {xss : List (List Int)} (h : RowsRel w w' n m u vs xss) : IntsAll w' u xss ∧ xss.length = m := by
  have e := OwnAll.length h.all
  have hr := h.row
  rw [← h.len] at hr
  exact ⟨IntsAll.own hr h.all, by rw [← e]; exact h.len⟩

end Go.Proofs.Ytahffpgadoiijaa

/- append of owned slices, nil or not; slices held against nil. -/
namespace Go.Proofs.Ytahffpgadoiijaa
open Go.RowKit

/-- 'append(s, nil...)': s itself, where s is no nil slice. -/
theorem run_append_nothing {P : Program} (w : World) (t ty e : TypeId) (i : TypeInfo) (ht : P.underlying t = some (.slice e)) (hi : P.info? e = some i) (a : Addr) (n cap : Nat) (hn : n ≤ cap) :
    (Builtin.append_ #[t, t] ty #[.slice (some a) n cap, .slice none 0 0]).run P w = .ok (.slice (some a) n cap) w := by
  simp [Builtin.append_, run_underlying ht, sizeOf, typeInfo, hi, Builtin.lenOf, Builtin.firstCells, loadCells, hn, storeCells]

theorem wpList_append_nothing {P : Program} (w : World) {ops : Array Oper} {rest : List Oper} {o : Oper} {a : Act} {Q : Exit → Act → World → Prop} (hgd : o.guard = none) (s x : Operand) (t : TypeId)
    (ho : o.op = .call { callee := .builtin .append, args := #[s, x], argTypes := #[t, t] })
    (e : TypeId) (i : TypeInfo) (ht : P.underlying t = some (.slice e)) (hi : P.info? e = some i)
    (ad : Addr) (n cap : Nat) (hn : n ≤ cap) (hs : a.eval s = .slice (some ad) n cap) (hx : a.eval x = .slice none 0 0)
    (h : wpList P ops Q rest (a.put o.dst (.slice (some ad) n cap)) w) : wpList P ops Q (o :: rest) a w := by
  refine wpList_plain hgd fun K hK => ?_
  have hr := run_append_nothing (P := P) w t o.type e i ht hi ad n cap hn
  unfold Oper.wp execOp
  simp only [ho, resolve, invoke, builtin, Sem.run_bind, Sem.run_pure, Result.andThen_ok, List.map_toArray, List.map_cons, List.map_nil, hs, hx, hr]
  exact hK _ _ h

theorem run_append_nil_nil {P : Program} (w : World) (t ty e : TypeId) (i : TypeInfo) (ht : P.underlying t = some (.slice e)) (hi : P.info? e = some i) :
    (Builtin.append_ #[t, t] ty #[.slice none 0 0, .slice none 0 0]).run P w = .ok (.slice none 0 0) w := by
  simp [Builtin.append_, run_underlying ht, sizeOf, typeInfo, hi, Builtin.lenOf, Builtin.firstCells]

/-- 'append(a, b...)', both owned, nil or not. -/
theorem wpList_append_more {P : Program} {w : World} {ops : Array Oper} {rest : List Oper} {o : Oper} {a : Act} {Q : Exit → Act → World → Prop} (hgd : o.guard = none) (s x : Operand) (t : TypeId)
    (ho : o.op = .call { callee := .builtin .append, args := #[s, x], argTypes := #[t, t] })
    (base base' : Nat) (e : TypeId) (i : TypeInfo) (z : Value) (bytes : Nat) (ht : P.underlying t = some (.slice e)) (hi : P.info? e = some i) (hz : i.zero = some z)
    (hsize : i.size = 1) (hby : i.bytes = bytes) (hzs : z.cells.size = 1)
    (v : Value) (n : Nat) (xs : List Value) (hs : a.eval s = v) (hown : w.ownsRow base e 1 v n xs)
    (u : Value) (m : Nat) (news : List Value) (hx : a.eval x = u) (hsrc : w.ownsRow base' e 1 u m news) (h1 : ∀ u ∈ news, u.oneCell' = true)
    (h63 : n + m ≤ maxLen) (hbytes : (n + m) * bytes ≤ 140737488355328) (hbase : base ≤ w.heap.size)
    (h : ∀ v' w', w'.ownsRow base e 1 v' (n + m) (xs ++ news) → w.grownBy w' v.ownBlock → wpList P ops Q rest (a.put o.dst v') w') :
    wpList P ops Q (o :: rest) a w := by
  rcases hsrc.2 with ⟨rfl, rfl⟩ | ⟨g', cap, cur, rfl, hbg, hg, hnc, hcm, hcs, htake⟩
  · have hn : news = [] := List.length_eq_zero_iff.1 (by have := hsrc.1; omega)
    subst hn
    rw [Nat.add_zero, List.append_nil] at h
    have hr : w.grownBy w v.ownBlock := ⟨rfl, rfl, rfl, Nat.le_refl _, fun _ _ _ => rfl⟩
    rcases hown.2 with ⟨rfl, rfl⟩ | ⟨g2, cap2, cur2, rfl, _, _, hnc2, _⟩
    · refine wpList_plain hgd fun K hK => ?_
      have hrun := run_append_nil_nil (P := P) w t o.type e i ht hi
      unfold Oper.wp execOp
      simp only [ho, resolve, invoke, builtin, Sem.run_bind, Sem.run_pure, Result.andThen_ok, List.map_toArray, List.map_cons, List.map_nil, hs, hx, hrun]
      exact hK _ _ (h _ _ hown hr)
    · exact wpList_append_nothing w hgd s x t ho e i ht hi _ n cap2 hnc2 hs hx (h _ _ hown hr)
  · refine wpList_append_own w hgd s x t ho base e i z 1 bytes ht hi hz hsize hby hzs (by decide) v n xs hs hown ⟨g', 0, none⟩ m cap news hx (by rw [hsrc.1]) (hsrc.cells (g := g') rfl) h1 h63 hbytes hbase ?_
    intro v' w' h2 h3 _
    exact h v' w' h2 h3

theorem OwnAll.join {w : World} {base : Nat} {vs : List Value} {ys : List (List Int)} (h2 : OwnAll w base vs ys) : ∀ {us : List Value} {xs : List (List Int)}, OwnAll w base us xs → OwnAll w base (us ++ vs) (xs ++ ys)
  | [], [], _ => h2
  | _ :: _, _ :: _, ⟨h1, h3⟩ => ⟨h1, OwnAll.join h2 h3⟩

theorem OwnAll.low {w : World} {base base' : Nat} (hb : base' ≤ base) : ∀ {us : List Value} {xs : List (List Int)}, OwnAll w base us xs → OwnAll w base' us xs
  | [], [], _ => trivial
  | _ :: _, _ :: _, ⟨h1, h2⟩ => ⟨owns_base h1 hb, OwnAll.low hb h2⟩

theorem OwnAll.cells {w : World} {base : Nat} : ∀ {us : List Value} {xs : List (List Int)}, OwnAll w base us xs → ∀ u, u ∈ us → u.oneCell' = true
  | [], [], _, u, hu => by cases hu
  | _ :: _, _ :: _, ⟨h1, h2⟩, u, hu => by
    rcases List.mem_cons.1 hu with rfl | hu
    · rcases h1.2 with ⟨rfl, _⟩ | ⟨_, _, _, rfl, _⟩
      · rfl
      · rfl
    · exact OwnAll.cells h2 u hu

theorem run_nil_eq (w : World) : (binOp BinOp.eql 23 (.slice none 0 0) (.slice none 0 0)).run Try.prog w = .ok (.bool true) w := by kernel_rfl
theorem run_nil_ne (w : World) : (binOp BinOp.neq 23 (.slice none 0 0) (.slice none 0 0)).run Try.prog w = .ok (.bool false) w := by kernel_rfl
theorem run_some_eq (a : Addr) (n c : Nat) (w : World) : (binOp BinOp.eql 23 (.slice (some a) n c) (.slice none 0 0)).run Try.prog w = .ok (.bool false) w := by kernel_rfl
theorem run_some_ne (a : Addr) (n c : Nat) (w : World) : (binOp BinOp.neq 23 (.slice (some a) n c) (.slice none 0 0)).run Try.prog w = .ok (.bool true) w := by kernel_rfl

end Go.Proofs.Ytahffpgadoiijaa

/- append of nothing at all. Closed: letters, what has been found, and where it lies. -/
namespace Go.Proofs.Ytahffpgadoiijaa
open Go.RowKit

/-- The letters of some rows: each, and what undoes it. -/
noncomputable def letters : Nat → List (List Int) → List (Int × Pm)
  | _, [] => []
  | k, x :: t => ((k : Int) + 1, pad x) :: (-((k : Int) + 1), (pad x)⁻¹) :: letters (k + 1) t

theorem letters_length (k : Nat) (xss : List (List Int)) : (letters k xss).length = 2 * xss.length := by
  induction xss generalizing k with
  | nil => rfl
  | cons x t ih => rw [letters, List.length_cons, List.length_cons, ih, List.length_cons]; omega

theorem letters_even {k j : Nat} {xss : List (List Int)} {x : List Int} (h : xss[j]? = some x) : (letters k xss)[2 * j]? = some (((k + j : Nat) : Int) + 1, pad x) := by
  induction xss generalizing k j with
  | nil => simp at h
  | cons y t ih =>
    cases j with
    | zero => simp at h; subst h; simp [letters]
    | succ j =>
      rw [List.getElem?_cons_succ] at h
      rw [show 2 * (j + 1) = 2 * j + 1 + 1 by omega, letters, List.getElem?_cons_succ, List.getElem?_cons_succ, ih h]
      rw [show k + 1 + j = k + (j + 1) by omega]

theorem letters_odd {k j : Nat} {xss : List (List Int)} {x : List Int} (h : xss[j]? = some x) : (letters k xss)[2 * j + 1]? = some (-(((k + j : Nat) : Int) + 1), (pad x)⁻¹) := by
  induction xss generalizing k j with
  | nil => simp at h
  | cons y t ih =>
    cases j with
    | zero => simp at h; subst h; simp [letters]
    | succ j =>
      rw [List.getElem?_cons_succ] at h
      rw [show 2 * (j + 1) + 1 = 2 * j + 1 + 1 + 1 by omega, letters, List.getElem?_cons_succ, List.getElem?_cons_succ, ih h]
      rw [show k + 1 + j = k + (j + 1) by omega]

theorem letters_mem {k : Nat} {xss : List (List Int)} {l : Int × Pm} (h : l ∈ letters k xss) : ∃ x, x ∈ xss ∧ (l.2 = pad x ∨ l.2 = (pad x)⁻¹) := by
  induction xss generalizing k with
  | nil => cases h
  | cons y t ih =>
    rw [letters] at h
    rcases List.mem_cons.1 h with rfl | h
    · exact ⟨y, by simp, Or.inl rfl⟩
    · rcases List.mem_cons.1 h with rfl | h
      · exact ⟨y, by simp, Or.inr rfl⟩
      · obtain ⟨x, h1, h2⟩ := ih h
        exact ⟨x, by simp [h1], h2⟩

theorem letters_has {k : Nat} {xss : List (List Int)} {x : List Int} (h : x ∈ xss) : ∃ l, l ∈ letters k xss ∧ l.2 = pad x := by
  induction xss generalizing k with
  | nil => cases h
  | cons y t ih =>
    rcases List.mem_cons.1 h with rfl | h
    · exact ⟨_, by rw [letters]; exact List.mem_cons_self, rfl⟩
    · obtain ⟨l, h1, h2⟩ := ih (k := k + 1) h
      exact ⟨l, by rw [letters]; exact List.mem_cons_of_mem _ (List.mem_cons_of_mem _ h1), h2⟩

/-- Letters make what the rows make. -/
theorem letters_gen (k : Nat) (xss : List (List Int)) (x : Pm) : Gen (fun y => ∃ l, l ∈ letters k xss ∧ l.2 = y) x ↔ Gen (fun y => y ∈ xss.map pad) x := by
  constructor
  · refine Gen.least (Gen.sub _) ?_
    rintro s ⟨l, hl, rfl⟩
    obtain ⟨y, hy, e | e⟩ := letters_mem hl
    · rw [e]; exact Gen.of (List.mem_map.2 ⟨y, hy, rfl⟩)
    · rw [e]; exact Gen.inv (Gen.of (List.mem_map.2 ⟨y, hy, rfl⟩))
  · refine Gen.mono ?_
    intro s hs
    obtain ⟨y, hy, rfl⟩ := List.mem_map.1 hs
    exact letters_has hy

theorem letters_fix {n k : Nat} {xss : List (List Int)} (h12 : n ≤ 12) (h : RowsN n xss) {l : Int × Pm} (hl : l ∈ letters k xss) : Fixes (fun b => n ≤ b) l.2 := by
  obtain ⟨y, hy, e⟩ := letters_mem hl
  have hp := pad_fixes h12 (h y hy).2 (h y hy).1
  rcases e with e | e
  · rw [e]; exact hp
  · rw [e]; exact (fixes_sub _).inv hp

theorem gen_fix {n : Nat} {xss : List (List Int)} (h12 : n ≤ 12) (h : RowsN n xss) {x : Pm} (hx : Gen (fun y => ∃ l, l ∈ letters 0 xss ∧ l.2 = y) x) : Fixes (fun b => n ≤ b) x :=
  hx.least (fixes_sub _) (by rintro s ⟨l, hl, rfl⟩; exact letters_fix h12 h hl)

theorem RunOk.fix {n : Nat} {xss : List (List Int)} {S : List (Pm × List Int)} (h12 : n ≤ 12) (h : RowsN n xss) (hS : RunOk (letters 0 xss) S) {e : Pm × List Int} (he : e ∈ S) : Fixes (fun b => n ≤ b) e.1 := gen_fix h12 h (hS.gen e he)

/-- The rank of a row that is kept as a permutation. -/
def rkP (n : Nat) (x : Pm) : Nat := rkTo (cut n x) n

theorem rkP_inj {n : Nat} (h12 : n ≤ 12) {x y : Pm} (hx : Fixes (fun b => n ≤ b) x) (hy : Fixes (fun b => n ≤ b) y) (h : rkP n x = rkP n y) : x = y := by
  have e : cut n x = cut n y := rank_inj (cut_row h12 hx) (cut_row h12 hy) (by rw [cut_length h12, cut_length h12]) (by rw [cut_length h12, cut_length h12]; exact h)
  rw [← pad_cut h12 hx, ← pad_cut h12 hy, e]

/-- What 'seen' holds: the ranks of what has been found. -/
noncomputable def seenOf (n : Nat) (S : List (Pm × List Int)) : Int → Option Value :=
  open Classical in fun a => if a ∈ S.map (fun e => ((rkP n e.1 : Nat) : Int)) then some (.bool true) else none

theorem seen_old {n : Nat} {S : List (Pm × List Int)} {x : Pm} (h : x ∈ S.map (·.1)) : seenOf n S ((rkP n x : Nat) : Int) = some (.bool true) := by
  unfold seenOf
  obtain ⟨e, he, rfl⟩ := List.mem_map.1 h
  rw [if_pos (List.mem_map.2 ⟨e, he, rfl⟩)]

theorem seen_new {n : Nat} {S : List (Pm × List Int)} {x : Pm} (h12 : n ≤ 12) (hS : ∀ e, e ∈ S → Fixes (fun b => n ≤ b) e.1) (hx : Fixes (fun b => n ≤ b) x) (h : ¬ x ∈ S.map (·.1)) : seenOf n S ((rkP n x : Nat) : Int) = none := by
  unfold seenOf
  rw [if_neg]
  intro hm
  obtain ⟨e, he, h2⟩ := List.mem_map.1 hm
  have h3 : rkP n e.1 = rkP n x := by omega
  exact h (List.mem_map.2 ⟨e, he, rkP_inj h12 (hS e he) hx h3⟩)

theorem seen_put (n : Nat) (S : List (Pm × List Int)) (x : Pm) (u : List Int) (a : Int) : upd (seenOf n S) ((rkP n x : Nat) : Int) (.bool true) a = seenOf n (S ++ [(x, u)]) a := by
  unfold upd seenOf
  by_cases e : a = ((rkP n x : Nat) : Int)
  · rw [if_pos e, if_pos (by rw [e]; simp)]
  · rw [if_neg e]
    by_cases h : a ∈ S.map (fun e => ((rkP n e.1 : Nat) : Int))
    · rw [if_pos h, if_pos (by rw [List.map_append]; exact List.mem_append_left _ h)]
    · rw [if_neg h, if_neg]
      rw [List.map_append]
      intro hm
      rcases List.mem_append.1 hm with hm | hm
      · exact h hm
      · exact e (by simpa using hm)

theorem rkP_one {n : Nat} (h12 : n ≤ 12) : rkP n 1 = 0 := by
  have : cut n 1 = rnd n := by rw [← pad_rnd h12, cut_pad h12 (rnd_length n) (isRow_rnd n)]
  unfold rkP
  rw [this]
  have key : ∀ k, k < 13 → rkTo (rnd k) k = 0 := by decide
  exact key n (by omega)

/-- A row that another block's map leaves as it is. -/
theorem owns_map_kept {w w' : World} {base e size n m k : Nat} {v : Value} {xs : List Value} {f : Int → Option Value} (h : w.ownsRow base e size v n xs) (hm : IMap w m k f) (hg : w.grownBy w' (some m)) : w'.ownsRow base e size v n xs := by
  refine owns_of_block h (fun b hb => hg.block b (h.lt b hb).2 (fun e' => ?_))
  obtain ⟨cur, hc⟩ := owns_obj h hb
  obtain ⟨es, c, ho⟩ := hm.obj
  injection e' with e'
  rw [e', ho] at hc
  cases hc

/-- .. and what another row's growing leaves as it is. -/
theorem owns_row_kept {w w' : World} {base e size n : Nat} {v : Value} {xs : List Value} {g : Option Nat} (h : w.ownsRow base e size v n xs) (hne : v.ownBlock ≠ g ∨ v.ownBlock = none) (hg : w.grownBy w' g) : w'.ownsRow base e size v n xs := by
  refine owns_of_block h (fun b hb => hg.block b (h.lt b hb).2 (fun e' => ?_))
  rcases hne with hne | hne
  · exact hne (hb.trans e')
  · rw [hne] at hb; cases hb

theorem map_row_kept {w w' : World} {base e size n m k : Nat} {v : Value} {xs : List Value} {f : Int → Option Value} (h : w.ownsRow base e size v n xs) (hm : IMap w m k f) (hg : w.grownBy w' v.ownBlock) : IMap w' m k f := by
  refine hm.of_block (hg.block m hm.lt (fun e' => ?_))
  obtain ⟨cur, hc⟩ := owns_obj h e'.symm
  obtain ⟨es, c, ho⟩ := hm.obj
  rw [ho] at hc
  cases hc

/-- Where all that has been found lies: rows, words, and what has been seen. -/
structure CRel (w wr : World) (m : Nat) (vr vw : Value) (vs us : List Value) (A B : List (List Int)) (F : Int → Option Value) (N : Nat) : Prop where
  rows : wr.ownsRow w.heap.size 23 1 vr A.length vs
  words : wr.ownsRow w.heap.size 23 1 vw B.length us
  rowsAt : OwnAll wr w.heap.size vs A
  wordsAt : OwnAll wr w.heap.size us B
  apart : vr.ownBlock ≠ vw.ownBlock
  seen : IMap wr m N F
  mge : w.heap.size ≤ m
  below : Below w.heap.size w wr

theorem ownsRow_block {w : World} {base e size n : Nat} {v : Value} {xs : List Value} (h : w.ownsRow base e size v n xs) (hn : 0 < n) : ∃ b, v.ownBlock = some b := by
  rcases h.2 with ⟨_, h0⟩ | ⟨g, cap, cur, hv, _⟩
  · omega
  · exact ⟨g, by rw [hv]; rfl⟩

theorem CRel.later {w wr w' : World} {m N : Nat} {vr vw : Value} {vs us : List Value} {A B : List (List Int)} {F : Int → Option Value} (h : CRel w wr m vr vw vs us A B F N) (hb : Below wr.heap.size wr w') : CRel w w' m vr vw vs us A B F N :=
  ⟨owns_below h.rows hb (Nat.le_refl _), owns_below h.words hb (Nat.le_refl _), h.rowsAt.mono (fun _ _ _ h' => owns_below h' hb (Nat.le_refl _)), h.wordsAt.mono (fun _ _ _ h' => owns_below h' hb (Nat.le_refl _)), h.apart, h.seen.below hb h.seen.lt, h.mge,
    h.below.trans (hb.mono h.below.size)⟩

theorem CRel.alloc {w wr : World} {m N : Nat} {vr vw : Value} {vs us : List Value} {A B : List (List Int)} {F : Int → Option Value} (h : CRel w wr m vr vw vs us A B F N) (o : Obj) : CRel w (wr.alloc o) m vr vw vs us A B F N :=
  h.later ((Below.refl _ _).alloc (Nat.le_refl _) o)

theorem CRel.put {w wr w' : World} {m N : Nat} {vr vw : Value} {vs us : List Value} {A B : List (List Int)} {F F' : Int → Option Value} (h : CRel w wr m vr vw vs us A B F N) (hm : IMap w' m (N + 1) F') (hg : wr.grownBy w' (some m)) : CRel w w' m vr vw vs us A B F' (N + 1) :=
  ⟨owns_map_kept h.rows h.seen hg, owns_map_kept h.words h.seen hg, h.rowsAt.mono (fun _ _ _ h' => owns_map_kept h' h.seen hg), h.wordsAt.mono (fun _ _ _ h' => owns_map_kept h' h.seen hg), h.apart, hm, h.mge,
    h.below.grown hg h.below.size (fun k hk => by injection hk with hk; rw [← hk]; exact h.mge)⟩

theorem CRel.addRow {w wr w' : World} {m N : Nat} {vr vw v' u : Value} {vs us : List Value} {A B : List (List Int)} {F : Int → Option Value} {X : List Int} (h : CRel w wr m vr vw vs us A B F N) (hown : w'.ownsRow w.heap.size 23 1 v' (A.length + 1) (vs ++ [u])) (hg : wr.grownBy w' vr.ownBlock)
    (hp : v'.ownBlock = vr.ownBlock ∨ (v'.ownBlock = some wr.heap.size ∧ wr.grownBy w' none)) (hu : wr.ownsRow w.heap.size 3 1 u X.length (X.map (Value.int .i64))) : CRel w w' m v' vw (vs ++ [u]) us (A ++ [X]) B F N :=
  ⟨by rw [List.length_append]; exact hown, owns_row_kept h.words (Or.inl (fun e => h.apart e.symm)) hg, OwnAll.snoc (owns_kept_ty hu h.rows hg) (h.rowsAt.mono (fun _ _ _ h' => owns_kept_ty h' h.rows hg)), h.wordsAt.mono (fun _ _ _ h' => owns_kept_ty h' h.rows hg),
    (fun e => by
      rcases hp with hp | ⟨hp, _⟩
      · exact h.apart (hp.symm.trans e)
      · have := (h.words.lt wr.heap.size (e.symm.trans hp)).2
        omega),
    map_row_kept h.rows h.seen hg, h.mge, h.below.grown hg h.below.size (fun g' hg' => (h.rows.lt g' hg').1)⟩

theorem CRel.addWord {w wr w' : World} {m N : Nat} {vr vw v' u : Value} {vs us : List Value} {A B : List (List Int)} {F : Int → Option Value} {X : List Int} (h : CRel w wr m vr vw vs us A B F N) (hown : w'.ownsRow w.heap.size 23 1 v' (B.length + 1) (us ++ [u])) (hg : wr.grownBy w' vw.ownBlock)
    (hp : v'.ownBlock = vw.ownBlock ∨ (v'.ownBlock = some wr.heap.size ∧ wr.grownBy w' none)) (hu : wr.ownsRow w.heap.size 3 1 u X.length (X.map (Value.int .i64))) : CRel w w' m vr v' vs (us ++ [u]) A (B ++ [X]) F N :=
  ⟨owns_row_kept h.rows (Or.inl h.apart) hg, by rw [List.length_append]; exact hown, h.rowsAt.mono (fun _ _ _ h' => owns_kept_ty h' h.words hg), OwnAll.snoc (owns_kept_ty hu h.words hg) (h.wordsAt.mono (fun _ _ _ h' => owns_kept_ty h' h.words hg)),
    (fun e => by
      rcases hp with hp | ⟨hp, _⟩
      · exact h.apart (e.trans hp)
      · have := (h.rows.lt wr.heap.size (e.trans hp)).2
        omega),
    map_row_kept h.words h.seen hg, h.mge, h.below.grown hg h.below.size (fun g' hg' => (h.words.lt g' hg').1)⟩

theorem CRel.congr {w wr : World} {m N : Nat} {vr vw : Value} {vs us : List Value} {A B A' B' : List (List Int)} {F F' : Int → Option Value} (h : CRel w wr m vr vw vs us A B F N) (e1 : A = A') (e2 : B = B') (e3 : ∀ a, F a = F' a) : CRel w wr m vr vw vs us A' B' F' N := by
  subst e1; subst e2
  exact ⟨h.rows, h.words, h.rowsAt, h.wordsAt, h.apart, h.seen.congr e3, h.mge, h.below⟩

end Go.Proofs.Ytahffpgadoiijaa

/- Contract: Closed, the answer's own: rows found one behind the other, with their words. -/
namespace Go.Proofs.Ytahffpgadoiijaa
open Go.RowKit


theorem by_cut {n : Nat} {x : Pm} {Z : List Int} (h12 : n ≤ 12) (hx : Fixes (fun b => n ≤ b) x) (hZ : isRow Z) (hl : Z.length = n) : by_ (cut n x) Z = cut n (x * pad Z) := by
  have hc := cut_row h12 hx
  have hcl := cut_length h12 x
  have hp : pad (by_ (cut n x) Z) = x * pad Z := by rw [pad_by (by rw [hcl]; exact h12) hc hZ (by rw [hcl]; exact hl), pad_cut h12 hx]
  have hr : isRow (by_ (cut n x) Z) := isRow_by hc hZ (by rw [hcl]; exact hl)
  rw [← hp, cut_pad h12 (by rw [by_length]; exact hl) hr]

theorem rkP_le {n : Nat} (x : Pm) (h12 : n ≤ 12) : rkP n x ≤ 479001600 := by
  unfold rkP
  have := rankR_le (cut n x) (by rw [cut_length h12]; exact h12)
  rw [← rkTo_all, cut_length h12] at this
  exact this

theorem wpList_look_is {ops : Array Oper} {rest : List Oper} {o : Oper} {a : Act} {w : World} {Q : Exit → Act → World → Prop} (hg : o.guard = none) (m x : Operand) (t : TypeId) (hop : o.op = Op.lookup t m x false) (e : TypeId) (ht : Try.prog.underlying t = some (.map 3 e)) {z : Value} (hz : (zeroValue e).run Try.prog w = .ok z w)
    {b n : Nat} {f : Int → Option Value} (h : IMap w b n f) (k : Int) (hm : a.eval m = .map (some b)) (hx : a.eval x = .int .i64 k) (h1 : -9223372036854775808 ≤ k) (h2 : k ≤ 9223372036854775807) {v : Value} (hv : (f k).getD z = v)
    (hK : wpList Try.prog ops Q rest (a.put o.dst v) w) : wpList Try.prog ops Q (o :: rest) a w := by
  subst hv
  exact wpList_look hg m x t hop e ht hz h k hm hx h1 h2 hK

/-- 'append([]int{}, xs...)', xs nil or not. -/
theorem wpList_append_copy {P : Program} {w : World} {ops : Array Oper} {rest : List Oper} {o : Oper} {a : Act} {Q : Exit → Act → World → Prop} (hgd : o.guard = none) (s x : Operand) (t : TypeId)
    (ho : o.op = .call { callee := .builtin .append, args := #[s, x], argTypes := #[t, t] })
    (base base' : Nat) (e : TypeId) (i : TypeInfo) (z : Value) (bytes : Nat) (ht : P.underlying t = some (.slice e)) (hi : P.info? e = some i) (hz : i.zero = some z)
    (hsize : i.size = 1) (hby : i.bytes = bytes) (hzs : z.cells.size = 1)
    (g : Nat) (hs : a.eval s = .slice (some ⟨g, 0, none⟩) 0 0) (hown : w.ownsRow base e 1 (.slice (some ⟨g, 0, none⟩) 0 0) 0 [])
    (u : Value) (m : Nat) (news : List Value) (hx : a.eval x = u) (hsrc : w.ownsRow base' e 1 u m news) (h1 : ∀ u ∈ news, u.oneCell' = true)
    (h63 : m ≤ maxLen) (hbytes : m * bytes ≤ 140737488355328) (hbase : base ≤ w.heap.size)
    (h : ∀ v' w', w'.ownsRow base e 1 v' m news → w.grownBy w' (some g) → wpList P ops Q rest (a.put o.dst v') w') :
    wpList P ops Q (o :: rest) a w := by
  rcases hsrc.2 with ⟨rfl, rfl⟩ | ⟨g', cap, cur, rfl, hbg, hg, hnc, hcm, hcs, htake⟩
  · have hn : news = [] := List.length_eq_zero_iff.1 (by have := hsrc.1; omega)
    subst hn
    exact wpList_append_nothing w hgd s x t ho e i ht hi _ 0 0 (Nat.le_refl _) hs hx (h _ _ hown ⟨rfl, rfl, rfl, Nat.le_refl _, fun _ _ _ => rfl⟩)
  · refine wpList_append_own w hgd s x t ho base e i z 1 bytes ht hi hz hsize hby hzs (by decide) _ 0 [] hs hown ⟨g', 0, none⟩ m cap news hx (by rw [hsrc.1]) (hsrc.cells (g := g') rfl) h1 (by omega) (by rw [Nat.zero_add]; exact hbytes) hbase ?_
    intro v' w' h2 h3 _
    rw [Nat.zero_add, List.nil_append] at h2
    exact h v' w' h2 h3

theorem word_at {w : World} {base g n cap i : Nat} {us : List Value} {B : List (List Int)} {X : List Int} (h : w.ownsRow base 23 1 (.slice (some ⟨g, 0, none⟩) n cap) n us) (ha : OwnAll w base us B) (hB : B[i]? = some X) (hn : B.length = n) :
    ∃ u, w.cell? ⟨g, i, none⟩ = some u ∧ w.ownsRow base 3 1 u X.length (X.map (Value.int .i64)) := by
  have hi : i < B.length := (List.getElem?_eq_some_iff.1 hB).1
  have hX : B.getD i [] = X := by rw [List.getD, hB]; rfl
  have ho := ownAll_at ha (j := i) (by rw [OwnAll.length ha]; exact hi)
  rw [hX] at ho
  exact ⟨_, owns_val h (by omega), ho⟩

theorem run_words {L : List (Int × Pm)} {i : Nat} {S : List (Pm × List Int)} (h : Run L i S) : ∀ e, e ∈ S → e.2.length < S.length := by
  have one : ∀ (e0 : Pm × List Int) (S : List (Pm × List Int)) (l : Int × Pm), (∀ e, e ∈ S → e.2.length < S.length) → e0.2.length < S.length → (∀ e, e ∈ tryL e0 S l → e.2.length < (tryL e0 S l).length) ∧ S.length ≤ (tryL e0 S l).length := by
    intro e0 S l hS h0
    by_cases hc : e0.1 * l.2 ∈ S.map (·.1)
    · rw [tryL_old hc]; exact ⟨hS, Nat.le_refl _⟩
    · rw [tryL_new hc, List.length_append]
      refine ⟨fun e he => ?_, by omega⟩
      rcases List.mem_append.1 he with he | he
      · have := hS e he; simp; omega
      · rw [List.mem_singleton.1 he]; simp; omega
  have many : ∀ (M : List (Int × Pm)) (e0 : Pm × List Int) (S : List (Pm × List Int)), (∀ e, e ∈ S → e.2.length < S.length) → e0.2.length < S.length → (∀ e, e ∈ M.foldl (tryL e0) S → e.2.length < (M.foldl (tryL e0) S).length) := by
    intro M
    induction M with
    | nil => intro e0 S hS _; exact hS
    | cons l M ih =>
      intro e0 S hS h0
      have := one e0 S l hS h0
      exact ih e0 _ this.1 (by omega)
  induction h with
  | start => intro e he; rw [List.mem_singleton.1 he]; simp
  | step h he ih => exact many _ _ _ ih (ih _ (List.mem_of_getElem? he))

def ClosedPost (n : Nat) (xss : List (List Int)) (most : Nat) (w : World) (e : Ending) (w' : World) : Prop :=
  Below w.heap.size w w' ∧
  ((∃ vr vw S, e = .returned (.tuple #[vr, vw]) ∧ IntsAll w' vr (S.map (fun e => cut n e.1)) ∧ IntsAll w' vw (S.map (·.2)) ∧ Run (letters 0 xss) S.length S ∧ S.length ≤ most) ∨
   (e = .returned (.tuple #[.slice none 0 0, .slice none 0 0]) ∧ ∃ S, RunOk (letters 0 xss) S ∧ most < S.length))

set_option maxRecDepth 20000 in
set_option maxHeartbeats 4000000 in
theorem closed_ok (n most : Nat) (v : Value) (xss : List (List Int)) (w : World) (h : IntsAll w v xss) (hr : RowsN n xss) (h1 : 1 ≤ n) (h12 : n ≤ 12) (h16 : xss.length ≤ 1000) (hm1 : 1 ≤ most) (hm2 : most ≤ 100000) :
    Calls Try.prog 8 #[.int .i64 n, v, .int .i64 most] w fun e w' => ClosedPost n xss most w e w' := by
  obtain ⟨i0, hi, hz0, hz1, hz2⟩ := info_parts Try.info23
  obtain ⟨j0, hji, hjz0, hjz1, hjz2⟩ := info_parts Try.info3
  have HA := hide h
  have HR := hide hr
  obtain ⟨p0, cap0, rfl⟩ : ∃ p c, v = .slice p xss.length c := by
    obtain ⟨vs, hv, hl, _⟩ := h
    obtain ⟨p, c, e⟩ := hv.form
    exact ⟨p, c, by rw [e, hl]⟩
  obtain ⟨L, hL⟩ : ∃ L, L = letters 0 xss := ⟨_, rfl⟩
  have HL := hide hL
  have hLl : L.length = 2 * xss.length := by rw [hL, letters_length]
  have HLL := hide hLl
  clear h hr hL hLl
  have hmm := @run_makeMap Try.prog
  go_enter Try.func8, Try.ntmps8
  go_wp2_with fail
  refine (rrounds_ok n _ (by omega)).mono ?_
  rintro ex w1 ⟨u0, rfl, ho, hb1⟩
  obtain ⟨g0, c0, rfl, hg0a, hg0b, _, _⟩ := owns_form ho h1
  have hs1 := hb1.size
  have HO := hide ho
  have HM0 : Hid (IMap (((w1.alloc (.cells #[.slice (some ⟨g0, 0, none⟩) n c0] 23)).alloc (.cells #[.slice none 0 0] 23)).alloc (.map #[] 0)) (w1.heap.size + 1 + 1) 0 (fun _ => none)) := by
    have := IMap.made ((w1.alloc (.cells #[.slice (some ⟨g0, 0, none⟩) n c0] 23)).alloc (.cells #[.slice none 0 0] 23))
    unfold Hid
    simpa using this
  have HZL : Hid (0 < maxLen) := by unfold Hid maxLen; omega
  clear ho
  go_wp2_with (refine wpList_insert rfl _ _ _ 62 rfl 4 Try.underlying62 HM0.out HZL.out (0 : Int) (.bool true) rfl rfl rfl (by omega) (by omega) ?_)
  intro w2 hM2 hg2
  have hC0 : CRel w w2 (w1.heap.size + 1 + 1) (.slice (some ⟨w1.heap.size, 0, none⟩) 1 1) (.slice (some ⟨w1.heap.size + 1, 0, none⟩) 1 1) [.slice (some ⟨g0, 0, none⟩) n c0] [.slice none 0 0] ([((1 : Pm), ([] : List Int))].map (fun e => cut n e.1)) ([((1 : Pm), ([] : List Int))].map (·.2)) (seenOf n [(1, [])]) 1 := by
    have hcut : cut n 1 = rnd n := by rw [← pad_rnd h12, cut_pad h12 (rnd_length n) (isRow_rnd n)]
    have ba : Below w1.heap.size w1 (w1.alloc (.cells #[.slice (some ⟨g0, 0, none⟩) n c0] 23)) := (Below.refl _ _).alloc (Nat.le_refl _) _
    have hsz : (w1.alloc (.cells #[.slice (some ⟨g0, 0, none⟩) n c0] 23)).heap.size = w1.heap.size + 1 := by simp
    have o1 : (w1.alloc (.cells #[.slice (some ⟨g0, 0, none⟩) n c0] 23)).ownsRow w.heap.size 23 1 (.slice (some ⟨w1.heap.size, 0, none⟩) 1 1) 1 [.slice (some ⟨g0, 0, none⟩) n c0] := World.ownsRow_lit w1 #[.slice (some ⟨g0, 0, none⟩) n c0] 1 hs1 (by decide) (by simp)
    have o2 := World.ownsRow_lit (base := w.heap.size) (e := 23) (size := 1) (w1.alloc (.cells #[.slice (some ⟨g0, 0, none⟩) n c0] 23)) #[.slice none 0 0] 1 (by rw [hsz]; omega) (by decide) (by simp)
    rw [hsz] at o2
    have m0 := HM0.out
    refine ⟨owns_map_kept ((o1.alloc _).alloc _) m0 hg2, owns_map_kept (o2.alloc _) m0 hg2, ⟨?_, trivial⟩, ⟨owns_map_kept (World.ownsRow_nil _ _ _ _) m0 hg2, trivial⟩, (fun e => by have e' : w1.heap.size = w1.heap.size + 1 := Option.some.inj e; omega), hM2.congr (fun a => ?_), by omega, ?_⟩
    · show w2.ownsRow w.heap.size 3 1 (.slice (some ⟨g0, 0, none⟩) n c0) (cut n 1).length ((cut n 1).map (Value.int .i64))
      rw [hcut, rnd_length]
      exact owns_map_kept (((HO.out.alloc _).alloc _).alloc _) m0 hg2
    · unfold upd seenOf
      rw [List.map_cons, List.map_nil, rkP_one h12]
      by_cases e : a = 0
      · rw [if_pos e, if_pos (by rw [e]; simp)]
      · rw [if_neg e, if_neg (by simpa using e)]
    · exact (((hb1.alloc hb1.size _).alloc (by rw [hsz]; omega) _).alloc (by simp; omega) _).grown hg2 (by simp; omega) (fun k hk => by have e' : w1.heap.size + 1 + 1 = k := Option.some.inj hk; omega)
  have HC0 := hide hC0
  clear hM2 hg2 HM0 HZL hC0 HO
  go_wp2
  go_loopw [8, 9, 11] (fun a8 a9 a11 wr => ∃ (i : Nat) (vs us : List Value) (S : List (Pm × List Int)), i ≤ S.length ∧ a11 = .int .i64 i ∧ Hid (Run L i S) ∧ S.length ≤ most ∧ CRel w wr (w1.heap.size + 1 + 1) a8 a9 vs us (S.map (fun e => cut n e.1)) (S.map (·.2)) (seenOf n S) S.length) (fun _ _ a11 _ => most - (intOf a11).toNat)
  case atStart => exact ⟨0, _, _, _, by simp, rfl, Run.start, by simpa using hm1, HC0.out⟩
  case round =>
    clear HC0
    obtain ⟨i, vs, us, S, hiS, rfl, hRun, hSm, hC⟩ := hrel
    have hlA : (S.map (fun e => cut n e.1)).length = S.length := List.length_map ..
    have hlB : (S.map (·.2)).length = S.length := List.length_map ..
    have hSO := hRun.out.ok
    have hS1 : 1 ≤ S.length := List.length_pos_of_mem hSO.first
    have hCr := hC.rows
    rw [hlA] at hCr
    obtain ⟨gr, cr, rfl, hgra, hgrb, hcra, hcrb⟩ := owns_form hCr hS1
    by_cases hlt : i < S.length
    · obtain ⟨e, hE⟩ : ∃ e, S[i]? = some e := ⟨_, List.getElem?_eq_getElem hlt⟩
      have hem := List.mem_of_getElem? hE
      have HEG := hide (hSO.gen e hem)
      have HEF : Hid (Fixes (fun b => n ≤ b) e.1) := by have := hSO; rw [HL.out] at this; exact this.fix h12 HR.out hem
      have HWL : Hid (e.2.length ≤ 1000000) := by have := run_words hRun.out e hem; unfold Hid; omega
      have HSO := hide hSO
      have HE := hide hE
      have HC := hide hC
      clear hC hCr hSO hE hem hlA hlB
      go_wp2
      go_loopw [8, 9, 12] (fun a8 a9 a12 wr => ∃ (j : Nat) (vs us : List Value) (T : List (Pm × List Int)), j ≤ 2 * xss.length ∧ a12 = .int .i64 j ∧ Hid (T = tryTo L e S j) ∧ T.length ≤ most ∧ CRel w wr (w1.heap.size + 1 + 1) a8 a9 vs us (T.map (fun e => cut n e.1)) (T.map (·.2)) (seenOf n T) T.length) (fun _ _ a12 _ => 2 * xss.length - (intOf a12).toNat)
      case atStart => exact ⟨0, _, _, S, by omega, rfl, rfl, hSm, HC.out⟩
      case round =>
        clear HC hcra hcrb hgra hgrb
        obtain ⟨j, vs, us, T, hj, rfl, HTT, hTm, hC⟩ := hrel
        have hlA : (T.map (fun e => cut n e.1)).length = T.length := List.length_map ..
        have hlB : (T.map (·.2)).length = T.length := List.length_map ..
        obtain ⟨more, hmore⟩ := tryTo_more L e S j
        rw [← HTT.out] at hmore
        have hiT : i < T.length := by rw [hmore, List.length_append]; omega
        have hTi : T[i]? = some e := by rw [hmore, List.getElem?_append_left hlt]; exact HE.out
        have hTO : RunOk L T := by rw [HTT.out]; exact HSO.out.tryTo HEG.out _
        have HTF : Hid (∀ x, x ∈ T → Fixes (fun b => n ≤ b) x.1) := by intro x hx; rw [HL.out] at hTO; exact hTO.fix h12 HR.out hx
        have HEW : Hid ((T.map (·.2))[i]? = some e.2) := by show _ = _; rw [List.getElem?_map, hTi]; rfl
        have HER : Hid ((T.map (fun e => cut n e.1))[i]? = some (cut n e.1)) := by show _ = _; rw [List.getElem?_map, hTi]; rfl
        have hbw := hC.below
        have hws := hbw.size
        have hCr := hC.rows
        rw [hlA] at hCr
        have hCw := hC.words
        rw [hlB] at hCw
        obtain ⟨gr2, cr2, rfl, hgra, hgrb, hcra, hcrb⟩ := owns_form hCr (by omega)
        obtain ⟨gw, cw, rfl, hgwa, hgwb, hcwa, hcwb⟩ := owns_form hCw (by omega)
        by_cases hjl : j < 2 * xss.length
        · obtain ⟨ue, hce, hoe⟩ := word_at hCr hC.rowsAt HER.out hlA
          rw [cut_length h12] at hoe
          obtain ⟨ge, ce, rfl, hgea, hgeb, hcea, hceb⟩ := owns_form hoe h1
          have HOE := hide hoe
          have HC := hide hC
          have hq : ∃ q, q < xss.length ∧ (j = 2 * q ∨ j = 2 * q + 1) := ⟨j / 2, by omega, by omega⟩
          obtain ⟨q, hql, hjq⟩ := hq
          obtain ⟨X, hX⟩ : ∃ X, xss[q]? = some X := ⟨_, List.getElem?_eq_getElem hql⟩
          have hXr := HR.out X (List.mem_of_getElem? hX)
          obtain ⟨us0, hus, hul, hue⟩ := HA.out.below hbw
          obtain ⟨b0, off0, hpp, hcell0⟩ : ∃ b off, p0 = some ⟨b, off, none⟩ ∧ (∀ j, j < us0.length → wr.cell? ⟨b, off + j, none⟩ = some (us0.getD j undef)) := by
            rcases hus with ⟨e, p', c', hv⟩ | ⟨b, off, c', hv, _, hc, _, _, hcell⟩
            · injection hv with _ e2 _; omega
            · injection hv with e1 e2 e3
              exact ⟨b, off, e1, hcell⟩
          subst hpp
          obtain ⟨px, cx, hcx, hix⟩ := elAt hcell0 (k := q) (by omega) (hue q hql)
          have eX : xss.getD q [] = X := by rw [List.getD, hX]; rfl
          rw [eX] at hcx hix
          rw [hXr.2] at hcx hix
          have HX := hide hX
          have HXR := hide hXr.1
          have HXL := hide hXr.2
          clear hC hCr hCw hoe hlA hlB hTO hTi hmore hX hXr hus hul hue hcell0 eX
          rcases hjq with rfl | rfl
          · have HLET : Hid (L[2 * q]? = some ((q : Int) + 1, pad X)) := by show _ = _; rw [HL.out, letters_even HX.out, Nat.zero_add]
            have hdv : ((2 * q : Nat) : Int) / 2 = (q : Int) := by omega
            have hmd : ((2 * q : Nat) : Int) % 2 = 0 := by omega
            have hZr := HXR.out
            have hZl := HXL.out
            have hZi := hix.out
            have hCx := And.intro HC (And.intro HOE.out hws)
            clear HC HOE hix
            have hyL : Hid (L[(2 * q)]? = some (((q : Int) + 1), pad X)) := HLET
            have hyE : by_ (cut n e.1) X = cut n (e.1 * pad X) := by_cut h12 HEF.out hZr hZl
            have hyF : Fixes (fun b => n ≤ b) (e.1 * pad X) := (fixes_sub _).mul HEF.out (pad_fixes h12 hZl hZr)
            have HBY := hide (rby_own (.slice (some ⟨ge, 0, none⟩) n ce) (.slice px n cx) (cut n e.1) X wr (Ints.own hCx.2.1) hZi (fun j hj => by rw [cut_length h12]; have := hZr.at (j := j) hj; rw [hZl] at this; exact this) (by rw [cut_length h12]; exact h1) (by omega))
            rw [hyE] at HBY
            have HYF := hide hyF
            have hZb : X.length = n := hZl
            clear hyE hyF
            go_wp2_with fail
            refine HBY.out.mono ?_
            rintro ex w1 ⟨v1, rfl, ho1, hb1⟩
            obtain ⟨HCX, _, hge1⟩ := hCx
            have hC1 := HCX.out.later hb1
            rw [hZb] at ho1
            obtain ⟨g1, c1, rfl, hg1a, hg1b, _, _⟩ := owns_form ho1 h1
            have HRK := hide (rrank_ok _ (cut n (e.1 * pad X)) w1 (Ints.own ho1) (cut_row h12 HYF.out) (by rw [cut_length h12]; exact h1) (by rw [cut_length h12]; exact h12))
            have HO1 := hide ho1
            have HC1 := hide hC1
            clear HBY ho1 hC1 HCX
            have hkk : rkTo (cut n (e.1 * pad X)) (cut n (e.1 * pad X)).length = rkP n (e.1 * pad X) := by rw [cut_length h12]; rfl
            rw [hkk] at HRK
            have hkb := rkP_le (e.1 * pad X) h12
            clear hkk
            go_wp2_with fail
            refine HRK.out.mono ?_
            rintro ex w2 ⟨rfl, hb2⟩
            have hC2 := HC1.out.later hb2
            have ho2 := owns_below HO1.out hb2 (Nat.le_refl _)
            have hs12 := hb1.size
            have hs22 := hb2.size
            have hbase := hC2.below.size
            have HB1 : Hid (w.heap.size ≤ w1.heap.size) := by have := HC1.out.below.size; exact this
            have hob : w.heap.size ≤ wr.heap.size := hge1
            have hu2 : w2.ownsRow w.heap.size 3 1 (.slice (some ⟨g1, 0, none⟩) n c1) (cut n (e.1 * pad X)).length ((cut n (e.1 * pad X)).map (Value.int .i64)) := by rw [cut_length h12]; exact owns_base ho2 hob
            have HU2 := hide hu2
            clear HRK HC1 HO1 ho2 hu2
            have hk1 : -9223372036854775808 ≤ ((rkP n (e.1 * pad X) : Nat) : Int) := by omega
            have hk2 : ((rkP n (e.1 * pad X) : Nat) : Int) ≤ 9223372036854775807 := by omega
            by_cases hin : e.1 * pad X ∈ T.map (·.1)
            · have hlk : ((seenOf n T) ((rkP n (e.1 * pad X) : Nat) : Int)).getD (.bool false) = .bool true := by rw [seen_old hin]; rfl
              have HM := hide hC2.seen
              have HT : Hid (T = tryTo L e S ((2 * q) + 1)) := by show _ = _; rw [tryTo_succ hyL.out, ← HTT.out, tryL_old hin]
              have HC2 := hide hC2
              have HLK := hide hlk
              clear hin hC2 hlk
              go_wp2_with (at_lookup; refine wpList_look_is rfl _ _ 62 rfl 4 Try.underlying62 (Try.zero4 _) HM.out ((rkP n (e.1 * pad X) : Nat) : Int) rfl rfl hk1 hk2 HLK.out ?_)
              go_wp2
              go_roundw
              case rel => exact ⟨(2 * q) + 1, _, _, T, by omega, by go_num, HT, hTm, HC2.out⟩
              case measure => simp [intOf]; omega
            · have hlk : ((seenOf n T) ((rkP n (e.1 * pad X) : Nat) : Int)).getD (.bool false) = .bool false := by rw [seen_new h12 HTF.out HYF.out hin]; rfl
              have HM := hide hC2.seen
              have HT : Hid (T ++ [(e.1 * pad X, e.2 ++ [((q : Int) + 1)])] = tryTo L e S ((2 * q) + 1)) := by show _ = _; rw [tryTo_succ hyL.out, ← HTT.out, tryL_new hin]
              have HC2 := hide hC2
              have HLK := hide hlk
              clear hin hC2 hlk
              have hTl : T.length < maxLen := by unfold maxLen; omega
              go_wp2_with (first | (at_lookup; refine wpList_look_is rfl _ _ 62 rfl 4 Try.underlying62 (Try.zero4 _) HM.out ((rkP n (e.1 * pad X) : Nat) : Int) rfl rfl hk1 hk2 HLK.out ?_) | (at_mapUpdate; refine wpList_put rfl _ _ _ 62 rfl 4 Try.underlying62 HM.out hTl ((rkP n (e.1 * pad X) : Nat) : Int) (.bool true) rfl rfl rfl hk1 hk2 ?_))
              intro w3 hM3 hg3
              have hC3 := (HC2.out.put hM3 hg3).congr rfl rfl (seen_put n T (e.1 * pad X) (e.2 ++ [((q : Int) + 1)]))
              have HU3 := hide (owns_map_kept HU2.out HM.out hg3)
              have HC3 := hide hC3
              have hs33 := hg3.size
              have hlA : (T.map (fun e => cut n e.1)).length = T.length := List.length_map ..
              have hlB : (T.map (·.2)).length = T.length := List.length_map ..
              have HLA := hide hlA
              have HLB := hide hlB
              have hr3 := (hC3.alloc (.cells #[.slice (some ⟨g1, 0, none⟩) n c1] 23)).rows
              rw [hlA] at hr3
              have HR3 := hide hr3
              clear hM3 hg3 hC3 HM HC2 HLK HU2 hlA hlB hr3
              go_wp2_with (at_builtin; refine wpList_append_keep _ rfl _ _ 22 rfl w.heap.size 23 i0 (.slice none 0 0) 1 24 Try.underlying22 hi hz0 hz1 hz2 rfl (by decide) _ T.length vs rfl HR3.out ⟨w3.heap.size, 0, none⟩ 1 1 [.slice (some ⟨g1, 0, none⟩) n c1] rfl rfl ?c1 ?c2 ?c3 ?c4 ?c5 ?_)
              case c1 => exact cell_one_new _ _ _
              case c2 => intro u hu; simp at hu; subst hu; rfl
              case c3 => unfold maxLen; omega
              case c4 => omega
              case c5 => simp; omega
              intro v4 w4 hown4 hg4 hp4
              have hC4 := (HC3.out.alloc (.cells #[.slice (some ⟨g1, 0, none⟩) n c1] 23)).addRow (X := cut n (e.1 * pad X)) (by rw [HLA.out]; exact hown4) hg4 (hp4.imp id (fun h => ⟨by rw [h.1]; simp, h.2⟩)) (HU3.out.alloc _)
              have hs44 : w3.heap.size ≤ w4.heap.size := by have := hg4.size; simp at this; omega
              obtain ⟨gr4, cr4, rfl, hgr4a, hgr4b, hcr4a, hcr4b⟩ := owns_form hown4 (by omega)
              have HC4 := hide hC4
              have hw4 := hC4.words
              rw [HLB.out] at hw4
              obtain ⟨uw, hcw, how⟩ := word_at hw4 hC4.wordsAt HEW.out HLB.out
              have hgw4 := (hC4.words.lt gw rfl).2
              have hE5 : Hid ((w4.alloc (.cells #[] 3)).ownsRow w4.heap.size 3 1 (.slice (some ⟨w4.heap.size, 0, none⟩) 0 0) 0 []) := World.ownsRow_made w4 #[] 0 (Nat.le_refl _) (by decide) (by simp)
              have hcw5 : (w4.alloc (.cells #[] 3)).cell? ⟨gw, i, none⟩ = some uw := by rw [World.cell?_of_block (w := w4) (a := ⟨gw, i, none⟩) (Below.heap_alloc w4 _ gw hgw4)]; exact hcw
              have HW5 := hide (how.alloc (.cells #[] 3))
              have hwl : e.2.length ≤ 1000000 := HWL.out
              have HMX : Hid (e.2.length ≤ maxLen) := by unfold Hid maxLen; omega
              have HMY : Hid (e.2.length * 8 ≤ 140737488355328) := by unfold Hid; omega
              have HMZ : Hid (w4.heap.size ≤ (w4.alloc (.cells #[] 3)).heap.size) := by unfold Hid; simp
              clear HC3 HU3 HR3 hown4 hg4 hp4 hC4 hcw how hw4
              go_wp2_with (at_builtin; refine wpList_append_copy rfl _ _ 23 rfl w4.heap.size w.heap.size 3 j0 (.int .i64 0) 8 Try.underlying23 hji hjz0 hjz1 hjz2 rfl w4.heap.size rfl hE5.out uw e.2.length (e.2.map (Value.int .i64)) rfl HW5.out (ints_oneCell .i64 e.2) HMX.out HMY.out HMZ.out ?_)
              intro v6 w6 hown6 hg6
              have hb6 : Below w4.heap.size w4 w6 := ((Below.refl _ _).alloc (Nat.le_refl _) _).grown hg6 (by simp) (fun k hk => by have e' : w4.heap.size = k := Option.some.inj hk; omega)
              have hs66 := hb6.size
              have HB6 := hide hb6
              clear hb6 hg6 hE5 HW5 hcw5
              go_wp2_with (at_builtin; refine wpList_append_own _ rfl _ _ 23 rfl w4.heap.size 3 j0 (.int .i64 0) 1 8 Try.underlying23 hji hjz0 hjz1 hjz2 rfl (by decide) _ _ _ rfl (hown6.alloc _) ⟨w6.heap.size, 0, none⟩ 1 1 [.int .i64 ((q : Int) + 1)] rfl rfl ?c1 ?c2 ?c3 ?c4 ?c5 ?_)
              case c1 => exact cell_one_new _ _ _
              case c2 => intro u hu; simp at hu; subst hu; rfl
              case c3 => unfold maxLen; omega
              case c4 => omega
              case c5 => simp; omega
              intro v7 w7 hown7 hg7 _
              have hb7 : Below w4.heap.size w4 w7 := (HB6.out.alloc HB6.out.size _).grown hg7 (by simp; omega) (fun k hk => (hown6.lt k hk).1)
              have hC7 := HC4.out.later hb7
              have ho7 : w7.ownsRow w4.heap.size 3 1 v7 (e.2 ++ [((q : Int) + 1)]).length ((e.2 ++ [((q : Int) + 1)]).map (Value.int .i64)) := by rw [List.length_append, List.map_append]; exact hown7
              obtain ⟨g7, c7, rfl, _, _, _, _⟩ := owns_form ho7 (by simp)
              have HC7 := hide hC7
              have HO7 := hide (owns_base ho7 (show w.heap.size ≤ w4.heap.size by omega))
              have hr7 := (hC7.alloc (.cells #[.slice (some ⟨g7, 0, none⟩) (e.2 ++ [((q : Int) + 1)]).length c7] 23)).words
              rw [HLB.out] at hr7
              have HR7 := hide hr7
              have hs77 := hb7.size
              clear HC4 HB6 hown6 hown7 hg7 hb7 hC7 ho7 hr7
              generalize hlw : (e.2 ++ [((q : Int) + 1)]).length = lw at *
              have HLW := hide hlw
              clear hlw
              go_wp2_with (at_builtin; refine wpList_append_keep _ rfl _ _ 22 rfl w.heap.size 23 i0 (.slice none 0 0) 1 24 Try.underlying22 hi hz0 hz1 hz2 rfl (by decide) _ T.length us rfl HR7.out ⟨w7.heap.size, 0, none⟩ 1 1 [.slice (some ⟨g7, 0, none⟩) lw c7] rfl rfl ?c1 ?c2 ?c3 ?c4 ?c5 ?_)
              case c1 => exact cell_one_new _ _ _
              case c2 => intro u hu; simp at hu; subst hu; rfl
              case c3 => unfold maxLen; omega
              case c4 => omega
              case c5 => simp; omega
              intro v8 w8 hown8 hg8 hp8
              have hC8 := (HC7.out.alloc (.cells #[.slice (some ⟨g7, 0, none⟩) lw c7] 23)).addWord (X := e.2 ++ [((q : Int) + 1)]) (by rw [HLB.out]; exact hown8) hg8 (hp8.imp id (fun h => ⟨by rw [h.1]; simp, h.2⟩)) (by have := HO7.out.alloc (.cells #[.slice (some ⟨g7, 0, none⟩) lw c7] 23); rw [HLW.out]; exact this)
              have HC8 := hide (hC8.congr (A' := (T ++ [(e.1 * pad X, e.2 ++ [((q : Int) + 1)])]).map (fun e => cut n e.1)) (B' := (T ++ [(e.1 * pad X, e.2 ++ [((q : Int) + 1)])]).map (·.2)) (by rw [List.map_append]; rfl) (by rw [List.map_append]; rfl) (fun _ => rfl))
              clear HC7 HO7 HR7 hown8 hg8 hp8 hC8
              by_cases hmost : T.length + 1 ≤ most
              · have hm2 : ¬ ((most : Int) < ((T.length + 1 : Nat) : Int)) := by omega
                go_wp2
                go_roundw
                case rel => exact ⟨(2 * q) + 1, _, _, T ++ [(e.1 * pad X, e.2 ++ [((q : Int) + 1)])], by omega, by go_num, HT, by rw [List.length_append]; exact hmost, by rw [List.length_append]; exact HC8.out⟩
                case measure => simp [intOf]; omega
              · have hm2 : ((most : Int) < ((T.length + 1 : Nat) : Int)) := by omega
                have HOK : Hid (RunOk L (T ++ [(e.1 * pad X, e.2 ++ [((q : Int) + 1)])])) := by show RunOk L _; rw [HT.out]; exact HSO.out.tryTo HEG.out _
                go_wp2
                go_ret2
                exact ⟨HC8.out.below, Or.inr ⟨rfl, T ++ [(e.1 * pad X, e.2 ++ [((q : Int) + 1)])], by rw [← HL.out]; exact HOK.out, by rw [List.length_append]; show most < T.length + 1; omega⟩⟩
          · have HUD := hide (undo_own (.slice px n cx) X wr hix.out HXR.out (by have := HXL.out; omega) (by have := HXL.out; omega))
            have hdv : (2 * (q : Int) + 1) / 2 = (q : Int) := by omega
            have hdq : (2 * q + 1) / 2 = q := by omega
            have hmd : (2 * (q : Int) + 1) % 2 = 1 := by omega
            go_wp2_with fail
            refine HUD.out.mono ?_
            rintro ex wz ⟨vz, zs, rfl, hoz, hzu, hbz⟩
            rw [HXL.out] at hoz
            obtain ⟨gz, cz, rfl, _, _, _, _⟩ := owns_form hoz h1
            have HLET : Hid (L[2 * q + 1]? = some (-((q : Int) + 1), pad zs)) := by show _ = _; rw [HL.out, letters_odd HX.out, Nat.zero_add, pad_undoes (by have := HXL.out; omega) HXR.out hzu]
            have hZr := isRow_undoes HXR.out hzu
            have hZl : zs.length = n := hzu.1.trans HXL.out
            have hZi := Ints.own hoz
            have hce2 : wz.cell? ⟨gr2, i, none⟩ = some (.slice (some ⟨ge, 0, none⟩) n ce) := (hbz.cell (by exact hgrb)).trans hce
            have hCx := And.intro (hide (HC.out.later hbz)) (And.intro (owns_below HOE.out hbz (Nat.le_refl _)) (Nat.le_trans hws hbz.size))
            clear HC HOE hix HUD hoz hzu hce
            have hyL : Hid (L[(2 * q + 1)]? = some ((-((q : Int) + 1)), pad zs)) := HLET
            have hyE : by_ (cut n e.1) zs = cut n (e.1 * pad zs) := by_cut h12 HEF.out hZr hZl
            have hyF : Fixes (fun b => n ≤ b) (e.1 * pad zs) := (fixes_sub _).mul HEF.out (pad_fixes h12 hZl hZr)
            have HBY := hide (rby_own (.slice (some ⟨ge, 0, none⟩) n ce) (.slice (some ⟨gz, 0, none⟩) n cz) (cut n e.1) zs wz (Ints.own hCx.2.1) hZi (fun j hj => by rw [cut_length h12]; have := hZr.at (j := j) hj; rw [hZl] at this; exact this) (by rw [cut_length h12]; exact h1) (by omega))
            rw [hyE] at HBY
            have HYF := hide hyF
            have hZb : zs.length = n := hZl
            clear hyE hyF
            go_wp2_with fail
            refine HBY.out.mono ?_
            rintro ex w1 ⟨v1, rfl, ho1, hb1⟩
            obtain ⟨HCX, _, hge1⟩ := hCx
            have hC1 := HCX.out.later hb1
            rw [hZb] at ho1
            obtain ⟨g1, c1, rfl, hg1a, hg1b, _, _⟩ := owns_form ho1 h1
            have HRK := hide (rrank_ok _ (cut n (e.1 * pad zs)) w1 (Ints.own ho1) (cut_row h12 HYF.out) (by rw [cut_length h12]; exact h1) (by rw [cut_length h12]; exact h12))
            have HO1 := hide ho1
            have HC1 := hide hC1
            clear HBY ho1 hC1 HCX
            have hkk : rkTo (cut n (e.1 * pad zs)) (cut n (e.1 * pad zs)).length = rkP n (e.1 * pad zs) := by rw [cut_length h12]; rfl
            rw [hkk] at HRK
            have hkb := rkP_le (e.1 * pad zs) h12
            clear hkk
            go_wp2_with fail
            refine HRK.out.mono ?_
            rintro ex w2 ⟨rfl, hb2⟩
            have hC2 := HC1.out.later hb2
            have ho2 := owns_below HO1.out hb2 (Nat.le_refl _)
            have hs12 := hb1.size
            have hs22 := hb2.size
            have hbase := hC2.below.size
            have HB1 : Hid (w.heap.size ≤ w1.heap.size) := by have := HC1.out.below.size; exact this
            have hob : w.heap.size ≤ wz.heap.size := hge1
            have hu2 : w2.ownsRow w.heap.size 3 1 (.slice (some ⟨g1, 0, none⟩) n c1) (cut n (e.1 * pad zs)).length ((cut n (e.1 * pad zs)).map (Value.int .i64)) := by rw [cut_length h12]; exact owns_base ho2 hob
            have HU2 := hide hu2
            clear HRK HC1 HO1 ho2 hu2
            have hk1 : -9223372036854775808 ≤ ((rkP n (e.1 * pad zs) : Nat) : Int) := by omega
            have hk2 : ((rkP n (e.1 * pad zs) : Nat) : Int) ≤ 9223372036854775807 := by omega
            by_cases hin : e.1 * pad zs ∈ T.map (·.1)
            · have hlk : ((seenOf n T) ((rkP n (e.1 * pad zs) : Nat) : Int)).getD (.bool false) = .bool true := by rw [seen_old hin]; rfl
              have HM := hide hC2.seen
              have HT : Hid (T = tryTo L e S ((2 * q + 1) + 1)) := by show _ = _; rw [tryTo_succ hyL.out, ← HTT.out, tryL_old hin]
              have HC2 := hide hC2
              have HLK := hide hlk
              clear hin hC2 hlk
              go_wp2_with (at_lookup; refine wpList_look_is rfl _ _ 62 rfl 4 Try.underlying62 (Try.zero4 _) HM.out ((rkP n (e.1 * pad zs) : Nat) : Int) rfl rfl hk1 hk2 HLK.out ?_)
              go_wp2
              go_roundw
              case rel => exact ⟨(2 * q + 1) + 1, _, _, T, by omega, by go_num, HT, hTm, HC2.out⟩
              case measure => simp [intOf]; omega
            · have hlk : ((seenOf n T) ((rkP n (e.1 * pad zs) : Nat) : Int)).getD (.bool false) = .bool false := by rw [seen_new h12 HTF.out HYF.out hin]; rfl
              have HM := hide hC2.seen
              have HT : Hid (T ++ [(e.1 * pad zs, e.2 ++ [(-((q : Int) + 1))])] = tryTo L e S ((2 * q + 1) + 1)) := by show _ = _; rw [tryTo_succ hyL.out, ← HTT.out, tryL_new hin]
              have HC2 := hide hC2
              have HLK := hide hlk
              clear hin hC2 hlk
              have hTl : T.length < maxLen := by unfold maxLen; omega
              go_wp2_with (first | (at_lookup; refine wpList_look_is rfl _ _ 62 rfl 4 Try.underlying62 (Try.zero4 _) HM.out ((rkP n (e.1 * pad zs) : Nat) : Int) rfl rfl hk1 hk2 HLK.out ?_) | (at_mapUpdate; refine wpList_put rfl _ _ _ 62 rfl 4 Try.underlying62 HM.out hTl ((rkP n (e.1 * pad zs) : Nat) : Int) (.bool true) rfl rfl rfl hk1 hk2 ?_))
              intro w3 hM3 hg3
              have hC3 := (HC2.out.put hM3 hg3).congr rfl rfl (seen_put n T (e.1 * pad zs) (e.2 ++ [(-((q : Int) + 1))]))
              have HU3 := hide (owns_map_kept HU2.out HM.out hg3)
              have HC3 := hide hC3
              have hs33 := hg3.size
              have hlA : (T.map (fun e => cut n e.1)).length = T.length := List.length_map ..
              have hlB : (T.map (·.2)).length = T.length := List.length_map ..
              have HLA := hide hlA
              have HLB := hide hlB
              have hr3 := (hC3.alloc (.cells #[.slice (some ⟨g1, 0, none⟩) n c1] 23)).rows
              rw [hlA] at hr3
              have HR3 := hide hr3
              clear hM3 hg3 hC3 HM HC2 HLK HU2 hlA hlB hr3
              go_wp2_with (at_builtin; refine wpList_append_keep _ rfl _ _ 22 rfl w.heap.size 23 i0 (.slice none 0 0) 1 24 Try.underlying22 hi hz0 hz1 hz2 rfl (by decide) _ T.length vs rfl HR3.out ⟨w3.heap.size, 0, none⟩ 1 1 [.slice (some ⟨g1, 0, none⟩) n c1] rfl rfl ?c1 ?c2 ?c3 ?c4 ?c5 ?_)
              case c1 => exact cell_one_new _ _ _
              case c2 => intro u hu; simp at hu; subst hu; rfl
              case c3 => unfold maxLen; omega
              case c4 => omega
              case c5 => simp; omega
              intro v4 w4 hown4 hg4 hp4
              have hC4 := (HC3.out.alloc (.cells #[.slice (some ⟨g1, 0, none⟩) n c1] 23)).addRow (X := cut n (e.1 * pad zs)) (by rw [HLA.out]; exact hown4) hg4 (hp4.imp id (fun h => ⟨by rw [h.1]; simp, h.2⟩)) (HU3.out.alloc _)
              have hs44 : w3.heap.size ≤ w4.heap.size := by have := hg4.size; simp at this; omega
              obtain ⟨gr4, cr4, rfl, hgr4a, hgr4b, hcr4a, hcr4b⟩ := owns_form hown4 (by omega)
              have HC4 := hide hC4
              have hw4 := hC4.words
              rw [HLB.out] at hw4
              obtain ⟨uw, hcw, how⟩ := word_at hw4 hC4.wordsAt HEW.out HLB.out
              have hgw4 := (hC4.words.lt gw rfl).2
              have hE5 : Hid ((w4.alloc (.cells #[] 3)).ownsRow w4.heap.size 3 1 (.slice (some ⟨w4.heap.size, 0, none⟩) 0 0) 0 []) := World.ownsRow_made w4 #[] 0 (Nat.le_refl _) (by decide) (by simp)
              have hcw5 : (w4.alloc (.cells #[] 3)).cell? ⟨gw, i, none⟩ = some uw := by rw [World.cell?_of_block (w := w4) (a := ⟨gw, i, none⟩) (Below.heap_alloc w4 _ gw hgw4)]; exact hcw
              have HW5 := hide (how.alloc (.cells #[] 3))
              have hwl : e.2.length ≤ 1000000 := HWL.out
              have HMX : Hid (e.2.length ≤ maxLen) := by unfold Hid maxLen; omega
              have HMY : Hid (e.2.length * 8 ≤ 140737488355328) := by unfold Hid; omega
              have HMZ : Hid (w4.heap.size ≤ (w4.alloc (.cells #[] 3)).heap.size) := by unfold Hid; simp
              clear HC3 HU3 HR3 hown4 hg4 hp4 hC4 hcw how hw4
              go_wp2_with (at_builtin; refine wpList_append_copy rfl _ _ 23 rfl w4.heap.size w.heap.size 3 j0 (.int .i64 0) 8 Try.underlying23 hji hjz0 hjz1 hjz2 rfl w4.heap.size rfl hE5.out uw e.2.length (e.2.map (Value.int .i64)) rfl HW5.out (ints_oneCell .i64 e.2) HMX.out HMY.out HMZ.out ?_)
              intro v6 w6 hown6 hg6
              have hb6 : Below w4.heap.size w4 w6 := ((Below.refl _ _).alloc (Nat.le_refl _) _).grown hg6 (by simp) (fun k hk => by have e' : w4.heap.size = k := Option.some.inj hk; omega)
              have hs66 := hb6.size
              have HB6 := hide hb6
              clear hb6 hg6 hE5 HW5 hcw5
              go_wp2_with (at_builtin; refine wpList_append_own _ rfl _ _ 23 rfl w4.heap.size 3 j0 (.int .i64 0) 1 8 Try.underlying23 hji hjz0 hjz1 hjz2 rfl (by decide) _ _ _ rfl (hown6.alloc _) ⟨w6.heap.size, 0, none⟩ 1 1 [.int .i64 (-((q : Int) + 1))] rfl rfl ?c1 ?c2 ?c3 ?c4 ?c5 ?_)
              case c1 => exact cell_one_new _ _ _
              case c2 => intro u hu; simp at hu; subst hu; rfl
              case c3 => unfold maxLen; omega
              case c4 => omega
              case c5 => simp; omega
              intro v7 w7 hown7 hg7 _
              have hb7 : Below w4.heap.size w4 w7 := (HB6.out.alloc HB6.out.size _).grown hg7 (by simp; omega) (fun k hk => (hown6.lt k hk).1)
              have hC7 := HC4.out.later hb7
              have ho7 : w7.ownsRow w4.heap.size 3 1 v7 (e.2 ++ [(-((q : Int) + 1))]).length ((e.2 ++ [(-((q : Int) + 1))]).map (Value.int .i64)) := by rw [List.length_append, List.map_append]; exact hown7
              obtain ⟨g7, c7, rfl, _, _, _, _⟩ := owns_form ho7 (by simp)
              have HC7 := hide hC7
              have HO7 := hide (owns_base ho7 (show w.heap.size ≤ w4.heap.size by omega))
              have hr7 := (hC7.alloc (.cells #[.slice (some ⟨g7, 0, none⟩) (e.2 ++ [(-((q : Int) + 1))]).length c7] 23)).words
              rw [HLB.out] at hr7
              have HR7 := hide hr7
              have hs77 := hb7.size
              clear HC4 HB6 hown6 hown7 hg7 hb7 hC7 ho7 hr7
              generalize hlw : (e.2 ++ [(-((q : Int) + 1))]).length = lw at *
              have HLW := hide hlw
              clear hlw
              go_wp2_with (at_builtin; refine wpList_append_keep _ rfl _ _ 22 rfl w.heap.size 23 i0 (.slice none 0 0) 1 24 Try.underlying22 hi hz0 hz1 hz2 rfl (by decide) _ T.length us rfl HR7.out ⟨w7.heap.size, 0, none⟩ 1 1 [.slice (some ⟨g7, 0, none⟩) lw c7] rfl rfl ?c1 ?c2 ?c3 ?c4 ?c5 ?_)
              case c1 => exact cell_one_new _ _ _
              case c2 => intro u hu; simp at hu; subst hu; rfl
              case c3 => unfold maxLen; omega
              case c4 => omega
              case c5 => simp; omega
              intro v8 w8 hown8 hg8 hp8
              have hC8 := (HC7.out.alloc (.cells #[.slice (some ⟨g7, 0, none⟩) lw c7] 23)).addWord (X := e.2 ++ [(-((q : Int) + 1))]) (by rw [HLB.out]; exact hown8) hg8 (hp8.imp id (fun h => ⟨by rw [h.1]; simp, h.2⟩)) (by have := HO7.out.alloc (.cells #[.slice (some ⟨g7, 0, none⟩) lw c7] 23); rw [HLW.out]; exact this)
              have HC8 := hide (hC8.congr (A' := (T ++ [(e.1 * pad zs, e.2 ++ [(-((q : Int) + 1))])]).map (fun e => cut n e.1)) (B' := (T ++ [(e.1 * pad zs, e.2 ++ [(-((q : Int) + 1))])]).map (·.2)) (by rw [List.map_append]; rfl) (by rw [List.map_append]; rfl) (fun _ => rfl))
              clear HC7 HO7 HR7 hown8 hg8 hp8 hC8
              by_cases hmost : T.length + 1 ≤ most
              · have hm2 : ¬ ((most : Int) < ((T.length + 1 : Nat) : Int)) := by omega
                go_wp2
                go_roundw
                case rel => exact ⟨(2 * q + 1) + 1, _, _, T ++ [(e.1 * pad zs, e.2 ++ [(-((q : Int) + 1))])], by omega, by go_num, HT, by rw [List.length_append]; exact hmost, by rw [List.length_append]; exact HC8.out⟩
                case measure => simp [intOf]; omega
              · have hm2 : ((most : Int) < ((T.length + 1 : Nat) : Int)) := by omega
                have HOK : Hid (RunOk L (T ++ [(e.1 * pad zs, e.2 ++ [(-((q : Int) + 1))])])) := by show RunOk L _; rw [HT.out]; exact HSO.out.tryTo HEG.out _
                go_wp2
                go_ret2
                exact ⟨HC8.out.below, Or.inr ⟨rfl, T ++ [(e.1 * pad zs, e.2 ++ [(-((q : Int) + 1))])], by rw [← HL.out]; exact HOK.out, by rw [List.length_append]; show most < T.length + 1; omega⟩⟩
        · have hje : j = L.length := by have := HLL.out; omega
          have HR2 : Hid (Run L (i + 1) T) := by unfold Hid; rw [HTT.out, hje]; exact Run.step hRun.out HE.out
          have HC := hide hC
          clear hC hCr hCw hTO hTi hmore hje hlA hlB
          go_wp2
          go_roundw
          case rel => exact ⟨i + 1, _, _, T, by omega, by go_num, HR2, hTm, HC.out⟩
          case measure => simp [intOf]; omega
    · have hie : i = S.length := by omega
      have hfin : ClosedPost n xss most w (.returned (.tuple #[.slice (some ⟨gr, 0, none⟩) S.length cr, u9])) wr := by
        refine ⟨hC.below, Or.inl ⟨_, _, S, rfl, ?_, ?_, ?_, hSm⟩⟩
        · have e1 := OwnAll.length hC.rowsAt
          have hr := hC.rows
          rw [← e1] at hr
          exact IntsAll.own hr hC.rowsAt
        · have e1 := OwnAll.length hC.wordsAt
          have hr := hC.words
          rw [← e1] at hr
          exact IntsAll.own hr hC.wordsAt
        · have := hRun.out
          rw [hie, HL.out] at this
          exact this
      have HFIN := hide hfin
      clear hfin hC hCr hSO hlA hlB hie
      go_wp2
      go_ret2
      exact HFIN.out

end Go.Proofs.Ytahffpgadoiijaa
