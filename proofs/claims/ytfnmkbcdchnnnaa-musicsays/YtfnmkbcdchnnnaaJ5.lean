/- Joined: MuF, MuG, MuP, RAs, MuQ. -/
import Derived.Test.YtfnmkbcdchnnnaaJ4
import Derived.Test.YtfnmkbcdchnnnaaJ1
import Derived.Test.YtfnmkbcdchnnnaaJ2
/- Contracts: music.readAll, checkRows, All. -/
namespace Go.Proofs.Ytfnmkbcdchnnnaa
open Go.RowKit
set_option maxRecDepth 20000
set_option linter.unusedVariables false

theorem Try.info60 : (Try.prog.info? 60).map (fun i => (i.zero, i.size, i.bytes)) = some (some (.slice none 0 0), 1, 24) := by kernel_rfl

theorem owns_kept_ne {w w' : World} {b1 b2 e1 e2 n m : Nat} {u v : Value} {xs ys : List Value} (h1 : w.ownsRow b1 e1 1 u n xs) (h2 : w.ownsRow b2 e2 1 v m ys) (hne : e1 ≠ e2) (hg : w.grownBy w' v.ownBlock) : w'.ownsRow b1 e1 1 u n xs := by
  refine h1.kept hg ?_
  rcases h1.2 with ⟨rfl, _⟩ | ⟨g1, c1, cur1, rfl, _, hh1, _⟩
  · exact Or.inl rfl
  · right
    rcases h2.2 with ⟨rfl, _⟩ | ⟨g2, c2, cur2, rfl, _, hh2, _⟩
    · intro e; cases e
    · intro e
      have e' : g1 = g2 := by simpa [Value.ownBlock] using e
      subst e'
      rw [hh1] at hh2
      injection hh2 with hh2
      injection hh2 with _ e2 _
      exact absurd e2 hne

/-- The first fault of a list of answers. -/
def fstErr : List Int → Int
  | [] => 0
  | e :: es => if e = 0 then fstErr es else e

theorem fstErr_all {l : List Int} (h : ∀ j, j < l.length → l.getD j 0 = 0) : fstErr l = 0 := by
  induction l with
  | nil => rfl
  | cons e es ih =>
    have h0 := h 0 (by simp)
    simp at h0
    unfold fstErr
    rw [if_pos h0]
    exact ih (fun j hj => by have := h (j + 1) (by simp; omega); simpa using this)

theorem fstErr_at {l : List Int} {k : Nat} (hk : k < l.length) (h : ∀ j, j < k → l.getD j 0 = 0) (hne : l.getD k 0 ≠ 0) : fstErr l = l.getD k 0 := by
  induction l generalizing k with
  | nil => simp at hk
  | cons e es ih =>
    cases k with
    | zero =>
      simp at hne
      unfold fstErr
      rw [if_neg hne]
      rfl
    | succ k =>
      have h0 := h 0 (by omega)
      simp at h0
      unfold fstErr
      rw [if_pos h0, ih (k := k) (by simpa using hk) (fun j hj => by have := h (j + 1) (by omega); simpa using this) (by simpa using hne)]
      simp

theorem fstErr_zero {l : List Int} (h : fstErr l = 0) : ∀ x, x ∈ l → x = 0 := by
  induction l with
  | nil => intro x hx; cases hx
  | cons e es ih =>
    unfold fstErr at h
    by_cases he : e = 0
    · rw [if_pos he] at h
      intro x hx
      rcases List.mem_cons.1 hx with rfl | hx
      · exact he
      · exact ih h x hx
    · rw [if_neg he] at h; exact absurd h he

/-- A slice of texts. -/
def Strs (w : World) (v : Value) (ss : List ByteArray) : Prop := Vals w v (ss.map Value.string)

theorem Strs.len {w : World} {v : Value} {ss : List ByteArray} (h : Strs w v ss) : ∃ p c, v = .slice p ss.length c := by
  obtain ⟨p, c, e⟩ := Vals.form h
  rw [List.length_map] at e
  exact ⟨p, c, e⟩

theorem Strs.below {w w' : World} {v : Value} {ss : List ByteArray} (h : Strs w v ss) (hb : Below w.heap.size w w') : Strs w' v ss := Vals.below h hb

theorem Strs.cell {w : World} {v : Value} {ss : List ByteArray} (h : Strs w v ss) (h0 : 1 ≤ ss.length) : ∃ b off cap, v = .slice (some ⟨b, off, none⟩) ss.length cap ∧ b < w.heap.size ∧ ss.length ≤ cap ∧ cap ≤ 9223372036854775807 ∧
    ∀ k, k < ss.length → w.cell? ⟨b, off + k, none⟩ = some (.string (ss.getD k ByteArray.empty)) := by
  rcases h with ⟨h1, _⟩ | ⟨b, off, cap, rfl, h4, h5, h6, h7, h8⟩
  · simp at h1; subst h1; simp at h0
  · rw [List.length_map] at h4 h5 h8
    refine ⟨b, off, cap, by rw [List.length_map], h7, h5, h6, fun k hk => ?_⟩
    rw [h8 k hk]
    simp [List.getD, hk]

/-- What readAll tells. -/
def allErr (n : Int) (ss : List ByteArray) : Int := fstErr (ss.map (fun s => (mrd n s).1))
def allPat (n : Int) (ss : List ByteArray) : List (List Int) := ss.map (fun s => (mrd n s).2)

def AllPost (n : Int) (ss : List ByteArray) (w : World) (e : Ending) (w' : World) : Prop :=
  ∃ v, e = .returned (.tuple #[v, .int .i64 (allErr n ss)]) ∧ Below w.heap.size w w' ∧ (allErr n ss = 0 → IntsAll w' v (allPat n ss)) ∧ ∃ p k c, v = .slice p k c

theorem allPat_snoc (n : Int) (ss : List ByteArray) (k : Nat) (h : k < ss.length) : allPat n (ss.take (k + 1)) = allPat n (ss.take k) ++ [(mrd n (ss.getD k ByteArray.empty)).2] := by
  unfold allPat
  rw [List.take_succ_eq_append_getElem h, List.map_append]
  simp [List.getD, h]

set_option maxHeartbeats 4000000 in
theorem readAll_ok (n : Int) (v : Value) (ss : List ByteArray) (w : World) (hs : Strs w v ss) (hl : ss.length ≤ 100) :
    Calls Try.prog 29 #[.int .i64 n, v] w (AllPost n ss w) := by
  obtain ⟨i0, hi, hz0, hz1, hz2⟩ := info_parts Try.info60
  obtain ⟨p0, c0, rfl⟩ := hs.len
  have HS := hide hs
  clear hs
  go_enter Try.func29, Try.ntmps29
  go_wp2
  go_loopw [6, 13] (fun v i wr => ∃ (k : Nat) (vs : List Value), k ≤ ss.length ∧ i = .int .i64 k ∧ Hid (∀ j, j < k → (mrd n (ss.getD j ByteArray.empty)).1 = 0) ∧ Hid (vs.length = k) ∧ wr.ownsRow w.heap.size 60 1 v k vs ∧ Hid (OwnAll wr w.heap.size vs (allPat n (ss.take k))) ∧ Below w.heap.size w wr) (fun _ i _ => ss.length - (intOf i).toNat)
  case atStart => exact ⟨0, [], by omega, rfl, (fun j hj => absurd hj (by omega)), rfl, World.ownsRow_nil _ _ _ _, trivial, Below.refl _ _⟩
  case round =>
    obtain ⟨k, vs, hk, rfl, hN, hvl, hown, hall, hbw⟩ := hrel
    have hbs := hbw.size
    by_cases hlt : k < ss.length
    · obtain ⟨b, off, cap, he, hb3, hlc3, hcm3, hcell3⟩ := (HS.out.below hbw).cell (by omega)
      simp only [Value.slice.injEq] at he
      obtain ⟨rfl, _, rfl⟩ := he
      have hce := hcell3 k hlt
      have HR := hide (mread_any n (ss.getD k ByteArray.empty) wr)
      have HSN := hide (allPat_snoc n ss k hlt)
      have HE : Hid ((mrd n (ss.getD k ByteArray.empty)).1 ≠ 0 → allErr n ss = (mrd n (ss.getD k ByteArray.empty)).1) := fun hne => by
        have e1 : ∀ j, j < ss.length → (ss.map (fun s => (mrd n s).1)).getD j 0 = (mrd n (ss.getD j ByteArray.empty)).1 := fun j hj => by simp [List.getD, hj]
        unfold allErr
        rw [fstErr_at (k := k) (by simpa using hlt) (fun j hj => by rw [e1 j (by omega)]; exact hN.out j hj) (by rw [e1 k hlt]; exact hne), e1 k hlt]
      have HN1 : Hid ((mrd n (ss.getD k ByteArray.empty)).1 = 0 → ∀ j, j < k + 1 → (mrd n (ss.getD j ByteArray.empty)).1 = 0) := fun h0 j hj => by
        rcases Nat.lt_succ_iff_lt_or_eq.1 hj with h | h
        · exact hN.out j h
        · rw [h]; exact h0
      clear hcell3 hN
      generalize ss.getD k ByteArray.empty = s at *
      go_wp2_with fail
      refine HR.out.mono ?_
      rintro e w1 ⟨v1, rfl, hb1, hown1⟩
      obtain ⟨p1, c1, rfl⟩ := owns_slice hown1
      have hB1 := hbw.trans (hb1.mono hbs)
      have hs1 := hB1.size
      by_cases h0 : (mrd n s).1 = 0
      · have HN2 := hide (HN1.out h0)
        rw [h0]
        have hownk := owns_below hown hb1 (Nat.le_refl _)
        have hallk := hide (hall.out.mono (w' := w1) (fun _ _ _ h => owns_below h hb1 (Nat.le_refl _)))
        have hown1' := hide (owns_base hown1 hbs)
        clear HE HN1 HR hown hall hown1 h0 hb1
        generalize (mrd n s).2 = pat at *
        generalize hpl : pat.length = pl at *
        go_wp2_with (at_builtin; refine wpList_append_own _ rfl _ _ 56 rfl w.heap.size 60 i0 (.slice none 0 0) 1 24 Try.underlying56 hi hz0 hz1 hz2 rfl (by decide) _ _ _ rfl (hownk.alloc _) ⟨w1.heap.size, 0, none⟩ 1 1 [.slice p1 pl c1] rfl rfl ?c1 ?c2 ?c3 ?c4 ?c5 ?_)
        case c1 => exact cell_one_new _ _ _
        case c2 => intro u hu; simp at hu; subst hu; rfl
        case c3 => unfold maxLen; omega
        case c4 => omega
        case c5 => simp; omega
        intro v' w3 hown' hgrow _
        have hB3 : Below w.heap.size w w3 := (hB1.alloc hB1.size _).grown hgrow (by simp; omega) (fun g hg => (hownk.lt g hg).1)
        have HO3 : Hid (OwnAll w3 w.heap.size (vs ++ [.slice p1 pl c1]) (allPat n (ss.take (k + 1)))) := by
          rw [HSN.out]
          refine OwnAll.snoc ?_ (hallk.out.mono (fun _ _ _ h => owns_kept_ne (h.alloc _) (hownk.alloc _) (by decide) hgrow))
          rw [hpl]
          exact owns_kept_ne (hown1'.out.alloc _) (hownk.alloc _) (by decide) hgrow
        have hvl2 : Hid ((vs ++ [Value.slice p1 pl c1]).length = k + 1) := by show _ = _; rw [List.length_append, hvl.out]; rfl
        clear hownk hallk hown1' hgrow HSN
        go_wp2
        go_roundw
        case rel => exact ⟨k + 1, _, by omega, by go_num, HN2, hvl2, hown', HO3, hB3⟩
        case measure => simp [intOf]; omega
      · have HF : Hid (AllPost n ss w (.returned (.tuple #[.slice none 0 0, .int .i64 (mrd n s).1])) w1) := by
          refine ⟨_, by rw [HE.out h0], hB1, fun h => absurd (HE.out h0 ▸ h) h0, _, _, _, rfl⟩
        have hne : ((mrd n s).1 != 0) = true := by rw [bne_iff_ne]; exact h0
        clear HE HN1 HR hown hall hown1 h0 hb1 hB1
        generalize (mrd n s).1 = code at *
        generalize (mrd n s).2.length = pl at *
        go_wp2
        go_ret2
        exact HF.out
    · obtain rfl : k = ss.length := by omega
      have h0 : allErr n ss = 0 := fstErr_all (fun j hj => by
        rw [List.length_map] at hj
        have := hN.out j hj
        simp [List.getD, hj] at this ⊢
        exact this)
      obtain ⟨p2, c2, rfl⟩ := owns_slice hown
      have HF : Hid (AllPost n ss w (.returned (.tuple #[.slice p2 ss.length c2, .int .i64 0])) wr) := ⟨_, by rw [h0], hbw, fun _ => IntsAll.own (by rw [hvl.out]; exact hown) (by have := hall.out; rwa [List.take_length] at this), _, _, _, rfl⟩
      clear h0 hown hall hN hvl
      go_wp2
      go_ret2
      exact HF.out

/-- What checkRows says of a row. -/
def rwe (n : Int) (r : List Int) : Int := if chk r ≠ 0 then chk r else if (r.length : Int) ≠ n then 1 else 0

def rowsErr (n : Int) (rows : List (List Int)) : Int := fstErr (rows.map (rwe n))

set_option maxHeartbeats 4000000 in
theorem checkRows_ok (n : Int) (v : Value) (L : List (List Int)) (w : World) (hX : IntsAll w v L) (hl : L.length ≤ 1000000) :
    Calls Try.prog 30 #[.int .i64 n, v] w fun e w' => e = .returned (.int .i64 (rowsErr n L)) ∧ Below w.heap.size w w' := by
  obtain ⟨p0, c0, rfl⟩ := hX.len
  have HX := hide hX
  generalize hgr : rowsErr n L = res
  have HG := hide hgr
  clear hX hgr
  go_enter Try.func30, Try.ntmps30
  go_wp2
  go_loopw [10] (fun i wr => ∃ k : Nat, k ≤ L.length ∧ i = .int .i64 k ∧ Hid (∀ j, j < k → rwe n (L.getD j []) = 0) ∧ Below w.heap.size w wr) (fun i _ => L.length - (intOf i).toNat)
  case atStart => exact ⟨0, by omega, rfl, (fun j hj => absurd hj (by omega)), Below.refl _ _⟩
  case round =>
    obtain ⟨k, hk, rfl, hN, hbw⟩ := hrel
    by_cases hlt : k < L.length
    · obtain ⟨b, off, cap, he, hb3, hlc3, hcm3, hcell3⟩ := (HX.out.below hbw).cell (by omega)
      simp only [Value.slice.injEq] at he
      obtain ⟨rfl, _, rfl⟩ := he
      obtain ⟨q, cc, hce, hint⟩ := hcell3 k hlt
      have HC := hide (check_any _ _ wr hint.out)
      have HE : Hid (rwe n (L.getD k []) ≠ 0 → res = rwe n (L.getD k [])) := fun hne => by
        have e1 : ∀ j, j < L.length → (L.map (rwe n)).getD j 0 = rwe n (L.getD j []) := fun j hj => by simp [List.getD, hj]
        rw [← HG.out]
        unfold rowsErr
        rw [fstErr_at (k := k) (by simpa using hlt) (fun j hj => by rw [e1 j (by omega)]; exact hN.out j hj) (by rw [e1 k hlt]; exact hne), e1 k hlt]
      have HN1 : Hid (rwe n (L.getD k []) = 0 → ∀ j, j < k + 1 → rwe n (L.getD j []) = 0) := fun h0 j hj => by
        rcases Nat.lt_succ_iff_lt_or_eq.1 hj with h | h
        · exact hN.out j h
        · rw [h]; exact h0
      clear hcell3 hint hN
      generalize L.getD k [] = x at *
      by_cases h0 : chk x = 0
      · have hx12 := (chk_zero h0).2.1
        rw [h0] at HC
        by_cases hn : (x.length : Int) = n
        · have HN2 := hide (HN1.out (by unfold rwe; rw [if_neg (by simpa using h0), if_neg (by simpa using hn)]))
          have hne : ((x.length : Int) != n) = false := by rw [bne_eq_false_iff_eq]; exact hn
          have hnn := hide hn
          clear HE HN1 h0 hn
          generalize x.length = xl at *
          go_wp2_with fail
          refine HC.out.mono ?_
          rintro e w2 ⟨rfl, hb2⟩
          have hB2 := hbw.trans (hb2.mono hbw.size)
          clear hb2
          go_wp2
          go_roundw
          case rel => exact ⟨k + 1, by omega, by go_num, HN2, hB2⟩
          case measure => simp [intOf]; omega
        · have hres : res = 1 := by
            have e2 : rwe n x = 1 := by unfold rwe; rw [if_neg (by simpa using h0), if_pos hn]
            rw [HE.out (by rw [e2]; decide), e2]
          subst hres
          have hne : ((x.length : Int) != n) = true := by rw [bne_iff_ne]; exact hn
          have hnn := hide hn
          clear HE HN1 h0 hn
          generalize x.length = xl at *
          go_wp2_with fail
          refine HC.out.mono ?_
          rintro e w2 ⟨rfl, hb2⟩
          have hB2 := hbw.trans (hb2.mono hbw.size)
          clear hb2
          go_wp2
          go_ret
          exact ⟨rfl, hB2⟩
      · have hres : res = chk x := by
          have e2 : rwe n x = chk x := by unfold rwe; rw [if_pos h0]
          rw [HE.out (by rw [e2]; exact h0), e2]
        have HRes := hide hres
        have hne : (chk x != 0) = true := by rw [bne_iff_ne]; exact h0
        clear HE HN1 h0 hres HG
        generalize chk x = code at *
        generalize x.length = xl at *
        go_wp2_with fail
        refine HC.out.mono ?_
        rintro e w2 ⟨rfl, hb2⟩
        have hB2 := hbw.trans (hb2.mono hbw.size)
        clear hb2
        go_wp2
        go_ret
        exact ⟨by rw [HRes.out]; rfl, hB2⟩
    · have hres : res = 0 := by
        rw [← HG.out]
        exact fstErr_all (fun j hj => by
          rw [List.length_map] at hj
          have := hN.out j (by omega)
          simp [List.getD, hj] at this ⊢
          exact this)
      subst hres
      go_wp2
      go_ret
      exact ⟨rfl, hbw⟩

/-- What All tells. -/
def mall (n : Int) (s : ByteArray) : Int × Int := if (mrd n s).1 = 0 then ((fct (fre (mrd n s).2) : Nat), 0) else (0, (mrd n s).1)

theorem fct_succ' (k : Nat) : fct (k + 1) = fct k * (k + 1) := by rw [fct]; exact Nat.mul_comm _ _

set_option maxHeartbeats 4000000 in
theorem mall_any (n : Int) (s : ByteArray) (w : World) : Calls Try.prog 11 #[.int .i64 n, .string s] w fun e w' => e = .returned (.tuple #[.int .i64 (mall n s).1, .int .i64 (mall n s).2]) ∧ Below w.heap.size w w' := by
  have H := hide (mread_any n s w)
  generalize hg1 : (mall n s).1 = a1
  generalize hg2 : (mall n s).2 = a2
  by_cases h0 : (mrd n s).1 = 0
  · obtain ⟨hl, hn1, hn12⟩ := mrd_len h0
    have e1 : a1 = (fct (fre (mrd n s).2) : Nat) := by rw [← hg1]; unfold mall; rw [if_pos h0]
    have e2 : a2 = 0 := by rw [← hg2]; unfold mall; rw [if_pos h0]
    subst e2
    have E1 := hide e1
    have hfl := fre_le (mrd n s).2
    have h00 := hide h0
    clear hg1 hg2 e1 h0
    go_enter Try.func11, Try.ntmps11
    go_wp2_with fail
    refine H.out.mono ?_
    rintro e w1 ⟨v, rfl, hb, hown⟩
    rw [h00.out]
    have HFR := hide (free_ok v (mrd n s).2 w1 (Ints.own hown) (by omega))
    obtain ⟨p, c, rfl⟩ := owns_slice hown
    clear hown H h00
    generalize (mrd n s).2 = pat at *
    generalize fre pat = f at *
    generalize pat.length = pl at *
    have hf12 : f ≤ 12 := by omega
    go_wp2_with fail
    refine HFR.out.mono ?_
    rintro e w2 ⟨rfl, hb2⟩
    have hB2 := hb.trans (hb2.mono hb.size)
    clear hb hb2 HFR
    go_wp2
    go_loopw [8, 21] (fun m i wr => ∃ k : Nat, k ≤ f ∧ i = .int .i64 k ∧ m = .int .i64 (fct k) ∧ Below w.heap.size w wr) (fun _ i _ => f - (intOf i).toNat)
    case atStart => exact ⟨0, by omega, rfl, rfl, hB2⟩
    case round =>
      obtain ⟨k, hk, rfl, rfl, hbw⟩ := hrel
      by_cases hlt : k < f
      · have hfl : fct k ≤ 39916800 := by
          have : ∀ j : Fin 12, fct j.1 ≤ 39916800 := by decide +kernel
          exact this ⟨k, by omega⟩
        have hm : ((fct (k + 1) : Nat) : Int) = (fct k : Int) * ((k : Int) + 1) := by rw [fct_succ']; push_cast; rfl
        have HM := hide hm
        have hw1 : IntKind.i64.wrap ((fct k : Int) * ((k : Int) + 1)) = (fct k : Int) * ((k : Int) + 1) := by
          rw [← hm, IntKind.wrap_i64]
          have : ∀ j : Fin 13, fct j.1 ≤ 479001600 := by decide +kernel
          have := this ⟨k + 1, by omega⟩
          simp at this
          omega
        clear hm
        generalize fct k = q at *
        go_wp2
        go_roundw
        case rel => exact ⟨k + 1, by omega, by go_num, by rw [HM.out], hbw⟩
        case measure => simp [intOf]; omega
      · obtain rfl : k = f := by omega
        go_wp2
        go_ret2
        exact ⟨by rw [E1.out]; rfl, hbw⟩
  · have e1 : a1 = 0 := by rw [← hg1]; unfold mall; rw [if_neg h0]
    have e2 : a2 = (mrd n s).1 := by rw [← hg2]; unfold mall; rw [if_neg h0]
    subst e1
    have E2 := hide e2
    have hne : ((mrd n s).1 != 0) = true := by rw [bne_iff_ne]; exact h0
    clear hg1 hg2 e2 h0
    go_enter Try.func11, Try.ntmps11
    go_wp2_with fail
    refine H.out.mono ?_
    rintro e w1 ⟨v, rfl, hb, hown⟩
    obtain ⟨p, c, rfl⟩ := owns_slice hown
    clear hown H
    generalize (mrd n s).1 = code at *
    generalize (mrd n s).2.length = pl at *
    go_wp2
    go_ret2
    exact ⟨by rw [E2.out]; rfl, hb⟩

end Go.Proofs.Ytfnmkbcdchnnnaa

/- Contract: music.Count. -/
namespace Go.Proofs.Ytfnmkbcdchnnnaa
open Go.RowKit
set_option maxRecDepth 20000
set_option linter.unusedVariables false

/-- How many rows are like a pattern. -/
def lkn (p : List Int) (L : List (List Int)) : Nat := (L.filter (fts p)).length

theorem lkn_le (p : List Int) (L : List (List Int)) : lkn p L ≤ L.length := List.length_filter_le _ _

theorem lkn_snoc (p : List Int) (L : List (List Int)) (k : Nat) (h : k < L.length) : lkn p (L.take (k + 1)) = lkn p (L.take k) + if fts p (L.getD k []) then 1 else 0 := by
  unfold lkn
  rw [List.take_succ_eq_append_getElem h, List.filter_append, List.length_append]
  have e : L.getD k [] = L[k] := by simp [List.getD, h]
  rw [e]
  cases h2 : fts p L[k] <;> simp [List.filter, h2]

/-- What Count answers. -/
def mcount (n : Int) (ss : List ByteArray) (L : List (List Int)) : Int × List Int :=
  if 50 < ss.length ∨ 20001 < L.length then (3, [])
  else if allErr n ss ≠ 0 then (allErr n ss, [])
  else if rowsErr n L ≠ 0 then (rowsErr n L, [])
  else (0, (allPat n ss).map (fun p => ((lkn p L : Nat) : Int)))

def CntPost (n : Int) (ss : List ByteArray) (L : List (List Int)) (w : World) (e : Ending) (w' : World) : Prop :=
  ∃ v, e = .returned (.tuple #[v, .int .i64 (mcount n ss L).1]) ∧ Below w.heap.size w w' ∧ Ints w' v (mcount n ss L).2

/-- The counts as far as k, and of the next pattern as far as j. -/
structure CntRel (P L : List (List Int)) (k j : Nat) (zs : List Int) : Prop where
  len : zs.length = P.length
  done : ∀ i, i < k → zs.getD i 0 = ((lkn (P.getD i []) L : Nat) : Int)
  cur : k < P.length → zs.getD k 0 = ((lkn (P.getD k []) (L.take j) : Nat) : Int)
  rest : ∀ i, k < i → i < P.length → zs.getD i 0 = 0

theorem CntRel.start (P L : List (List Int)) : CntRel P L 0 0 (List.replicate P.length 0) := by
  refine ⟨by simp, fun i hi => absurd hi (by omega), fun h => ?_, fun i _ hi => ?_⟩
  · rw [List.getD_eq_getElem?_getD, List.getElem?_replicate_of_lt h]; simp [lkn]
  · rw [List.getD_eq_getElem?_getD, List.getElem?_replicate_of_lt hi]; rfl

theorem CntRel.no {P L : List (List Int)} {k j : Nat} {zs : List Int} (h : CntRel P L k j zs) (hj : j < L.length) (hf : fts (P.getD k []) (L.getD j []) = false) : CntRel P L k (j + 1) zs :=
  ⟨h.len, h.done, fun hk => by rw [h.cur hk, lkn_snoc _ _ _ hj, hf]; simp, h.rest⟩

theorem CntRel.yes {P L : List (List Int)} {k j : Nat} {zs : List Int} (h : CntRel P L k j zs) (hk : k < P.length) (hj : j < L.length) (hf : fts (P.getD k []) (L.getD j []) = true) : CntRel P L k (j + 1) (zs.set k (zs.getD k 0 + 1)) := by
  have hl := h.len
  refine ⟨by rw [List.length_set]; exact h.len, fun i hi => ?_, fun hk => ?_, fun i hi hi2 => ?_⟩
  · rw [getD_set (by omega), if_neg (by omega)]; exact h.done i hi
  · rw [getD_set (by omega), if_pos rfl, h.cur hk, lkn_snoc _ _ _ hj, hf]; simp
  · rw [getD_set (by omega), if_neg (by omega)]; exact h.rest i hi hi2

theorem CntRel.next {P L : List (List Int)} {k : Nat} {zs : List Int} (h : CntRel P L k L.length zs) (hk : k < P.length) : CntRel P L (k + 1) 0 zs := by
  refine ⟨h.len, fun i hi => ?_, fun hk2 => ?_, fun i hi hi2 => h.rest i (by omega) hi2⟩
  · rcases Nat.lt_succ_iff_lt_or_eq.1 hi with h1 | h1
    · exact h.done i h1
    · subst h1
      have := h.cur hk
      rwa [List.take_length] at this
  · rw [h.rest (k + 1) (by omega) hk2]; simp [lkn]

theorem CntRel.all {P L : List (List Int)} {j : Nat} {zs : List Int} (h : CntRel P L P.length j zs) : zs = P.map (fun p => ((lkn p L : Nat) : Int)) := by
  refine ext_getD (by rw [h.len, List.length_map]) (fun i hi => ?_)
  rw [h.len] at hi
  rw [h.done i hi]
  simp [List.getD, hi]

set_option maxHeartbeats 4000000 in
theorem count_limit (n : Int) (v1 v2 : Value) (ss : List ByteArray) (L : List (List Int)) (w : World) (h1 : Strs w v1 ss) (h2 : IntsAll w v2 L) (h : 50 < ss.length ∨ 20001 < L.length) :
    Calls Try.prog 7 #[.int .i64 n, v1, v2] w (CntPost n ss L w) := by
  obtain ⟨p0, c0, rfl⟩ := h1.len
  obtain ⟨p1, c1, rfl⟩ := h2.len
  have HF : Hid (CntPost n ss L w (.returned (.tuple #[.slice none 0 0, .int .i64 3])) w) := by
    unfold CntPost mcount
    rw [if_pos h]
    exact ⟨_, rfl, Below.refl _ _, Ints.nil _⟩
  clear h1 h2
  generalize ss.length = a at *
  generalize L.length = b at *
  by_cases h1 : 50 < a
  · have h1' : (50 : Int) < (a : Int) := by omega
    go_enter Try.func7, Try.ntmps7
    go_wp2
    go_ret2
    exact HF.out
  · have h1' : ¬ (50 : Int) < (a : Int) := by omega
    have h2' : (20001 : Int) < (b : Int) := by omega
    go_enter Try.func7, Try.ntmps7
    go_wp2
    go_ret2
    exact HF.out

set_option maxHeartbeats 8000000 in
theorem count_ok (n : Int) (v1 v2 : Value) (ss : List ByteArray) (L : List (List Int)) (w : World) (h1 : Strs w v1 ss) (h2 : IntsAll w v2 L) (hs : ss.length ≤ 50) (hL : L.length ≤ 20001) :
    Calls Try.prog 7 #[.int .i64 n, v1, v2] w (CntPost n ss L w) := by
  obtain ⟨i0, hi, hz0, hz1, hz2⟩ := info_parts Try.info3
  have HRA := hide (readAll_ok n v1 ss w h1 (by omega))
  have HCR := hide (fun W (hW : Below w.heap.size w W) => checkRows_ok n v2 L W (h2.below hW) (by omega))
  obtain ⟨p0, c0, rfl⟩ := h1.len
  obtain ⟨p1, c1, rfl⟩ := h2.len
  have HL2 := hide h2
  have HMC : Hid (mcount n ss L = if allErr n ss ≠ 0 then (allErr n ss, []) else if rowsErr n L ≠ 0 then (rowsErr n L, []) else (0, (allPat n ss).map (fun p => ((lkn p L : Nat) : Int)))) := by
    show _ = _
    unfold mcount
    rw [if_neg (by omega)]
  have hs' : ¬ (50 : Int) < (ss.length : Int) := by omega
  have hL' : ¬ (20001 : Int) < (L.length : Int) := by omega
  clear h1 h2
  by_cases hE : allErr n ss ≠ 0
  · rw [if_pos hE] at HMC
    have hne : (allErr n ss != 0) = true := by rw [bne_iff_ne]; exact hE
    clear hE HCR HL2
    go_enter Try.func7, Try.ntmps7
    go_wp2_with fail
    refine HRA.out.mono ?_
    rintro e w1 ⟨v, rfl, hb, _, p, k, c, rfl⟩
    have HF : Hid (CntPost n ss L w (.returned (.tuple #[.slice none 0 0, .int .i64 (allErr n ss)])) w1) := by
      unfold CntPost
      rw [HMC.out]
      exact ⟨_, rfl, hb, Ints.nil _⟩
    clear HMC hb HRA
    generalize allErr n ss = code at *
    go_wp2
    go_ret2
    exact HF.out
  · rw [if_neg hE] at HMC
    have hE := Decidable.not_not.1 hE
    by_cases hR : rowsErr n L ≠ 0
    · rw [if_pos hR] at HMC
      have hne : (rowsErr n L != 0) = true := by rw [bne_iff_ne]; exact hR
      have HE0 := hide hE
      clear hE hR HL2
      go_enter Try.func7, Try.ntmps7
      go_wp2_with fail
      refine HRA.out.mono ?_
      rintro e w1 ⟨v, rfl, hb, _, p, k, c, rfl⟩
      rw [HE0.out]
      clear HE0 HRA
      go_wp2_with fail
      refine (HCR.out w1 hb).mono ?_
      rintro e w2 ⟨rfl, hb2⟩
      have HF : Hid (CntPost n ss L w (.returned (.tuple #[.slice none 0 0, .int .i64 (rowsErr n L)])) w2) := by
        unfold CntPost
        rw [HMC.out]
        exact ⟨_, rfl, hb.trans (hb2.mono hb.size), Ints.nil _⟩
      clear HMC hb hb2 HCR
      generalize rowsErr n L = code at *
      go_wp2
      go_ret2
      exact HF.out
    · rw [if_neg hR] at HMC
      have hR := Decidable.not_not.1 hR
      have hPl : (allPat n ss).length = ss.length := by unfold allPat; simp
      have HLen : Hid (∀ k j, k < ss.length → j < L.length → (L.getD j []).length = ((allPat n ss).getD k []).length ∧ 1 ≤ ((allPat n ss).getD k []).length) := fun k j hk hj => by
        have e1 : (mrd n (ss.getD k ByteArray.empty)).1 = 0 := fstErr_zero hE _ (List.mem_map.2 ⟨ss.getD k ByteArray.empty, by simp [List.getD, hk], rfl⟩)
        obtain ⟨e2, e3, e4⟩ := mrd_len e1
        have e5 : (allPat n ss).getD k [] = (mrd n (ss.getD k ByteArray.empty)).2 := by unfold allPat; simp [List.getD, hk]
        have e6 : rwe n (L.getD j []) = 0 := fstErr_zero hR _ (List.mem_map.2 ⟨L.getD j [], by simp [List.getD, hj], rfl⟩)
        rw [e5]
        unfold rwe at e6
        split at e6
        · contradiction
        · split at e6
          · cases e6
          · rename_i h9
            have h9' : ((L.getD j []).length : Int) = n := by simpa using h9
            omega
      have HE0 := hide hE
      have HR0 := hide hR
      clear hE hR
      go_enter Try.func7, Try.ntmps7
      go_wp2_with fail
      refine HRA.out.mono ?_
      rintro e w1 ⟨v, rfl, hb, hia, p, k, c, rfl⟩
      have HIA := hide (hia HE0.out)
      rw [HE0.out]
      obtain ⟨pp, pc, hpe⟩ := HIA.out.len
      rw [hPl] at hpe
      simp only [Value.slice.injEq] at hpe
      obtain ⟨rfl, rfl, rfl⟩ := hpe
      clear HE0 HRA hia
      go_wp2_with fail
      refine (HCR.out w1 hb).mono ?_
      rintro e w2 ⟨rfl, hb2⟩
      rw [HR0.out]
      have hB2 := hb.trans (hb2.mono hb.size)
      have HIA2 := hide (HIA.out.below hb2)
      clear HR0 HCR HIA hb hb2
      generalize hgP : allPat n ss = P at *
      generalize hgm : ss.length = m at *
      go_wp2_with (at_make; refine wpList_make_full _ rfl _ _ 24 rfl w.heap.size 3 i0 (.int .i64 0) 1 Try.underlying24 hi hz0 hz1 _ _ _ _ m rfl rfl (by omega) (by omega) ?b2 ?b3 hB2.size ?_)
      case b2 => rw [hz2]; omega
      case b3 => unfold maxLen; omega
      intro w0 hown0 hgrow0
      rw [made_ints] at hown0
      have hB0 : Below w2.heap.size w2 w0 := (Below.refl _ _).grown hgrow0 (Nat.le_refl _) (fun k h => by cases h)
      have hBw0 : Below w.heap.size w w0 := hB2.trans (hB0.mono hB2.size)
      have hR0 : Hid (CntRel P L 0 0 (List.replicate m 0)) := by rw [← hPl]; exact CntRel.start P L
      have HL3 := hide (HL2.out.below hB2)
      have HFin : Hid (∀ wr zs j, CntRel P L m j zs → wr.ownsRow w.heap.size 3 1 (.slice (some ⟨w2.heap.size, 0, none⟩) m m) m (zs.map (Value.int .i64)) → Below w2.heap.size w2 wr → CntPost n ss L w (.returned (.tuple #[.slice (some ⟨w2.heap.size, 0, none⟩) m m, .int .i64 0])) wr) := fun wr zs j hz ho hb => by
        unfold CntPost
        rw [HMC.out]
        rw [← hPl] at hz
        refine ⟨_, rfl, hB2.trans (hb.mono hB2.size), ?_⟩
        rw [← hz.all]
        exact Ints.own ho
      have hDw := hB2.size
      clear hgrow0 HMC hBw0 HL2 hgP hgm
      go_wp2
      go_loopw [44] (fun i wr => ∃ (k : Nat) (zs : List Int), k ≤ m ∧ i = .int .i64 k ∧ Hid (CntRel P L k 0 zs) ∧ wr.ownsRow w.heap.size 3 1 (.slice (some ⟨w2.heap.size, 0, none⟩) m m) m (zs.map (Value.int .i64)) ∧ Below w2.heap.size w2 wr) (fun i _ => m - (intOf i).toNat)
      case atStart => exact ⟨0, _, by omega, rfl, hR0, hown0, hB0⟩
      case round =>
        obtain ⟨k, zs, hk, rfl, hZ, hown, hbw⟩ := hrel
        clear hown0 hB0 hR0
        by_cases hlt : k < m
        · obtain ⟨pb, po, pcap, he, hp3, hpl3, hpm3, hpcell⟩ := HIA2.out.cell (by omega)
          rw [hPl] at he hpl3
          simp only [Value.slice.injEq] at he
          obtain ⟨rfl, _, rfl⟩ := he
          obtain ⟨q, cc, hce0, hint⟩ := hpcell k (by omega)
          have hce : wr.cell? ⟨pb, po + k, none⟩ = some (.slice q (P.getD k []).length cc) := (hbw.cell (p := ⟨pb, po + k, none⟩) hp3).trans hce0
          have HPI : Hid (∀ W, Below w2.heap.size w2 W → Ints W (.slice q (P.getD k []).length cc) (P.getD k [])) := fun W hW => hint.out.below hW
          have HLk : Hid (∀ j, j < L.length → (L.getD j []).length = (P.getD k []).length ∧ 1 ≤ (P.getD k []).length) := fun j hj => HLen.out k j hlt hj
          have HZN : Hid (∀ zs, CntRel P L k L.length zs → CntRel P L (k + 1) 0 zs) := fun zs hz => hz.next (by omega)
          have HZY : Hid (∀ zs j, CntRel P L k j zs → j < L.length → fts (P.getD k []) (L.getD j []) = true → CntRel P L k (j + 1) (zs.set k (zs.getD k 0 + 1))) := fun zs j hz hj hf => hz.yes (by omega) hj hf
          have HZ0 : Hid (∀ zs j, CntRel P L k j zs → zs.getD k 0 = ((lkn (P.getD k []) (L.take j) : Nat) : Int)) := fun zs j hz => hz.cur (by omega)
          clear hpcell hint hce0
          generalize hgp : P.getD k [] = pat at *
          generalize hgl : pat.length = pl at *
          go_wp2
          go_loopw [51] (fun i wi => ∃ (j : Nat) (zs : List Int), j ≤ L.length ∧ i = .int .i64 j ∧ Hid (CntRel P L k j zs) ∧ wi.ownsRow w.heap.size 3 1 (.slice (some ⟨w2.heap.size, 0, none⟩) m m) m (zs.map (Value.int .i64)) ∧ Below w2.heap.size w2 wi) (fun i _ => L.length - (intOf i).toNat)
          case atStart => exact ⟨0, zs, by omega, rfl, hZ, hown, hbw⟩
          case round =>
            obtain ⟨j, zt, hj, rfl, hZt, hownt, hbt⟩ := hrel
            clear hZ hown
            by_cases hjl : j < L.length
            · obtain ⟨rb, ro, rcap, he, hr3, hrl3, hrm3, hrcell⟩ := HL3.out.cell (by omega)
              simp only [Value.slice.injEq] at he
              obtain ⟨rfl, _, rfl⟩ := he
              obtain ⟨q2, cc2, hce20, hint2⟩ := hrcell j hjl
              have hce2 : wr.cell? ⟨rb, ro + j, none⟩ = some (.slice q2 (L.getD j []).length cc2) := (hbt.cell (p := ⟨rb, ro + j, none⟩) hr3).trans hce20
              obtain ⟨hl1, hl2⟩ := HLk.out j hjl
              have HFT := hide (fits_ok (.slice q pl cc) (.slice q2 (L.getD j []).length cc2) pat (L.getD j []) wr (HPI.out wr hbt) (hint2.out.below hbt) (by rw [hgl]; exact hl1) (by rw [hgl]; exact hl2))
              have hlk := HZ0.out zt j hZt.out
              have hlkl := lkn_le pat (L.take j)
              have hlkt : (L.take j).length ≤ j := List.length_take_le _ _
              obtain ⟨y, hy, hcy, hfy⟩ := owns_cellAt hownt hlt
              have hy' : zt.getD k 0 = y := hy.out
              have hyb : 0 ≤ y ∧ y ≤ 20001 := by rw [← hy', hlk]; omega
              rw [hl1] at HFT hce2
              by_cases hf : fts pat (L.getD j []) = true
              · have HZ2 := hide (HZY.out zt j hZt.out hjl hf)
                rw [hy'] at HZ2
                rw [hf] at HFT
                clear hrcell hce20 hint2 hl1 hf hlk hlkl hlkt hy hy' hZt
                go_wp2_with fail
                refine HFT.out.mono ?_
                rintro e w4 ⟨rfl, hb4⟩
                have hbt4 := hbt.trans (hb4.mono hbt.size)
                have hown4 := owns_below hownt hb4 (Nat.le_refl _)
                have hDlt : w2.heap.size < wr.heap.size := World.block_lt_of_cell? wr _ hcy
                have gcy : w4.cell? ⟨w2.heap.size, k, none⟩ = some (.int .i64 y) := (hb4.cell (p := ⟨w2.heap.size, k, none⟩) hDlt).trans hcy
                have gfy : w4.frozen? ⟨w2.heap.size, k, none⟩ = false := (hb4.frozen (p := ⟨w2.heap.size, k, none⟩) hDlt).trans hfy
                have hown5 := owns_set_int (m := k) hown4 (y + 1)
                have hbt5 := hbt4.setCell (p := ⟨w2.heap.size, k, none⟩) (Nat.le_refl _) (.int .i64 (y + 1))
                have hw5 : IntKind.i64.wrap (y + 1) = y + 1 := by rw [IntKind.wrap_i64]; omega
                clear hb4 hbt4 hown4 hcy hfy hownt hbt HFT
                go_wp2
                go_roundw
                case rel => exact ⟨j + 1, _, by omega, by go_num, HZ2, hown5, hbt5⟩
                case measure => simp [intOf]; omega
              · have hf' : fts pat (L.getD j []) = false := by simpa using hf
                have HZ2 := hide (hZt.out.no hjl (by rw [hgp]; exact hf'))
                rw [hf'] at HFT
                clear hrcell hce20 hint2 hl1 hf hf' hlk hlkl hlkt hy hy' hZt
                go_wp2_with fail
                refine HFT.out.mono ?_
                rintro e w4 ⟨rfl, hb4⟩
                have hbt4 := hbt.trans (hb4.mono hbt.size)
                have hown4 := owns_below hownt hb4 (Nat.le_refl _)
                clear hb4 hcy hfy hownt hbt HFT
                go_wp2
                go_roundw
                case rel => exact ⟨j + 1, zt, by omega, by go_num, HZ2, hown4, hbt4⟩
                case measure => simp [intOf]; omega
            · obtain rfl : j = L.length := by omega
              have HZ2 := hide (HZN.out zt hZt.out)
              clear hZt
              go_wp2
              go_roundw
              case rel => exact ⟨k + 1, zt, by omega, by go_num, HZ2, hownt, hbt⟩
              case measure => simp [intOf]; omega
        · obtain rfl : k = m := by omega
          have HF := hide (HFin.out wr zs 0 hZ.out hown hbw)
          clear hZ HFin
          go_wp2
          go_ret2
          exact HF.out

end Go.Proofs.Ytfnmkbcdchnnnaa

/- Plain: how many rows are like a pattern. -/
namespace Go.Proofs.Ytfnmkbcdchnnnaa
open Go.RowKit

/-- How many numbers below k pass. -/
def cntR (k : Nat) (f : Nat → Bool) : Nat := ((List.range k).filter f).length

theorem cntR_succ (k : Nat) (f : Nat → Bool) : cntR (k + 1) f = cntR k f + if f k then 1 else 0 := by
  unfold cntR
  rw [List.range_succ, List.filter_append, List.length_append]
  cases h : f k <;> simp [List.filter, h]

theorem cntR_congr {k : Nat} {f g : Nat → Bool} (h : ∀ j, j < k → f j = g j) : cntR k f = cntR k g := by
  induction k with
  | zero => rfl
  | succ k ih => rw [cntR_succ, cntR_succ, ih (fun j hj => h j (by omega)), h k (by omega)]

theorem cntR_none {k : Nat} {f : Nat → Bool} (h : ∀ j, j < k → f j = false) : cntR k f = 0 := by
  induction k with
  | zero => rfl
  | succ k ih => rw [cntR_succ, ih (fun j hj => h j (by omega)), h k (by omega)]; rfl

theorem cntR_add (a b : Nat) (f : Nat → Bool) : cntR (a + b) f = cntR a f + cntR b (fun j => f (a + j)) := by
  induction b with
  | zero => rfl
  | succ b ih => rw [← Nat.add_assoc, cntR_succ, ih, cntR_succ, Nat.add_assoc]

/-- A sum over the numbers below k. -/
def sumR : Nat → (Nat → Nat) → Nat
  | 0, _ => 0
  | k + 1, g => sumR k g + g k

theorem sumR_congr {k : Nat} {f g : Nat → Nat} (h : ∀ j, j < k → f j = g j) : sumR k f = sumR k g := by
  induction k with
  | zero => rfl
  | succ k ih => show sumR k f + f k = sumR k g + g k; rw [ih (fun j hj => h j (by omega)), h k (by omega)]

theorem cntR_mul (a b : Nat) (f : Nat → Bool) : cntR (a * b) f = sumR a (fun i => cntR b (fun j => f (i * b + j))) := by
  induction a with
  | zero => rw [Nat.zero_mul]; rfl
  | succ a ih => rw [Nat.succ_mul, cntR_add, ih]; rfl

theorem sumR_if (k c : Nat) (f : Nat → Bool) : sumR k (fun i => if f i then c else 0) = cntR k f * c := by
  induction k with
  | zero => simp [sumR, cntR]
  | succ k ih =>
    show sumR k _ + (if f k then c else 0) = _
    rw [ih, cntR_succ, Nat.add_mul]
    cases f k <;> simp

theorem sumR_one {k i0 : Nat} {f : Nat → Nat} (h0 : i0 < k) (h : ∀ i, i < k → i ≠ i0 → f i = 0) : sumR k f = f i0 := by
  induction k with
  | zero => omega
  | succ k ih =>
    show sumR k f + f k = _
    by_cases e : i0 = k
    · subst e
      have : sumR i0 f = 0 := by
        have h9 : ∀ m, m ≤ i0 → sumR m f = 0 := by
          intro m
          induction m with
          | zero => intro _; rfl
          | succ m ihm => intro hm; show sumR m f + f m = 0; rw [ihm (by omega), h m (by omega) (by omega)]
        exact h9 i0 (Nat.le_refl _)
      rw [this, Nat.zero_add]
    · rw [ih (by omega) (fun i hi hne => h i (by omega) hne), h k (by omega) (fun e2 => e e2.symm), Nat.add_zero]

theorem fts_cons (b x : Int) (p r : List Int) : fts (b :: p) (x :: r) = (decide (b = -1 ∨ b = x) && fts p r) := by
  unfold fts
  rw [List.length_cons, List.range_succ_eq_map, List.all_cons, List.all_map]
  rfl

theorem fts_mem {p r : List Int} (hl : r.length = p.length) (h : fts p r = true) {x : Int} (hx : x ∈ p) (hn : x ≠ -1) : x ∈ r := by
  obtain ⟨j, hj, e⟩ := List.getElem_of_mem hx
  unfold fts at h
  rw [List.all_eq_true] at h
  have h1 := of_decide_eq_true (h j (by simpa using hj))
  have e1 : p.getD j 0 = x := by simp [List.getD, hj, e]
  rw [e1] at h1
  rcases h1 with h1 | h1
  · exact absurd h1 hn
  · have hj2 : j < r.length := by omega
    rw [h1]
    have : r.getD j 0 = r[j] := by simp [List.getD, hj2]
    rw [this]
    exact List.getElem_mem hj2

/-- The bells of a pattern. -/
def fxd (p : List Int) : List Int := p.filter (fun x => decide (x ≠ -1))

theorem fxd_mem {p : List Int} {x : Int} : x ∈ fxd p ↔ x ∈ p ∧ x ≠ -1 := by unfold fxd; rw [List.mem_filter]; simp

theorem fre_fxd (p : List Int) : fre p + (fxd p).length = p.length := by
  unfold fre fxd
  induction p with
  | nil => rfl
  | cons x t ih =>
    by_cases h : x = -1
    · simp [h] at ih ⊢; omega
    · simp [h] at ih ⊢; omega

def cntA (m : Nat) (L p : List Int) : Nat := cntR (fct m) (fun k => fts p (atl m L k))

theorem cntA_no {m : Nat} {L p : List Int} (hL : L.length = m) (hp : p.length = m) {x : Int} (hx : x ∈ p) (hn : x ≠ -1) (hxL : x ∉ L) : cntA m L p = 0 := by
  refine cntR_none (fun k hk => ?_)
  cases h : fts p (atl m L k)
  · rfl
  · have hpm := atl_perm m L k hL hk
    exact absurd (hpm.mem_iff.1 (fts_mem (by rw [hpm.length_eq, hL, hp]) h hx hn)) hxL

theorem cntA_succ (m : Nat) (L : List Int) (b : Int) (p : List Int) : cntA (m + 1) L (b :: p) = sumR (m + 1) (fun i => if decide (b = -1 ∨ b = L.getD i 0) then cntA m (L.eraseIdx i) p else 0) := by
  show cntR ((m + 1) * fct m) _ = _
  rw [cntR_mul]
  refine sumR_congr (fun i hi => ?_)
  have hf := fct_pos m
  have e : ∀ j, j < fct m → fts (b :: p) (atl (m + 1) L (i * fct m + j)) = (decide (b = -1 ∨ b = L.getD i 0) && fts p (atl m (L.eraseIdx i) j)) := fun j hj => by
    have e1 : (i * fct m + j) / fct m = i := by rw [Nat.mul_comm, Nat.mul_add_div hf, Nat.div_eq_of_lt hj]; rfl
    have e2 : (i * fct m + j) % fct m = j := by rw [Nat.mul_comm, Nat.mul_add_mod, Nat.mod_eq_of_lt hj]
    show fts (b :: p) (L.getD ((i * fct m + j) / fct m) 0 :: atl m (L.eraseIdx ((i * fct m + j) / fct m)) ((i * fct m + j) % fct m)) = _
    rw [e1, e2, fts_cons]
  rw [cntR_congr e]
  cases h : decide (b = -1 ∨ b = L.getD i 0)
  · exact cntR_none (fun j _ => rfl)
  · rfl

theorem mem_erase_iff {L : List Int} (hn : L.Nodup) {i : Nat} (hi : i < L.length) (x : Int) : x ∈ L.eraseIdx i ↔ x ∈ L ∧ x ≠ L.getD i 0 := by
  have e : L.getD i 0 = L[i] := by simp [List.getD, hi]
  rw [e, List.mem_eraseIdx_iff_getElem]
  constructor
  · rintro ⟨j, hj, hne, rfl⟩
    exact ⟨List.getElem_mem hj, fun e2 => hne ((List.getElem_inj hn).1 e2)⟩
  · rintro ⟨hx, hne⟩
    obtain ⟨j, hj, rfl⟩ := List.getElem_of_mem hx
    exact ⟨j, hj, fun e2 => hne (by subst e2; rfl), rfl⟩

/-- How many places of L bear a bell that is none of p's. -/
theorem cntR_out {L q : List Int} (hL : L.Nodup) (hq : q.Nodup) (hs : ∀ x, x ∈ q → x ∈ L) : cntR L.length (fun i => decide (L.getD i 0 ∉ q)) + q.length = L.length := by
  induction q with
  | nil =>
    have : ∀ k, cntR k (fun i => decide (L.getD i 0 ∉ ([] : List Int))) = k := by
      intro k
      induction k with
      | zero => rfl
      | succ k ih => rw [cntR_succ, ih]; simp
    rw [this]; rfl
  | cons x q ih =>
    have hq' := List.nodup_cons.1 hq
    have ih' := ih hq'.2 (fun y hy => hs y (List.mem_cons_of_mem _ hy))
    obtain ⟨i0, hi0, e0⟩ := List.getElem_of_mem (hs x (by simp))
    have key : ∀ k, k ≤ L.length → cntR k (fun i => decide (L.getD i 0 ∉ x :: q)) + (if i0 < k then 1 else 0) = cntR k (fun i => decide (L.getD i 0 ∉ q)) := by
      intro k
      induction k with
      | zero => intro _; simp [cntR]
      | succ k ihk =>
        intro hk
        have e1 : L.getD k 0 = L[k] := by simp [List.getD, show k < L.length by omega]
        rw [cntR_succ, cntR_succ, ← ihk (by omega)]
        by_cases h : i0 = k
        · subst h
          have a1 : decide (L.getD i0 0 ∉ x :: q) = false := by rw [decide_eq_false_iff_not, Decidable.not_not, e1, e0]; simp
          have a2 : decide (L.getD i0 0 ∉ q) = true := by rw [decide_eq_true_iff, e1, e0]; exact hq'.1
          simp only [a1, a2]
          simp
        · have hne : L[k] ≠ x := fun e2 => h ((List.getElem_inj hL).1 (e0.trans e2.symm))
          have a3 : decide (L.getD k 0 ∉ x :: q) = decide (L.getD k 0 ∉ q) := by rw [e1]; simp [hne]
          simp only [a3]
          have : (i0 < k + 1) ↔ (i0 < k) := by omega
          simp only [this]
          omega
    have := key L.length (Nat.le_refl _)
    rw [if_pos hi0] at this
    rw [List.length_cons]
    omega

theorem cntA_ok : ∀ (m : Nat) (L p : List Int), L.length = m → p.length = m → L.Nodup → (∀ x, x ∈ L → x ≠ -1) → (fxd p).Nodup → (∀ x, x ∈ fxd p → x ∈ L) → cntA m L p = fct (fre p)
  | 0, L, p, _, hp, _, _, _, _ => by
    obtain rfl : p = [] := List.length_eq_zero_iff.1 hp
    rfl
  | m + 1, L, [], _, hp, _, _, _, _ => by simp at hp
  | m + 1, L, b :: p, hL, hp, hLn, hL1, hpn, hpL => by
    have hp' : p.length = m := by simpa using hp
    have hel : ∀ i, i < m + 1 → (L.eraseIdx i).length = m := fun i hi => by rw [List.length_eraseIdx_of_lt (by omega)]; omega
    have hen : ∀ i, (L.eraseIdx i).Nodup := fun i => (List.eraseIdx_sublist L i).nodup hLn
    have he1 : ∀ i x, x ∈ L.eraseIdx i → x ≠ -1 := fun i x hx => hL1 x ((List.eraseIdx_sublist L i).subset hx)
    rw [cntA_succ]
    by_cases hb : b = -1
    · subst hb
      have e1 : fre ((-1) :: p) = fre p + 1 := by simp [fre]
      have e2 : fxd ((-1) :: p) = fxd p := by simp [fxd]
      rw [e2] at hpn hpL
      have : sumR (m + 1) (fun i => if decide ((-1 : Int) = -1 ∨ (-1 : Int) = L.getD i 0) then cntA m (L.eraseIdx i) p else 0) = sumR (m + 1) (fun i => if decide (L.getD i 0 ∉ fxd p) then fct (fre p) else 0) := by
        refine sumR_congr (fun i hi => ?_)
        rw [decide_eq_true (Or.inl rfl), if_pos rfl]
        have hiL : i < L.length := by omega
        have e3 : L.getD i 0 = L[i] := by simp [List.getD, hiL]
        by_cases hm : L.getD i 0 ∈ fxd p
        · rw [decide_eq_false (by simpa using hm), if_neg (by decide)]
          refine cntA_no (hel i hi) hp' (fxd_mem.1 hm).1 (fxd_mem.1 hm).2 (fun h => ((mem_erase_iff hLn hiL _).1 h).2 rfl)
        · rw [decide_eq_true hm, if_pos rfl]
          exact cntA_ok m _ p (hel i hi) hp' (hen i) (he1 i) hpn (fun x hx => (mem_erase_iff hLn hiL x).2 ⟨hpL x hx, fun e => hm (e ▸ hx)⟩)
      rw [this, sumR_if, e1]
      have h5 := cntR_out hLn hpn hpL
      rw [hL] at h5
      have h6 := fre_fxd p
      have h7 : cntR (m + 1) (fun i => decide (L.getD i 0 ∉ fxd p)) = fre p + 1 := by omega
      rw [h7]
      rfl
    · have e1 : fre (b :: p) = fre p := by simp [fre, hb]
      have e2 : fxd (b :: p) = b :: fxd p := by simp [fxd, hb]
      rw [e2] at hpn hpL
      have hpn' := List.nodup_cons.1 hpn
      obtain ⟨i0, hi0, e0⟩ := List.getElem_of_mem (hpL b (by simp))
      have e00 : L.getD i0 0 = b := by simp [List.getD, hi0, e0]
      rw [sumR_one (i0 := i0) (by omega) (fun i hi hne => by
        have e3 : L.getD i 0 = L[i]'(by omega) := by simp [List.getD, show i < L.length by omega]
        rw [decide_eq_false, if_neg (by decide)]
        rintro (h | h)
        · exact hb h
        · rw [e3] at h
          exact hne ((List.getElem_inj hLn).1 (h.symm.trans e0.symm))), e00, decide_eq_true (Or.inr rfl), if_pos rfl, e1]
      exact cntA_ok m _ p (hel i0 (by omega)) hp' (hen i0) (he1 i0) hpn'.2 (fun x hx => (mem_erase_iff hLn hi0 x).2 ⟨hpL x (List.mem_cons_of_mem _ hx), fun e => hpn'.1 (by rw [e00] at e; exact e ▸ hx)⟩)

theorem lkn_rows (p : List Int) (n : Nat) (f : Nat → List Int) : lkn p ((List.range n).map f) = cntR n (fun k => fts p (f k)) := by
  unfold lkn cntR
  rw [List.filter_map, List.length_map]
  rfl

/-- All rows of n bells that are like a pattern. -/
theorem lkn_all {n : Nat} {p : List Int} (hp : p.length = n) (hd : (fxd p).Nodup) (hr : ∀ x, x ∈ fxd p → 0 ≤ x ∧ x < n) : lkn p ((List.range (fct n)).map (rowAt n)) = fct (fre p) := by
  rw [lkn_rows]
  refine cntA_ok n (rnd n) p (rnd_length n) hp (isRow_rnd n).2 (fun x hx => ?_) hd (fun x hx => ?_)
  · have := (isRow_rnd n).1 x hx; omega
  · obtain ⟨h1, h2⟩ := hr x hx
    obtain ⟨k, rfl⟩ := Int.eq_ofNat_of_zero_le h1
    unfold rnd
    exact List.mem_map.2 ⟨k, by simp; omega, rfl⟩

end Go.Proofs.Ytfnmkbcdchnnnaa

/- The runes of a text of low signs. -/
namespace Go.Proofs.Ytfnmkbcdchnnnaa
open Go.RowKit Go.Lib

/-- A text of low signs: its runes are these. -/
theorem runes_ascii (zs : List Int) (h : ∀ z, z ∈ zs → 0 ≤ z ∧ z < 128) : runesOf (strOfNums zs) = zs.map Int.toNat := by
  have hsz := strOfNums_size zs
  have key : ∀ k, k ≤ zs.length → RunesTo (strOfNums zs) ((zs.take k).map Int.toNat) k := by
    intro k
    induction k with
    | zero => intro _; exact runesTo_start _
    | succ k ih =>
      intro hk
      have h1 := (ih (by omega)).next (by omega)
      have hz := h zs[k] (List.getElem_mem (by omega))
      have hg : ((strOfNums zs).get! k).toNat = zs[k].toNat := by
        have : (strOfNums zs).get! k = UInt8.ofNat zs[k].toNat := by
          show (strOfNums zs).data[k]! = _
          rw [getElem!_pos _ k (by show k < (strOfNums zs).size; omega)]
          simp [strOfNums]
        rw [this, UInt8.toNat_ofNat']
        omega
      have hd : Utf8.decode (strOfNums zs) k = (zs[k].toNat, 1) := by
        rw [decode_at, hg]
        unfold decodeN
        rw [if_pos (by omega)]
      rw [hd] at h1
      rw [List.take_add_one, List.getElem?_eq_getElem (by omega : k < zs.length), List.map_append]
      exact h1
  have := (key zs.length (Nat.le_refl _)).done (by omega)
  rw [this, List.take_length]

end Go.Proofs.Ytfnmkbcdchnnnaa

/- Plain: patterns as they are written, and read. -/
namespace Go.Proofs.Ytfnmkbcdchnnnaa
open Go.RowKit
set_option maxRecDepth 20000

/-- The sign of a place of a pattern. -/
def cdp (x : Int) : Nat := if x = -1 then 63 else sg x.toNat

theorem si_sg {m : Nat} (h : m < 12) : si (sg m) = (m : Int) := by
  have : ∀ k : Fin 12, si (sg k.1) = (k.1 : Int) := by decide +kernel
  exact this ⟨m, h⟩

theorem sg_ne {m : Nat} (h : m < 12) : sg m ≠ 42 ∧ sg m ≠ 63 := by
  have : ∀ k : Fin 12, sg k.1 ≠ 42 ∧ sg k.1 ≠ 63 := by decide +kernel
  exact this ⟨m, h⟩

/-- What a reader knows behind some places. -/
structure MInv (st : MP) (qs : List Int) : Prop where
  places : st.places = qs
  len : st.there.length = 12
  there : ∀ b : Nat, b < 12 → st.there.getD b false = decide ((b : Int) ∈ qs)

theorem MInv.new : MInv MP.new [] := ⟨rfl, rfl, fun b hb => by
  have : ∀ k : Fin 12, (List.replicate 12 false).getD k.1 false = false := by decide
  rw [show MP.new.there = List.replicate 12 false from rfl, this ⟨b, hb⟩]; simp⟩

theorem MInv.star {st : MP} {qs : List Int} (h : MInv st qs) (k : Nat) : MInv { st with star := true, ahead := k } qs := ⟨h.places, h.len, h.there⟩

theorem getD_set_bool {l : List Bool} {m j : Nat} {y : Bool} (h : m < l.length) : (l.set m y).getD j false = if m = j then y else l.getD j false := by
  simp only [List.getD, List.getElem?_set]
  by_cases e : m = j
  · subst e; simp [h]
  · simp [e]

theorem run_places {n : Nat} (hn : n ≤ 12) : ∀ (ps qs : List Int) (st : MP), MInv st qs → qs.length + ps.length ≤ n → (∀ x, x ∈ ps → x = -1 ∨ 0 ≤ x ∧ x < n) → (fxd (qs ++ ps)).Nodup →
    ∃ st2, MP.run n st (ps.map cdp) = (0, st2) ∧ MInv st2 (qs ++ ps) ∧ st2.star = st.star ∧ st2.ahead = st.ahead
  | [], qs, st, h, _, _, _ => ⟨st, rfl, by rw [List.append_nil]; exact h, rfl, rfl⟩
  | x :: ps, qs, st, h, hl, hx, hd => by
    have hroom : st.places.length ≤ n := by rw [h.places]; simp at hl; omega
    obtain ⟨st1, ht, h1, hs1, ha1⟩ : ∃ st1, st.take n (cdp x) = (0, st1) ∧ MInv st1 (qs ++ [x]) ∧ st1.star = st.star ∧ st1.ahead = st.ahead := by
      by_cases hx1 : x = -1
      · subst hx1
        refine ⟨st.put n (-1), ?_, ?_, ?_, ?_⟩
        · show st.take n 63 = _
          unfold MP.take
          rw [if_neg (by decide), if_pos rfl]
        all_goals
          unfold MP.put
          rw [if_pos hroom]
        · refine ⟨by rw [← h.places], h.len, fun b hb => ?_⟩
          show st.there.getD b false = _
          rw [h.there b hb]
          congr 1
          rw [List.mem_append]
          simp
      · obtain ⟨hx2, hx3⟩ := (hx x (by simp)).resolve_left hx1
        obtain ⟨m, rfl⟩ := Int.eq_ofNat_of_zero_le hx2
        have hm12 : m < 12 := by omega
        have hc : cdp (m : Int) = sg m := by unfold cdp; rw [if_neg hx1]; rfl
        have hnq : (m : Int) ∉ qs := fun hq => by
          have h9 : fxd (qs ++ (m : Int) :: ps) = fxd qs ++ ((m : Int) :: fxd ps) := by unfold fxd; rw [List.filter_append]; simp [hx1]
          rw [h9, List.nodup_append] at hd
          exact hd.2.2 (m : Int) (fxd_mem.2 ⟨hq, hx1⟩) (m : Int) (by simp) rfl
        refine ⟨{ st with there := st.there.set m true }.put n (m : Int), ?_, ?_, ?_, ?_⟩
        · rw [hc]
          unfold MP.take
          rw [if_neg (sg_ne hm12).1, if_neg (sg_ne hm12).2, si_sg hm12, if_neg (by omega), Int.toNat_natCast, h.there m hm12, decide_eq_false hnq]
          rfl
        all_goals
          unfold MP.put
          rw [if_pos (by exact hroom)]
        · refine ⟨by rw [← h.places], by simp [h.len], fun b hb => ?_⟩
          show (st.there.set m true).getD b false = _
          rw [getD_set_bool (by rw [h.len]; exact hm12), h.there b hb]
          by_cases e : m = b
          · subst e; simp
          · rw [if_neg e]
            congr 1
            rw [List.mem_append]
            simp
            omega
    obtain ⟨st2, hr, h2, hs2, ha2⟩ := run_places hn ps (qs ++ [x]) st1 h1 (by simp at hl ⊢; omega) (fun y hy => hx y (List.mem_cons_of_mem _ hy)) (by rw [List.append_assoc]; exact hd)
    refine ⟨st2, ?_, by rw [List.append_assoc] at h2; exact h2, hs2.trans hs1, ha2.trans ha1⟩
    show (if (st.take n (cdp x)).1 = 0 then MP.run n (st.take n (cdp x)).2 (ps.map cdp) else st.take n (cdp x)) = _
    rw [ht]
    exact hr

theorem run_app {n : Nat} : ∀ (a b : List Nat) (st st1 : MP), MP.run n st a = (0, st1) → MP.run n st (a ++ b) = MP.run n st1 b
  | [], b, st, st1, h => by
    have : st = st1 := congrArg Prod.snd h
    rw [this]; rfl
  | c :: a, b, st, st1, h => by
    have h1 : (if (st.take n c).1 = 0 then MP.run n (st.take n c).2 a else st.take n c) = (0, st1) := h
    show (if (st.take n c).1 = 0 then MP.run n (st.take n c).2 (a ++ b) else st.take n c) = _
    by_cases h2 : (st.take n c).1 = 0
    · rw [if_pos h2] at h1 ⊢
      exact run_app a b _ st1 h1
    · rw [if_neg h2] at h1
      exact absurd (by rw [h1]) h2

/-- A pattern's text, a star ahead of one of its places (or none). -/
def tmT (star : Nat) (ps : List Int) : List Nat := (ps.take star).map cdp ++ (if star < ps.length then [42] else []) ++ (ps.drop star).map cdp

theorem tmT_nil (star : Nat) : tmT star [] = [] := by simp [tmT]

theorem tmT_snoc (star : Nat) (ps : List Int) (x : Int) : tmT star (ps ++ [x]) = tmT star ps ++ (if ps.length = star then [42] else []) ++ [cdp x] := by
  unfold tmT
  rcases Nat.lt_trichotomy star ps.length with h | h | h
  · rw [List.take_append_of_le_length (by omega), List.drop_append_of_le_length (by omega), if_pos (by simp; omega), if_pos h, if_neg (by omega)]
    simp
  · subst h
    rw [List.take_left' rfl, List.drop_left' rfl, if_pos (by simp), if_neg (by omega), if_pos rfl]
    simp
  · rw [List.take_of_length_le (by simp; omega), List.drop_of_length_le (by simp; omega), List.take_of_length_le (by omega), List.drop_of_length_le (by omega), if_neg (by simp; omega), if_neg (by omega), if_neg (by omega)]
    simp

theorem tmT_low (star : Nat) (ps : List Int) : ∀ c, c ∈ tmT star ps → c < 128 := by
  have hc : ∀ x, cdp x < 128 := fun x => by unfold cdp; split; decide; exact sg_lt _
  intro c hcm
  unfold tmT at hcm
  rw [List.mem_append, List.mem_append] at hcm
  rcases hcm with (h | h) | h
  · obtain ⟨x, _, rfl⟩ := List.mem_map.1 h; exact hc x
  · split at h
    · simp at h; omega
    · cases h
  · obtain ⟨x, _, rfl⟩ := List.mem_map.1 h; exact hc x

theorem tmT_length (star : Nat) (ps : List Int) : (tmT star ps).length ≤ ps.length + 1 := by
  unfold tmT
  simp only [List.length_append, List.length_map, List.length_take, List.length_drop]
  split <;> simp <;> omega

/-- What is written so is read. -/
theorem read_tmT {n star : Nat} (hn : n ≤ 12) {ps : List Int} (hl : ps.length = n) (hx : ∀ x, x ∈ ps → x = -1 ∨ 0 ≤ x ∧ x < n) (hd : (fxd ps).Nodup) : MP.read n (tmT star ps) = (0, ps) := by
  have hend : ∀ st2, MInv st2 ps → st2.end_ n = (0, ps) := fun st2 h2 => by
    unfold MP.end_
    rw [h2.places, if_neg (by omega), hl, Nat.sub_self, List.replicate_zero, List.append_nil, List.take_append_drop]
  by_cases hs : star < ps.length
  · have e : tmT star ps = (ps.take star).map cdp ++ ([42] ++ (ps.drop star).map cdp) := by unfold tmT; rw [if_pos hs, List.append_assoc]
    have hsub : (fxd (ps.take star)).Nodup := by
      refine List.Sublist.nodup ?_ hd
      exact (List.take_sublist star ps).filter _
    obtain ⟨st1, hr1, h1, hs1, ha1⟩ := run_places hn (ps.take star) [] MP.new MInv.new (by simp; omega) (fun x hx2 => hx x (List.mem_of_mem_take hx2)) (by simpa using hsub)
    rw [List.nil_append] at h1
    have hst : st1.take n 42 = (0, { st1 with star := true, ahead := st1.places.length }) := by
      unfold MP.take
      rw [if_pos rfl, hs1]
      rfl
    obtain ⟨st2, hr2, h2, _, _⟩ := run_places hn (ps.drop star) (ps.take star) { st1 with star := true, ahead := st1.places.length } (h1.star _) (by simp; omega) (fun x hx2 => hx x (List.mem_of_mem_drop hx2)) (by rw [List.take_append_drop]; exact hd)
    rw [List.take_append_drop] at h2
    have hrun : MP.run n MP.new (tmT star ps) = (0, st2) := by
      rw [e, run_app _ _ _ st1 hr1]
      show (if (st1.take n 42).1 = 0 then MP.run n (st1.take n 42).2 ((ps.drop star).map cdp) else st1.take n 42) = _
      rw [hst]
      exact hr2
    unfold MP.read
    rw [hrun]
    exact hend st2 h2
  · have e : tmT star ps = ps.map cdp := by unfold tmT; rw [if_neg hs, List.take_of_length_le (by omega), List.drop_of_length_le (by omega)]; simp
    obtain ⟨st2, hr2, h2, _, _⟩ := run_places hn ps [] MP.new MInv.new (by simp; omega) hx (by simpa using hd)
    rw [List.nil_append] at h2
    unfold MP.read
    rw [e, hr2]
    exact hend st2 h2

/-- A star alone. -/
theorem read_star (n : Nat) : MP.read n [42] = (0, List.replicate n (-1)) := by
  have hr : MP.run n MP.new [42] = (0, { MP.new with star := true, ahead := 0 }) := rfl
  unfold MP.read
  rw [hr]
  show MP.end_ n { MP.new with star := true, ahead := 0 } = _
  unfold MP.end_
  rw [if_neg (by simp [MP.new])]
  simp [MP.new]

theorem fre_any (n : Nat) : fre (List.replicate n (-1)) = n := by simp [fre]
theorem fxd_any (n : Nat) : fxd (List.replicate n (-1)) = [] := by simp [fxd]

end Go.Proofs.Ytfnmkbcdchnnnaa
