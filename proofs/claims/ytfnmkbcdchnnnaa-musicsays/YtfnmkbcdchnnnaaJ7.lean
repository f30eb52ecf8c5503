/- Joined: MvB, MvC, MvD, MvE. -/
import Derived.Test.YtfnmkbcdchnnnaaJ6
import Derived.BigQuiet
/- Contract: the answer's PatternMay, where the number of bells may be. -/
namespace Go.Proofs.Ytfnmkbcdchnnnaa
open Go.RowKit
set_option maxRecDepth 20000
set_option linter.unusedVariables false

def strs (b : Bool) : Int := if b then 1 else 0

set_option maxHeartbeats 8000000 in
theorem patternMay_ok (n : Nat) (s : ByteArray) (w : World) (h1 : 1 ≤ n) (h2 : n ≤ 12) (hs : s.size ≤ 1048576) :
    Calls Try.prog 10 #[.int .i64 n, .string s] w fun e w' => e = .returned (.int .i64 (MP.read n (runesOf s)).1) ∧ Below w.heap.size w w' := by
  have HRU := hide (runes_any s w hs)
  have hAL := arunes_length s
  have hCl := runesOf_length s
  have HRA : Hid (∀ j, j < (runesOf s).length → RuA ((arunes s).getD j 0) ((runesOf s).getD j 0)) := fun j hj => ruA_at s hj
  generalize hres : (MP.read n (runesOf s)).1 = res
  have HRES := hide hres
  clear hres
  generalize arunes s = A at *
  generalize runesOf s = C at *
  go_enter Try.func10, Try.ntmps10
  go_wp2_with fail
  refine HRU.out.mono ?_
  rintro e w1 ⟨v, rfl, hown, hb1⟩
  have HI := hide (Ints.own hown)
  obtain ⟨p, c, rfl⟩ := owns_slice hown
  clear hown HRU
  have hal : A.length ≤ 1048576 := by omega
  have HAC := hide hAL
  clear hAL hCl
  go_wp2
  go_loopw [6, 7] (fun m i wr => ∃ (k : Nat) (st : MP), k ≤ A.length ∧ i = .int .i64 k ∧ m = .int .i64 (strs st.star) ∧ Hid (MTo n C k st) ∧ Below w1.heap.size w1 wr) (fun _ i _ => A.length - (intOf i).toNat)
  case atStart => exact ⟨0, MP.new, by omega, rfl, rfl, MTo.start n C, Below.refl _ _⟩
  case round =>
    obtain ⟨k, st, hk, rfl, rfl, hM, hbw⟩ := hrel
    by_cases hlt : k < A.length
    · have hkC : k < C.length := by have := HAC.out; omega
      obtain ⟨b, off, cap, he, h0', hc', hm', hb', hcell⟩ := HI.out.resolve_left (fun h => by have := h.1; rw [this] at hlt; simp at hlt)
      simp only [Value.slice.injEq] at he
      obtain ⟨rfl, _, rfl⟩ := he
      obtain ⟨x, hx, hcx⟩ := cellAt hcell hlt
      have gx : wr.cell? ⟨b, off + k, none⟩ = some (.int .i64 x) := (hbw.cell (by exact hb')).trans hcx
      have hRA := HRA.out k hkC
      have hx' : A.getD k 0 = x := hx.out
      rw [hx'] at hRA
      have e42 := hRA.eq 42 (by decide)
      have e63 := hRA.eq 63 (by decide)
      have ebell := hRA.bell
      have HBL := hide (bell_any x wr)
      rw [ebell] at HBL
      have HBAD : Hid ((st.take n (C.getD k 0)).1 ≠ 0 → res = (st.take n (C.getD k 0)).1) := fun hne => by rw [← HRES.out, hM.out.bad hkC hne]
      have HNXT : Hid ((st.take n (C.getD k 0)).1 = 0 → MTo n C (k + 1) (st.take n (C.getD k 0)).2) := fun h0 => hM.out.next h2 hkC h0
      have HTH : Hid (∀ b, b < 12 → st.there.getD b false = decide (sg b ∈ C.take k)) := hM.out.there
      have hsi := si_range (C.getD k 0)
      clear hcx ebell hRA hx'
      generalize hgc : C.getD k 0 = cc at *
      by_cases hst : cc = 42 ∧ st.star = false
      · obtain ⟨rfl, hsf⟩ := hst
        obtain rfl : x = 42 := e42.2 rfl
        have etk : st.take n 42 = (0, { st with star := true, ahead := st.places.length }) := by unfold MP.take; rw [if_pos rfl, hsf]; rfl
        have HN2 := HNXT.out (by rw [etk])
        rw [etk] at HN2
        have HN3 := hide HN2
        rw [hsf, show strs false = 0 from rfl]
        clear HN2 etk HBAD HNXT HTH hM hcell
        generalize si 42 = bb at *
        go_wp2_with fail
        refine HBL.out.mono ?_
        rintro e wa ⟨rfl, rfl⟩
        go_wp2
        go_roundw
        case rel => exact ⟨k + 1, _, by omega, by go_num, rfl, HN3, hbw⟩
        case measure => simp [intOf]; omega
      · by_cases h63 : cc = 63
        · subst h63
          obtain rfl : x = 63 := e63.2 rfl
          have etk : st.take n 63 = (0, st.put n (-1)) := by unfold MP.take; rw [if_neg (by decide), if_pos rfl]
          have HN2 := HNXT.out (by rw [etk])
          rw [etk] at HN2
          have HN3 := hide HN2
          have hsp : strs st.star = strs (st.put n (-1)).star := by rw [(MP.put_len n st (-1)).2.1]
          have HSP := hide hsp
          clear HN2 etk HBAD HNXT HTH hM hcell hsp
          generalize si 63 = bb at *
          generalize strs st.star = ss at *
          go_wp2_with fail
          refine HBL.out.mono ?_
          rintro e wa ⟨rfl, rfl⟩
          go_wp2
          go_roundw
          case rel => exact ⟨k + 1, _, by omega, by go_num, by rw [HSP.out], HN3, hbw⟩
          case measure => simp [intOf]; omega
        · have hx63 : ¬ (x = 63) := fun e => h63 (e63.1 e)
          have hstar : (x = 42 → strs st.star = 1) := fun e => by
            have hc42 := e42.1 e
            cases hs2 : st.star
            · exact absurd ⟨hc42, hs2⟩ hst
            · rfl
          by_cases hw : si cc < 0 ∨ (n : Int) ≤ si cc
          · have hr4 : res = 4 := by
              have e4 := take_word (n := n) (st := st) hst h63 hw
              rw [HBAD.out (by rw [e4]; decide), e4]
            subst hr4
            have hse : strs st.star = 0 ∨ strs st.star = 1 := by unfold strs; split <;> simp
            clear HBAD HNXT HTH hM hcell HRES HRA
            by_cases hx42 : x = 42
            · subst hx42
              have hs1 := hstar rfl
              have hc42 := e42.1 rfl
              have hsn : si cc = -1 := by rw [hc42]; decide +kernel
              rw [hs1]
              rw [hsn] at HBL
              clear hs1 hstar hse e42 e63 hw hsi hsn
              go_wp2_with fail
              refine HBL.out.mono ?_
              rintro e wa ⟨rfl, rfl⟩
              go_wp2
              go_ret
              exact ⟨rfl, hb1.trans (hbw.mono hb1.size)⟩
            · generalize strs st.star = ss at *
              clear hstar hse e42 e63
              generalize si cc = bb at *
              by_cases hneg : bb < 0
              · go_wp2_with fail
                refine HBL.out.mono ?_
                rintro e wa ⟨rfl, rfl⟩
                go_wp2
                go_ret
                exact ⟨rfl, hb1.trans (hbw.mono hb1.size)⟩
              · have hbig : (n : Int) ≤ bb := by omega
                go_wp2_with fail
                refine HBL.out.mono ?_
                rintro e wa ⟨rfl, rfl⟩
                go_wp2
                go_ret
                exact ⟨rfl, hb1.trans (hbw.mono hb1.size)⟩
          · obtain ⟨b0, hb0⟩ := Int.eq_ofNat_of_zero_le (show 0 ≤ si cc by omega)
            obtain ⟨hcs, hb12⟩ := si_inv hb0
            have hbn : b0 < n := by omega
            have hcode := take_bell_code (st := st) hb0 hbn
            have hx42 : ¬ (x = 42) := fun e => by
              have := e42.1 e
              exact (sg_ne hb12).1 (hcs.symm.trans this)
            have hxc : x = (cc : Int) := by
              rcases HRA.out k hkC with h9 | ⟨_, h9⟩
              · rw [hgc] at h9; rw [← h9]; exact hx.out.symm
              · exfalso; rw [hgc] at h9; rw [h9] at hcs; have := sg_lt b0; omega
            have hcc : cc ≠ 65533 := fun e => by rw [e] at hcs; have := sg_lt b0; omega
            have HEQ : Hid (∀ j, j < k → ((A.getD j 0 = x) ↔ C.getD j 0 = cc)) := fun j hj => by
              rw [hxc]
              exact (HRA.out j (by omega)).eq cc hcc
            have HYES : Hid (∀ j, j < k → A.getD j 0 = x → res = 2) := fun j hj he => by
              have hm : sg b0 ∈ C.take k := by
                rw [← hcs, ← (HEQ.out j hj).1 he, List.getD, List.getElem?_eq_getElem (by omega), Option.getD_some]
                exact List.mem_take_iff_getElem.2 ⟨j, by omega, rfl⟩
              rw [HTH.out b0 hb12, decide_eq_true hm, if_pos rfl] at hcode
              rw [HBAD.out (by rw [hcode]; decide), hcode]
            have HNO : Hid ((∀ j, j < k → A.getD j 0 ≠ x) → MTo n C (k + 1) (st.take n cc).2 ∧ strs (st.take n cc).2.star = strs st.star) := fun hno => by
              have hm : sg b0 ∉ C.take k := fun hm => by
                obtain ⟨j, hj, e9⟩ := List.mem_take_iff_getElem.1 hm
                refine hno j (by omega) ((HEQ.out j (by omega)).2 ?_)
                rw [List.getD, List.getElem?_eq_getElem (by omega), Option.getD_some, e9, hcs]
              have hth := HTH.out b0 hb12
              rw [decide_eq_false hm] at hth
              rw [hth] at hcode
              refine ⟨HNXT.out hcode, ?_⟩
              have hne := sg_ne hb12
              rw [← hcs] at hne
              unfold MP.take
              rw [if_neg hne.1, if_neg hne.2, if_neg hw, hb0, Int.toNat_natCast, hth]
              show strs (MP.put n { st with there := st.there.set b0 true } (b0 : Int)).star = _
              rw [(MP.put_len n _ _).2.1]
            rw [hb0] at HBL
            have HCL := hide hcell
            have HX := hide hx
            have hnb : ¬ ((n : Int) ≤ (b0 : Int)) := by omega
            clear HBAD HTH hM hcell HRA hcode hxc hcc hcs hx hgc e42 e63 hst h63 hw HNXT HEQ hstar hsi hb0
            generalize hss : strs st.star = ss at *
            clear hss
            go_wp2_with fail
            refine HBL.out.mono ?_
            rintro e wa ⟨rfl, rfl⟩
            go_wp2
            go_loopw [9] (fun i wr => ∃ (j : Nat), j ≤ k ∧ i = .int .i64 j ∧ Hid (∀ j', j' < j → A.getD j' 0 ≠ x) ∧ wr.cell? ⟨b, off + k, none⟩ = some (.int .i64 x) ∧ Below w1.heap.size w1 wr) (fun i _ => k - (intOf i).toNat)
            case atStart => exact ⟨0, by omega, rfl, (fun j hj => absurd hj (by omega)), gx, hbw⟩
            case round =>
              clear gx hbw
              obtain ⟨j, hj, rfl, hN, gx, hbw⟩ := hrel
              by_cases hjk : j < k
              · obtain ⟨y, hy, hcy⟩ := cellAt HCL.out (show j < A.length by omega)
                have gy : wr.cell? ⟨b, off + j, none⟩ = some (.int .i64 y) := (hbw.cell (by exact hb')).trans hcy
                have hjA : j < A.length := by omega
                by_cases hxy : y = x
                · subst hxy
                  have hr2 : res = 2 := HYES.out j hjk hy.out
                  subst hr2
                  clear hcy hy HNO HYES
                  go_wp2
                  go_quiet (fail)
                  go_wp2
                  go_ret
                  exact ⟨rfl, (hb1.trans (hbw.mono hb1.size)).trans ⟨rfl, rfl, rfl, Nat.le_refl _, fun _ _ => rfl⟩⟩
                · have HN2 : Hid (∀ j', j' < j + 1 → A.getD j' 0 ≠ x) := fun j' hj' => by
                    rcases Nat.lt_succ_iff_lt_or_eq.1 hj' with h9 | h9
                    · exact hN.out j' h9
                    · rw [h9]; show A.getD j 0 ≠ x; rw [show A.getD j 0 = y from hy.out]; exact hxy
                  have hd : (y == x) = false := by rw [beq_eq_false_iff_ne]; exact hxy
                  clear hcy hy
                  go_wp2
                  go_quiet (fail)
                  have gx2 : (wr.drewN nq).cell? ⟨b, off + k, none⟩ = some (.int .i64 x) := gx
                  have hbw2 : Below w1.heap.size w1 (wr.drewN nq) := hbw.trans ⟨rfl, rfl, rfl, Nat.le_refl _, fun _ _ => rfl⟩
                  go_wp2
                  go_roundw
                  case rel => exact ⟨j + 1, by omega, by go_num, HN2, gx2, hbw2⟩
                  case measure => simp [intOf]; omega
              · obtain rfl : j = k := by omega
                obtain ⟨hn9, hs9⟩ := HNO.out hN.out
                have HN9 := hide hn9
                have HS9 := hide hs9
                clear hn9 hs9 HNO HYES gx
                go_wp2
                go_roundw
                case rel => exact ⟨j + 1, _, by omega, by go_num, by rw [HS9.out], HN9, hbw⟩
                case measure => simp [intOf]; omega
    · obtain rfl : k = A.length := by omega
      have hM' := hM.out
      rw [HAC.out] at hM'
      obtain ⟨hd1, hd2⟩ := hM'.done
      have hr : res = if n < A.length - (if st.star then 1 else 0) ∨ A.length < n ∧ st.star = false then 1 else 0 := by rw [← HRES.out, hd1, hd2, HAC.out]
      have hps : st.star = true → 1 ≤ A.length := fun h => by rw [HAC.out]; exact hM'.pos h
      have HR := hide hr
      have hB := hb1.trans (hbw.mono hb1.size)
      clear hM hM' hd1 hd2 hr HRES HRA HI hbw hb1
      generalize A.length = al at *
      have hw0 : IntKind.i64.wrap ((al : Int) - 0) = (al : Int) := by rw [IntKind.wrap_i64]; omega
      have hw1 : IntKind.i64.wrap ((al : Int) - 1) = (al : Int) - 1 := by rw [IntKind.wrap_i64]; omega
      cases hs : st.star with
      | false =>
        rw [hs] at HR
        rw [show strs false = 0 from rfl]
        clear hps
        by_cases hx1 : n < al
        · obtain rfl : res = 1 := by rw [HR.out, if_pos (Or.inl (by simpa using hx1))]
          have hx1' : (n : Int) < (al : Int) := by omega
          clear HR
          go_wp2
          go_ret
          exact ⟨rfl, hB⟩
        · have hx1' : ¬ (n : Int) < (al : Int) := by omega
          by_cases hx2 : al < n
          · obtain rfl : res = 1 := by rw [HR.out, if_pos (Or.inr ⟨hx2, rfl⟩)]
            have hx2' : (al : Int) < (n : Int) := by omega
            clear HR
            go_wp2
            go_ret
            exact ⟨rfl, hB⟩
          · obtain rfl : res = 0 := by rw [HR.out, if_neg (by simp; omega)]
            have hx2' : ¬ (al : Int) < (n : Int) := by omega
            clear HR
            go_wp2
            go_ret
            exact ⟨rfl, hB⟩
      | true =>
        have hp1 := hps hs
        rw [hs] at HR
        rw [show strs true = 1 from rfl]
        by_cases hx1 : n < al - 1
        · obtain rfl : res = 1 := by rw [HR.out, if_pos (Or.inl (by simpa using hx1))]
          have hx1' : (n : Int) < (al : Int) - 1 := by omega
          clear HR hps
          go_wp2
          go_ret
          exact ⟨rfl, hB⟩
        · obtain rfl : res = 0 := by rw [HR.out, if_neg (by simp; omega)]
          have hx1' : ¬ (n : Int) < (al : Int) - 1 := by omega
          clear HR hps
          by_cases hx2 : (al : Int) < (n : Int)
          · go_wp2
            go_ret
            exact ⟨rfl, hB⟩
          · go_wp2
            go_ret
            exact ⟨rfl, hB⟩

theorem patternMay_any (n : Int) (s : ByteArray) (w : World) (hs : s.size ≤ 1048576) :
    Calls Try.prog 10 #[.int .i64 n, .string s] w fun e w' => e = .returned (.int .i64 (mrd n s).1) ∧ Below w.heap.size w w' := by
  unfold mrd
  by_cases h : n < 1 ∨ 12 < n
  · rw [if_pos h]
    exact patternMay_count n s w h
  · rw [if_neg h]
    obtain ⟨m, rfl⟩ := Int.eq_ofNat_of_zero_le (show 0 ≤ n by omega)
    rw [Int.toNat_natCast]
    exact patternMay_ok m s w (by omega) (by omega) hs

end Go.Proofs.Ytfnmkbcdchnnnaa

/- Plain: what a reader of patterns has read. -/
namespace Go.Proofs.Ytfnmkbcdchnnnaa
open Go.RowKit
set_option maxRecDepth 20000

/-- The place of a pattern that a rune speaks of. -/
def plc (c : Nat) : Int := if c = 63 then -1 else si c

/-- What was read: ahead of the star, behind it. -/
structure MSh (n : Nat) (T : List Nat) (st : MP) (P Q : List Nat) : Prop where
  eq : T = if st.star then P ++ 42 :: Q else P
  nq : st.star = false → Q = []
  p42 : 42 ∉ P
  places : st.places = ((P ++ Q).map plc).take (n + 1)
  ahead : st.ahead = if st.star then min P.length (n + 1) else 0
  val : ∀ c, c ∈ P ++ Q → c = 63 ∨ 0 ≤ si c ∧ si c < n
  len : st.there.length = 12
  there : ∀ b, b < 12 → st.there.getD b false = decide (sg b ∈ P ++ Q)
  nd : (fxd ((P ++ Q).map plc)).Nodup

theorem MSh.start (n : Nat) : MSh n [] MP.new [] [] := by
  refine ⟨rfl, fun _ => rfl, by simp, rfl, rfl, (fun c hc => by cases hc), rfl, fun b hb => ?_, List.nodup_nil⟩
  have : ∀ k : Fin 12, (List.replicate 12 false).getD k.1 false = false := by decide
  rw [show MP.new.there = List.replicate 12 false from rfl, this ⟨b, hb⟩]; simp

theorem put_take (n : Nat) (L : List Int) (b : Int) : (if (L.take (n + 1)).length ≤ n then L.take (n + 1) ++ [b] else L.take (n + 1)) = (L ++ [b]).take (n + 1) := by
  by_cases h : L.length ≤ n
  · rw [if_pos (by simp; omega), List.take_of_length_le (by omega), List.take_of_length_le (by simp; omega)]
  · rw [if_neg (by simp; omega), List.take_append_of_le_length (by omega)]

theorem fxd_append (a b : List Int) : fxd (a ++ b) = fxd a ++ fxd b := by unfold fxd; rw [List.filter_append]

/-- One more place, which is told by c. -/
theorem MSh.push {n : Nat} {T : List Nat} {st st2 : MP} {P Q : List Nat} {c : Nat} (h : MSh n T st P Q) (hc : c ≠ 42) (hv : c = 63 ∨ 0 ≤ si c ∧ si c < n) (hs : st2.star = st.star) (ha : st2.ahead = st.ahead)
    (hp : st2.places = ((P ++ Q ++ [c]).map plc).take (n + 1)) (hl : st2.there.length = 12) (ht : ∀ b, b < 12 → st2.there.getD b false = decide (sg b ∈ P ++ Q ++ [c])) (hnd : (fxd ((P ++ Q ++ [c]).map plc)).Nodup) :
    ∃ P' Q', MSh n (T ++ [c]) st2 P' Q' := by
  cases hst : st.star with
  | false =>
    have hQ := h.nq hst
    subst hQ
    rw [List.append_nil] at hp ht hnd
    have he := h.eq
    rw [hst] at he
    have ha' := h.ahead
    rw [hst] at ha'
    refine ⟨P ++ [c], [], ?_, fun _ => rfl, ?_, ?_, ?_, ?_, hl, ?_, ?_⟩
    · rw [hs, hst, he]; rfl
    · rw [List.mem_append]; rintro (h9 | h9)
      · exact h.p42 h9
      · simp at h9; exact hc h9.symm
    · rw [List.append_nil]; exact hp
    · rw [hs, hst, ha, ha']; rfl
    · intro x hx
      rw [List.append_nil, List.mem_append] at hx
      rcases hx with hx | hx
      · exact h.val x (by rw [List.append_nil]; exact hx)
      · simp at hx; subst hx; exact hv
    · intro b hb; rw [List.append_nil]; exact ht b hb
    · rw [List.append_nil]; exact hnd
  | true =>
    have he := h.eq
    rw [hst] at he
    have ha' := h.ahead
    rw [hst] at ha'
    have e1 : P ++ (Q ++ [c]) = P ++ Q ++ [c] := (List.append_assoc _ _ _).symm
    refine ⟨P, Q ++ [c], ?_, (fun h9 => by rw [hs, hst] at h9; cases h9), h.p42, by rw [e1]; exact hp, ?_, ?_, hl, by rw [e1]; exact ht, by rw [e1]; exact hnd⟩
    · rw [hs, hst, he]; simp
    · rw [hs, hst, ha, ha']
    · intro x hx
      rw [e1, List.mem_append] at hx
      rcases hx with hx | hx
      · exact h.val x hx
      · simp at hx; subst hx; exact hv

theorem plc_inv {c b : Nat} (h : plc c = (b : Int)) : c = sg b := by
  unfold plc at h
  split at h
  · omega
  · exact (si_inv h).1

theorem MSh.next {n : Nat} {T : List Nat} {st : MP} {P Q : List Nat} {c : Nat} (h : MSh n T st P Q) (h0 : (st.take n c).1 = 0) : ∃ P' Q', MSh n (T ++ [c]) (st.take n c).2 P' Q' := by
  by_cases hc1 : c = 42
  · subst hc1
    cases hs : st.star with
    | true =>
      unfold MP.take at h0
      rw [if_pos rfl, hs] at h0
      simp at h0
    | false =>
      have e : st.take n 42 = (0, { st with star := true, ahead := st.places.length }) := by unfold MP.take; rw [if_pos rfl, hs]; rfl
      rw [e]
      have hQ := h.nq hs
      subst hQ
      have he := h.eq
      rw [hs] at he
      refine ⟨P, [], ?_, (fun h9 => by cases h9), h.p42, h.places, ?_, h.val, h.len, h.there, h.nd⟩
      · rw [he]; rfl
      · show st.places.length = _
        rw [h.places]; simp [Nat.min_comm]
  · by_cases hc2 : c = 63
    · subst hc2
      have e : st.take n 63 = (0, st.put n (-1)) := by unfold MP.take; rw [if_neg (by decide), if_pos rfl]
      rw [e]
      obtain ⟨_, p2, p3⟩ := MP.put_len n st (-1)
      refine h.push hc1 (Or.inl rfl) p2 (by unfold MP.put; split <;> rfl) ?_ (by rw [p3]; exact h.len) (fun b hb => ?_) ?_
      · have e9 : (st.put n (-1)).places = if st.places.length ≤ n then st.places ++ [-1] else st.places := by unfold MP.put; split <;> rfl
        rw [e9, h.places, put_take, List.map_append (l₂ := [63])]
        rfl
      · rw [p3, h.there b hb]
        congr 1
        rw [List.mem_append (t := [63])]
        have := (sg_ne hb).2
        simp [this]
      · rw [List.map_append, fxd_append]
        have : fxd ([63].map plc) = [] := by decide
        rw [this, List.append_nil]
        exact h.nd
    · have e0 : st.take n c = if si c < 0 ∨ (n : Int) ≤ si c then (4, st) else if st.there.getD (si c).toNat false then (2, st) else (0, { st with there := st.there.set (si c).toNat true }.put n (si c)) := by
        unfold MP.take; rw [if_neg hc1, if_neg hc2]
      by_cases hb1 : si c < 0 ∨ (n : Int) ≤ si c
      · rw [e0, if_pos hb1] at h0; simp at h0
      · obtain ⟨b0, hb0⟩ := Int.eq_ofNat_of_zero_le (show 0 ≤ si c by omega)
        obtain ⟨hcs, hb12⟩ := si_inv hb0
        have hpl : plc c = (b0 : Int) := by unfold plc; rw [if_neg hc2, hb0]
        rw [if_neg hb1, hb0, Int.toNat_natCast] at e0
        cases hth : st.there.getD b0 false with
        | true => rw [e0, hth] at h0; simp at h0
        | false =>
          rw [hth] at e0
          have e : st.take n c = (0, { st with there := st.there.set b0 true }.put n (b0 : Int)) := e0
          rw [e]
          obtain ⟨_, p2, p3⟩ := MP.put_len n { st with there := st.there.set b0 true } (b0 : Int)
          have hnin : sg b0 ∉ P ++ Q := by
            have := h.there b0 hb12
            rw [hth] at this
            exact of_decide_eq_false this.symm
          refine h.push hc1 (Or.inr (by omega)) p2 (by unfold MP.put; split <;> rfl) ?_ (by rw [p3]; simp [h.len]) (fun b hb => ?_) ?_
          · have e9 : (MP.put n { st with there := st.there.set b0 true } (b0 : Int)).places = if st.places.length ≤ n then st.places ++ [(b0 : Int)] else st.places := by unfold MP.put; split <;> rfl
            rw [e9, h.places, put_take, List.map_append (l₂ := [c])]
            simp [hpl]
          · rw [p3]
            show (st.there.set b0 true).getD b false = _
            rw [getD_set_bool (by rw [h.len]; exact hb12)]
            by_cases hbb : b0 = b
            · subst hbb
              rw [if_pos rfl]
              symm
              rw [decide_eq_true_iff, List.mem_append]
              right; rw [hcs]; simp
            · rw [if_neg hbb, h.there b hb]
              congr 1
              rw [List.mem_append (t := [c])]
              have : sg b ≠ c := fun e9 => hbb (sg_inj hb12 hb (hcs.symm.trans e9.symm))
              simp [this]
          · rw [List.map_append, fxd_append]
            have : fxd ([c].map plc) = [(b0 : Int)] := by
              rw [List.map_cons, List.map_nil, hpl]
              unfold fxd
              rw [List.filter_cons_of_pos (by simp)]
              rfl
            rw [this, List.nodup_append]
            refine ⟨h.nd, by simp, fun x hx y hy e9 => ?_⟩
            simp at hy
            subst hy
            subst e9
            obtain ⟨c', hc', e10⟩ := List.mem_map.1 (fxd_mem.1 hx).1
            exact hnin (plc_inv e10 ▸ hc')

theorem MSh.run {n : Nat} : ∀ (cs T : List Nat) (st st2 : MP) (P Q : List Nat), MSh n T st P Q → MP.run n st cs = (0, st2) → ∃ P' Q', MSh n (T ++ cs) st2 P' Q'
  | [], T, st, st2, P, Q, h, hr => by
    have : st = st2 := congrArg Prod.snd hr
    subst this
    exact ⟨P, Q, by rw [List.append_nil]; exact h⟩
  | c :: cs, T, st, st2, P, Q, h, hr => by
    have h1 : (if (st.take n c).1 = 0 then MP.run n (st.take n c).2 cs else st.take n c) = (0, st2) := hr
    by_cases h2 : (st.take n c).1 = 0
    · rw [if_pos h2] at h1
      obtain ⟨P1, Q1, hn⟩ := h.next h2
      obtain ⟨P2, Q2, h3⟩ := MSh.run cs (T ++ [c]) _ st2 P1 Q1 hn h1
      exact ⟨P2, Q2, by rw [List.append_assoc] at h3; exact h3⟩
    · rw [if_neg h2] at h1
      exact absurd (by rw [h1]) h2

/-- What is told of a pattern that was read. -/
structure PatOk (n : Nat) (C : List Nat) (p : List Int) (P Q : List Nat) : Prop where
  eq : (C = P ++ 42 :: Q ∧ p = P.map plc ++ List.replicate (n - (P ++ Q).length) (-1) ++ Q.map plc) ∨ (C = P ∧ Q = [] ∧ p = P.map plc)
  p42 : 42 ∉ P
  le : (P ++ Q).length ≤ n
  len : p.length = n
  val : ∀ c, c ∈ P ++ Q → c = 63 ∨ 0 ≤ si c ∧ si c < n
  nd : (fxd p).Nodup

theorem patOk_of {n : Nat} {C : List Nat} (h0 : (MP.read n C).1 = 0) : ∃ P Q, PatOk n C (MP.read n C).2 P Q := by
  have hlen := MP.read_len h0
  by_cases hr0 : (MP.run n MP.new C).1 = 0
  · have hr : MP.run n MP.new C = (0, (MP.run n MP.new C).2) := by rw [← hr0]
    obtain ⟨P, Q, h⟩ := MSh.run C [] MP.new _ [] [] (MSh.start n) hr
    rw [List.nil_append] at h
    have hread : MP.read n C = ((MP.run n MP.new C).2).end_ n := by unfold MP.read; rw [hr]; rfl
    generalize (MP.run n MP.new C).2 = st at *
    rw [hread] at h0 hlen ⊢
    unfold MP.end_ at h0 hlen ⊢
    by_cases hx : n < st.places.length ∨ st.places.length < n ∧ st.star = false
    · rw [if_pos hx] at h0; simp at h0
    · rw [if_neg hx] at hlen ⊢
      have hpl := h.places
      have hpl2 : st.places.length = min (P ++ Q).length (n + 1) := by rw [hpl]; simp [Nat.min_comm]
      have hle : (P ++ Q).length ≤ n := by omega
      have hpl3 : st.places = (P ++ Q).map plc := by rw [hpl, List.take_of_length_le (by simp at hle ⊢; omega)]
      refine ⟨P, Q, ?_, h.p42, hle, hlen, h.val, ?_⟩
      · cases hs : st.star with
        | true =>
          left
          have he := h.eq
          have ha := h.ahead
          rw [hs] at he ha
          have ha' : st.ahead = P.length := by rw [ha]; simp at hle ⊢; omega
          refine ⟨by rw [he]; rfl, ?_⟩
          rw [ha', hpl3, List.map_append, List.take_left' (by simp), List.drop_left' (by simp)]
          simp
        | false =>
          right
          have he := h.eq
          have ha := h.ahead
          have hq := h.nq hs
          rw [hs] at he ha
          subst hq
          refine ⟨by rw [he]; rfl, rfl, ?_⟩
          have : n - st.places.length = 0 := by
            by_cases h9 : st.places.length < n
            · exact absurd (Or.inr ⟨h9, hs⟩) hx
            · omega
          rw [show st.ahead = 0 from ha, this, hpl3]
          simp
      · have e1 : fxd (st.places.take st.ahead ++ List.replicate (n - st.places.length) (-1) ++ st.places.drop st.ahead) = fxd st.places := by
          rw [fxd_append, fxd_append, fxd_any, List.append_nil, ← fxd_append, List.take_append_drop]
        show (fxd (st.places.take st.ahead ++ List.replicate (n - st.places.length) (-1) ++ st.places.drop st.ahead)).Nodup
        rw [e1, hpl3]
        exact h.nd
  · have : MP.read n C = ((MP.run n MP.new C).1, []) := by unfold MP.read; exact if_neg hr0
    rw [this] at h0
    exact absurd h0 hr0

theorem PatOk.range {n : Nat} {C : List Nat} {p : List Int} {P Q : List Nat} (h : PatOk n C p P Q) : ∀ x, x ∈ fxd p → 0 ≤ x ∧ x < n := by
  have key : ∀ c, c ∈ P ++ Q → plc c = -1 ∨ 0 ≤ plc c ∧ plc c < n := fun c hc => by
    unfold plc
    split
    · exact Or.inl rfl
    · rename_i h9; exact Or.inr ((h.val c hc).resolve_left h9)
  intro x hx
  obtain ⟨h1, h2⟩ := fxd_mem.1 hx
  rcases h.eq with ⟨_, e⟩ | ⟨_, _, e⟩
  · rw [e, List.mem_append, List.mem_append] at h1
    rcases h1 with (h1 | h1) | h1
    · obtain ⟨c, hc, rfl⟩ := List.mem_map.1 h1; exact (key c (List.mem_append_left _ hc)).resolve_left h2
    · exact absurd (List.eq_of_mem_replicate h1) h2
    · obtain ⟨c, hc, rfl⟩ := List.mem_map.1 h1; exact (key c (List.mem_append_right _ hc)).resolve_left h2
  · rw [e] at h1
    obtain ⟨c, hc, rfl⟩ := List.mem_map.1 h1; exact (key c (List.mem_append_left _ hc)).resolve_left h2

/-- Is a bell in the place of a rune? -/
def okr (c : Nat) (y : Int) : Prop := c = 63 ∨ si c = y

theorem fts_pat {n : Nat} {C : List Nat} {p : List Int} {P Q : List Nat} (h : PatOk n C p P Q) {r : List Int} :
    fts p r = true ↔ (∀ j, j < P.length → okr (P.getD j 0) (r.getD j 0)) ∧ (∀ j, j < Q.length → okr (Q.getD j 0) (r.getD (n - Q.length + j) 0)) := by
  have hle : P.length + Q.length ≤ n := by have := h.le; simpa using this
  have key : ∀ c, c ∈ P ++ Q → ∀ y, (plc c = -1 ∨ plc c = y) ↔ okr c y := fun c hc y => by
    unfold plc okr
    by_cases h9 : c = 63
    · rw [if_pos h9]; simp [h9]
    · rw [if_neg h9]
      have := (h.val c hc).resolve_left h9
      simp [h9]
      omega
  have hpj : ∀ j, j < P.length → p.getD j 0 = plc (P.getD j 0) ∧ P.getD j 0 ∈ P ++ Q := fun j hj => by
    have e2 : P.getD j 0 = P[j] := by simp [List.getD, hj]
    refine ⟨?_, by rw [e2]; exact List.mem_append_left _ (List.getElem_mem hj)⟩
    rcases h.eq with ⟨_, e⟩ | ⟨_, _, e⟩
    · rw [e, List.getD_eq_getElem?_getD, List.append_assoc, List.getElem?_append_left (by simpa using hj)]
      simp [List.getD, hj]
    · rw [e]; simp [List.getD, hj]
  have hqj : ∀ j, j < Q.length → p.getD (n - Q.length + j) 0 = plc (Q.getD j 0) ∧ Q.getD j 0 ∈ P ++ Q := fun j hj => by
    have e2 : Q.getD j 0 = Q[j] := by simp [List.getD, hj]
    refine ⟨?_, by rw [e2]; exact List.mem_append_right _ (List.getElem_mem hj)⟩
    rcases h.eq with ⟨_, e⟩ | ⟨_, e, _⟩
    · rw [e, List.getD_eq_getElem?_getD, List.getElem?_append_right (by simp; omega)]
      have : n - Q.length + j - (P.map plc ++ List.replicate (n - (P ++ Q).length) (-1)).length = j := by simp; omega
      rw [this]
      simp [List.getD, hj]
    · rw [e] at hj; simp at hj
  have hmid : ∀ j, P.length ≤ j → j < n - Q.length → p.getD j 0 = -1 := fun j h1 h2 => by
    rcases h.eq with ⟨_, e⟩ | ⟨_, e, e2⟩
    · rw [e, List.getD_eq_getElem?_getD, List.getElem?_append_left (by simp; omega), List.getElem?_append_right (by simpa using h1), List.getElem?_replicate_of_lt (by simp; omega)]
      rfl
    · exfalso
      have := h.len
      rw [e2] at this
      rw [e] at h2
      simp at this h2
      omega
  unfold fts
  rw [List.all_eq_true]
  constructor
  · intro hall
    have h1 : ∀ j, j < n → (p.getD j 0 = -1 ∨ p.getD j 0 = r.getD j 0) := fun j hj => of_decide_eq_true (hall j (by rw [h.len]; simpa using hj))
    refine ⟨fun j hj => ?_, fun j hj => ?_⟩
    · have := h1 j (by omega)
      rw [(hpj j hj).1] at this
      exact (key _ (hpj j hj).2 _).1 this
    · have := h1 (n - Q.length + j) (by omega)
      rw [(hqj j hj).1] at this
      exact (key _ (hqj j hj).2 _).1 this
  · rintro ⟨h1, h2⟩ j hj
    have hj' : j < n := by rw [h.len] at hj; simpa using hj
    apply decide_eq_true
    rcases Nat.lt_or_ge j P.length with h3 | h3
    · rw [(hpj j h3).1]; exact (key _ (hpj j h3).2 _).2 (h1 j h3)
    · rcases Nat.lt_or_ge j (n - Q.length) with h4 | h4
      · exact Or.inl (hmid j h3 h4)
      · have e : j = n - Q.length + (j - (n - Q.length)) := by omega
        have hjq : j - (n - Q.length) < Q.length := by omega
        rw [e, (hqj _ hjq).1]; exact (key _ (hqj _ hjq).2 _).2 (h2 _ hjq)

end Go.Proofs.Ytfnmkbcdchnnnaa

/- Contracts: the answer's pattern, Like. -/
namespace Go.Proofs.Ytfnmkbcdchnnnaa
open Go.RowKit
set_option maxRecDepth 20000
set_option linter.unusedVariables false

/-- A list cut at its first star. -/
def Cut42 (A a b : List Int) : Prop := (A = a ++ 42 :: b ∨ A = a ∧ b = []) ∧ (42 : Int) ∉ a

def PtPost (A : List Int) (w : World) (e : Ending) (w' : World) : Prop :=
  ∃ va vb t a b, e = .returned (.tuple #[va, vb, .bool t]) ∧ Below w.heap.size w w' ∧ Ints w' va a ∧ Ints w' vb b ∧ Cut42 A a b

theorem ints_part {w : World} {b off cap lo len c2 : Nat} {xs : List Int} (h : Ints w (.slice (some ⟨b, off, none⟩) xs.length cap) xs) (hlo : lo + len ≤ xs.length) (hc : len ≤ c2) (hc2 : c2 ≤ 9223372036854775807) :
    Ints w (.slice (some ⟨b, off + lo, none⟩) len c2) ((xs.drop lo).take len) := by
  have hl : ((xs.drop lo).take len).length = len := by simp; omega
  rcases Nat.eq_zero_or_pos len with h0 | h0
  · subst h0
    exact Or.inl ⟨by simp, _, _, rfl⟩
  · rcases h with ⟨rfl, _⟩ | ⟨b', off', cap', e, h2, h3, h4, h5, h6⟩
    · simp at hlo; omega
    · simp only [Value.slice.injEq, Option.some.injEq, Addr.mk.injEq] at e
      obtain ⟨⟨rfl, rfl, _⟩, _, rfl⟩ := e
      refine Or.inr ⟨b, off + lo, c2, by rw [hl], by omega, by omega, hc2, h5, fun j hj => ?_⟩
      rw [hl] at hj
      rw [Nat.add_assoc, h6 (lo + j) (by omega)]
      simp [List.getD, hj]

set_option maxHeartbeats 4000000 in
theorem pattern_ok (s : ByteArray) (w : World) (hs : s.size ≤ 1048576) :
    Calls Try.prog 37 #[.string s] w (PtPost (arunes s) w) := by
  have HRU := hide (runes_any s w hs)
  have hAL := arunes_length s
  have hCl := runesOf_length s
  have hal : (arunes s).length ≤ 1048576 := by omega
  clear hAL hCl
  generalize arunes s = A at *
  go_enter Try.func37, Try.ntmps37
  go_wp2_with fail
  refine HRU.out.mono ?_
  rintro e w1 ⟨v, rfl, hown, hb1⟩
  have HI := hide (Ints.own hown)
  obtain ⟨p, c, rfl⟩ := owns_slice hown
  clear hown HRU
  go_wp2
  go_loopw [6] (fun i wr => ∃ (k : Nat), k ≤ A.length ∧ i = .int .i64 k ∧ Hid (∀ j, j < k → A.getD j 0 ≠ 42) ∧ Below w1.heap.size w1 wr) (fun i _ => A.length - (intOf i).toNat)
  case atStart => exact ⟨0, by omega, rfl, (fun j hj => absurd hj (by omega)), Below.refl _ _⟩
  case round =>
    obtain ⟨k, hk, rfl, hN, hbw⟩ := hrel
    have HNA : Hid (∀ q, q ≤ k → (42 : Int) ∉ A.take q) := fun q hq hm => by
      obtain ⟨j, hj, e9⟩ := List.mem_take_iff_getElem.1 hm
      refine hN.out j (by omega) ?_
      simp [List.getD, show j < A.length by omega, e9]
    by_cases hlt : k < A.length
    · obtain ⟨b, off, cap, he, h0', hc', hm', hb', hcell⟩ := HI.out.resolve_left (fun h => by have := h.1; rw [this] at hlt; simp at hlt)
      simp only [Value.slice.injEq] at he
      obtain ⟨rfl, _, rfl⟩ := he
      obtain ⟨x, hx, hcx⟩ := cellAt hcell hlt
      have gx : wr.cell? ⟨b, off + k, none⟩ = some (.int .i64 x) := (hbw.cell (by exact hb')).trans hcx
      have hx' : A.getD k 0 = x := hx.out
      have HX := hide hx'
      clear hcx hcell hx'
      by_cases hx42 : x = 42
      · subst hx42
        have hAe : A = A.take k ++ 42 :: A.drop (k + 1) := by
          have h9 : A[k] = 42 := by have := HX.out; simpa [List.getD, hlt] using this
          conv => lhs; rw [← List.take_append_drop k A, List.drop_eq_getElem_cons hlt, h9]
        have HF : Hid (∀ N va vb, (wr.drewN N).heap.size = wr.heap.size → Ints wr va (A.take k) → Ints wr vb (A.drop (k + 1)) → PtPost A w (.returned (.tuple #[va, vb, .bool true])) (wr.drewN N)) := fun N va vb _ h1 h2 => by
          refine ⟨va, vb, true, A.take k, A.drop (k + 1), rfl, (hb1.trans (hbw.mono hb1.size)).trans ⟨rfl, rfl, rfl, Nat.le_refl _, fun _ _ => rfl⟩, h1, h2, Or.inl hAe, HNA.out k (Nat.le_refl _)⟩
        have HP1 : Hid (Ints wr (.slice (some ⟨b, off, none⟩) k c) (A.take k)) := by
          have := ints_part (lo := 0) (len := k) (c2 := c) (HI.out.below hbw) (by omega) (by omega) hm'
          show Ints _ _ _
          simpa using this
        have hk1 : A.drop (k + 1) = (A.drop (k + 1)).take (A.length - (k + 1)) := by rw [List.take_of_length_le (by simp)]
        by_cases hcap : c = k + 1
        · have HP2 : Hid (∀ q c9, Ints wr (.slice q 0 c9) (A.drop (k + 1))) := fun q c9 => Or.inl ⟨List.drop_of_length_le (by omega), _, _, rfl⟩
          have HFF := hide (fun N q c9 => HF.out N _ _ rfl HP1.out (HP2.out q c9))
          clear HF HP1 HP2 HNA hN hAe hk1 HI HX hx
          have hal2 : A.length = k + 1 := by omega
          generalize A.length = al at *
          subst hcap
          subst hal2
          go_wp2
          go_quiet (fail)
          go_wp2
          go_ret3
          exact HFF.out _ _ _
        · have HP2 : Hid (Ints wr (.slice (some ⟨b, off + (k + 1), none⟩) (A.length - (k + 1)) (c - (k + 1))) (A.drop (k + 1))) := by
            have := ints_part (lo := k + 1) (len := A.length - (k + 1)) (c2 := c - (k + 1)) (HI.out.below hbw) (by omega) (by omega) (by omega)
            rw [← hk1] at this
            exact this
          have HFF := hide (fun N => HF.out N _ _ rfl HP1.out HP2.out)
          clear HF HP1 HP2 HNA hN hAe hk1 HI HX hx
          have hal2 : A.length ≤ c := hc'
          generalize A.length = al at *
          go_wp2
          go_quiet (fail)
          go_wp2
          go_ret3
          exact HFF.out _
      · have HN2 : Hid (∀ j, j < k + 1 → A.getD j 0 ≠ 42) := fun j hj => by
          rcases Nat.lt_succ_iff_lt_or_eq.1 hj with h9 | h9
          · exact hN.out j h9
          · rw [h9, HX.out]; exact hx42
        clear HNA hx
        go_wp2
        go_roundw
        case rel => exact ⟨k + 1, by omega, by go_num, HN2, hbw⟩
        case measure => simp [intOf]; omega
    · obtain rfl : k = A.length := by omega
      have hn := HNA.out _ (Nat.le_refl _)
      rw [List.take_length] at hn
      have HF : Hid (PtPost A w (.returned (.tuple #[.slice p A.length c, .slice none 0 0, .bool false])) wr) :=
        ⟨_, _, false, A, [], rfl, hb1.trans (hbw.mono hb1.size), HI.out.below hbw, Ints.nil _, Or.inr ⟨rfl, rfl⟩, hn⟩
      clear HNA hn HI hN
      go_wp2
      go_ret3
      exact HF.out

end Go.Proofs.Ytfnmkbcdchnnnaa

/- Contract: the answer's Like. -/
namespace Go.Proofs.Ytfnmkbcdchnnnaa
open Go.RowKit
set_option maxRecDepth 20000
set_option linter.unusedVariables false

theorem getD_left {α : Type} {a b : List α} {j : Nat} (d : α) (h : j < a.length) : (a ++ b).getD j d = a.getD j d := by
  rw [List.getD_eq_getElem?_getD, List.getElem?_append_left h, ← List.getD_eq_getElem?_getD]

theorem getD_mid {α : Type} {a b : List α} (x d : α) : (a ++ x :: b).getD a.length d = x := by
  rw [List.getD_eq_getElem?_getD, List.getElem?_append_right (Nat.le_refl _)]; simp

theorem getD_right {α : Type} {a b : List α} {j : Nat} (x d : α) : (a ++ x :: b).getD (a.length + 1 + j) d = b.getD j d := by
  rw [List.getD_eq_getElem?_getD, List.getElem?_append_right (by omega), show a.length + 1 + j - a.length = j + 1 by omega, List.getElem?_cons_succ, ← List.getD_eq_getElem?_getD]

theorem getD_mem {α : Type} {a : List α} {j : Nat} (d : α) (h : j < a.length) : a.getD j d ∈ a := by
  rw [List.getD_eq_getElem?_getD, List.getElem?_eq_getElem h]; exact List.getElem_mem h

theorem cut_match {A a b : List Int} {C P Q : List Nat} (hl : A.length = C.length) (hr : ∀ j, j < C.length → RuA (A.getD j 0) (C.getD j 0)) (h1 : Cut42 A a b) (h2 : C = P ++ 42 :: Q ∨ C = P ∧ Q = []) (h3 : 42 ∉ P) :
    a.length = P.length ∧ b.length = Q.length ∧ (∀ j, j < a.length → RuA (a.getD j 0) (P.getD j 0)) ∧ ∀ j, j < b.length → RuA (b.getD j 0) (Q.getD j 0) := by
  have hAC : ∀ j, j < C.length → (A.getD j 0 = 42 ↔ C.getD j 0 = 42) := fun j hj => (hr j hj).eq 42 (by decide)
  rcases h1 with ⟨rfl | ⟨rfl, rfl⟩, h5⟩
  · rcases h2 with rfl | ⟨rfl, rfl⟩
    · have hl' : a.length + b.length = P.length + Q.length := by simp at hl; omega
      have hlen : a.length = P.length := by
        rcases Nat.lt_trichotomy a.length P.length with h | h | h
        · exfalso
          have := (hAC a.length (by simp; omega)).1 (getD_mid _ _)
          rw [getD_left _ h] at this
          exact h3 (this ▸ getD_mem 0 h)
        · exact h
        · exfalso
          have := (hAC P.length (by simp)).2 (getD_mid _ _)
          rw [getD_left _ h] at this
          exact h5 (this ▸ getD_mem 0 h)
      refine ⟨hlen, by omega, fun j hj => ?_, fun j hj => ?_⟩
      · have := hr j (by simp; omega)
        rwa [getD_left _ hj, getD_left _ (by omega)] at this
      · have := hr (a.length + 1 + j) (by simp; omega)
        rw [getD_right] at this
        rw [hlen, getD_right] at this
        exact this
    · exfalso
      have h9 : a.length < C.length := by rw [← hl]; simp
      have := (hAC a.length h9).1 (getD_mid _ _)
      exact h3 (this ▸ getD_mem 0 h9)
  · rcases h2 with rfl | ⟨rfl, rfl⟩
    · exfalso
      have h9 : P.length < A.length := by rw [hl]; simp
      have := (hAC P.length (by simp)).2 (getD_mid _ _)
      exact h5 (this ▸ getD_mem 0 h9)
    · exact ⟨hl, rfl, fun j hj => hr j (by omega), fun j hj => by simp at hj⟩

/-- Is a number in the place of a rune of the answer's? -/
def okx (x y : Int) : Prop := x = 63 ∨ sa x = y

theorem okx_iff {x y : Int} {c : Nat} (h : RuA x c) : okx x y ↔ okr c y := by
  unfold okx okr
  rw [h.bell]
  exact or_congr (h.eq 63 (by decide)) Iff.rfl

set_option maxHeartbeats 8000000 in
theorem like_ok (n : Nat) (s : ByteArray) (v : Value) (r : List Int) (w : World) (h1 : 1 ≤ n) (h2 : n ≤ 12) (hs : s.size ≤ 1048576) (hv : Ints w v r) (hr : r.length = n) (h0 : (MP.read n (runesOf s)).1 = 0) :
    Calls Try.prog 14 #[.string s, v] w fun e w' => e = .returned (.bool (fts (MP.read n (runesOf s)).2 r)) ∧ Below w.heap.size w w' := by
  obtain ⟨P, Q, hP⟩ := patOk_of h0
  have hf := fts_pat hP (r := r)
  have hCP : runesOf s = P ++ 42 :: Q ∨ runesOf s = P ∧ Q = [] := hP.eq.elim (fun h => Or.inl h.1) (fun h => Or.inr ⟨h.1, h.2.1⟩)
  have hle : P.length + Q.length ≤ n := by have := hP.le; simpa using this
  have HPT := hide (pattern_ok s w hs)
  have HCM : Hid (∀ a b, Cut42 (arunes s) a b → a.length = P.length ∧ b.length = Q.length ∧ (∀ j, j < a.length → RuA (a.getD j 0) (P.getD j 0)) ∧ ∀ j, j < b.length → RuA (b.getD j 0) (Q.getD j 0)) := fun a b hc => cut_match (arunes_length s) (fun j hj => ruA_at s hj) hc hCP hP.p42
  generalize hres : fts (MP.read n (runesOf s)).2 r = res at *
  obtain ⟨p0, c0, rfl⟩ := hv.form
  have HV := hide hv
  rw [hr]
  have HF := hide hf
  have HRL := hide hr
  clear hv hP hf hCP h0 hres hr
  go_enter Try.func14, Try.ntmps14
  go_wp2_with fail
  refine HPT.out.mono ?_
  rintro e w1 ⟨va, vb, t, a, b, rfl, hb1, ha, hb, hc⟩
  obtain ⟨hal, hbl, hra, hrb⟩ := HCM.out a b hc
  have HR : Hid (res = true ↔ (∀ j, j < a.length → okx (a.getD j 0) (r.getD j 0)) ∧ (∀ j, j < b.length → okx (b.getD j 0) (r.getD (n - b.length + j) 0))) := by
    show _ ↔ _
    rw [HF.out, hal, hbl]
    refine and_congr (forall_congr' fun j => forall_congr' fun hj => ?_) (forall_congr' fun j => forall_congr' fun hj => ?_)
    · exact (okx_iff (hra j (by omega))).symm
    · exact (okx_iff (hrb j (by omega))).symm
  have hale : a.length + b.length ≤ n := by omega
  obtain ⟨pa, ca, rfl⟩ := ha.form
  obtain ⟨pb, cb, rfl⟩ := hb.form
  have HA := hide ha
  have HB := hide hb
  have HV1 := hide (HV.out.below hb1)
  clear HF HCM HPT ha hb hc hra hrb hal hbl HV hle
  go_wp2
  go_loopw [8] (fun i wr => ∃ (k : Nat), k ≤ a.length ∧ i = .int .i64 k ∧ Hid (∀ j, j < k → okx (a.getD j 0) (r.getD j 0)) ∧ Below w1.heap.size w1 wr) (fun i _ => a.length - (intOf i).toNat)
  case atStart => exact ⟨0, by omega, rfl, (fun j hj => absurd hj (by omega)), Below.refl _ _⟩
  case round =>
    obtain ⟨k, hk, rfl, hN, hbw⟩ := hrel
    by_cases hlt : k < a.length
    · obtain ⟨ba, oa, cpa, he, h0', hc', hm', hb', hcell⟩ := HA.out.resolve_left (fun h => by have := h.1; rw [this] at hlt; simp at hlt)
      simp only [Value.slice.injEq] at he
      obtain ⟨rfl, _, rfl⟩ := he
      obtain ⟨x, hx, hcx⟩ := cellAt hcell hlt
      have gx : wr.cell? ⟨ba, oa + k, none⟩ = some (.int .i64 x) := (hbw.cell (by exact hb')).trans hcx
      obtain ⟨br, orr, cpr, her, h0r, hcr, hmr, hbr, hcellr⟩ := HV1.out.resolve_left (fun h => by have := h.1; have h9 := HRL.out; rw [this] at h9; simp at h9; omega)
      simp only [Value.slice.injEq] at her
      obtain ⟨rfl, _, rfl⟩ := her
      have hrn := HRL.out
      obtain ⟨y, hy, hcy⟩ := cellAt hcellr (show k < r.length by omega)
      have gy : wr.cell? ⟨br, orr + k, none⟩ = some (.int .i64 y) := (hbw.cell (by exact hbr)).trans hcy
      rw [hrn] at hcr h0r
      have HX : Hid (a.getD k 0 = x) := hx.out
      have HY : Hid (r.getD k 0 = y) := hy.out
      clear hcx hcy hcell hcellr hx hy hrn
      have HNX : Hid (okx x y → ∀ j, j < k + 1 → okx (a.getD j 0) (r.getD j 0)) := fun ho j hj => by
        rcases Nat.lt_succ_iff_lt_or_eq.1 hj with h9 | h9
        · exact hN.out j h9
        · rw [h9, HX.out, HY.out]; exact ho
      have HBD : Hid (¬ okx x y → res = false) := fun ho => by
        cases hres : res
        · rfl
        · exfalso
          have := (HR.out.1 hres).1 k hlt
          rw [HX.out, HY.out] at this
          exact ho this
      by_cases hx63 : x = 63
      · subst hx63
        have HN2 := hide (HNX.out (Or.inl rfl))
        clear HNX HBD hN HX HY
        go_wp2
        go_quiet (fail)
        have hbw2 : Below w1.heap.size w1 (wr.drewN nq) := hbw.trans ⟨rfl, rfl, rfl, Nat.le_refl _, fun _ _ => rfl⟩
        go_wp2
        go_roundw
        case rel => exact ⟨k + 1, by omega, by go_num, HN2, hbw2⟩
        case measure => simp [intOf]; omega
      · have hx63' : (x != 63) = true := by rw [bne_iff_ne]; exact hx63
        have HBL : Hid (∀ W : World, Calls Try.prog 34 #[.int .i64 x] W fun e w' => e = .returned (.int .i64 (sa x)) ∧ W = w') := fun W => bell_any x W
        by_cases hxy : sa x = y
        · have HN2 := hide (HNX.out (Or.inr hxy))
          have hd : (sa x != y) = false := by rw [bne_eq_false_iff_eq]; exact hxy
          have HXY := hide hxy
          clear HNX HBD hN HX HY hxy
          generalize sa x = z at *
          go_wp2
          go_quiet ((go_at_call 34; exact Calls.quiet_of_same ((HBL.out _).mono (fun e wq h => ⟨h.1, h.2.symm⟩))))
          have hbw2 : Below w1.heap.size w1 (wr.drewN nq) := hbw.trans ⟨rfl, rfl, rfl, Nat.le_refl _, fun _ _ => rfl⟩
          go_wp2
          go_roundw
          case rel => exact ⟨k + 1, by omega, by go_num, HN2, hbw2⟩
          case measure => simp [intOf]; omega
        · obtain rfl : res = false := HBD.out (fun h => h.elim hx63 hxy)
          have hd : (sa x != y) = true := by rw [bne_iff_ne]; exact hxy
          have HXY := hide hxy
          clear HNX HBD hN HX HY hxy HR
          generalize sa x = z at *
          go_wp2
          go_quiet ((go_at_call 34; exact Calls.quiet_of_same ((HBL.out _).mono (fun e wq h => ⟨h.1, h.2.symm⟩))))
          have hbw2 : Below w1.heap.size w1 (wr.drewN nq) := hbw.trans ⟨rfl, rfl, rfl, Nat.le_refl _, fun _ _ => rfl⟩
          go_wp2
          go_ret
          exact ⟨rfl, hb1.trans (hbw2.mono hb1.size)⟩
    · obtain rfl : k = a.length := by omega
      have HN1 := hide hN.out
      obtain ⟨nb, hnb⟩ : ∃ nb, nb + b.length = n := ⟨n - b.length, by omega⟩
      have HR2 : Hid (res = true ↔ (∀ j, j < b.length → okx (b.getD j 0) (r.getD (nb + j) 0))) := by
        show _ ↔ _
        rw [HR.out, show n - b.length = nb by omega]
        exact ⟨fun h => h.2, fun h => ⟨HN1.out, h⟩⟩
      clear hN HR HN1 HA
      generalize hbl : b.length = bl at *
      have hsub : (n : Int) - (bl : Int) = (nb : Int) := by omega
      have hbln : bl ≤ 12 := by omega
      have hnb12 : nb ≤ 12 := by omega
      have hNB := hide hnb
      have hbwm := hbw
      clear hbw hnb
      go_wp2
      go_loopw [9] (fun i wr => ∃ (k : Nat), k ≤ bl ∧ i = .int .i64 k ∧ Hid (∀ j, j < k → okx (b.getD j 0) (r.getD (nb + j) 0)) ∧ Below w1.heap.size w1 wr) (fun i _ => bl - (intOf i).toNat)
      case atStart => exact ⟨0, by omega, rfl, (fun j hj => absurd hj (by omega)), hbwm⟩
      case round =>
        clear hbwm
        obtain ⟨k, hk, rfl, hN, hbw⟩ := hrel
        by_cases hlt : k < bl
        · obtain ⟨ba, oa, cpa, he, h0', hc', hm', hb', hcell⟩ := HB.out.resolve_left (fun h => by have := h.1; rw [this] at hbl; simp at hbl; omega)
          rw [hbl] at he hc'
          simp only [Value.slice.injEq] at he
          obtain ⟨rfl, _, rfl⟩ := he
          obtain ⟨x, hx, hcx⟩ := cellAt hcell (show k < b.length by omega)
          have gx : wr.cell? ⟨ba, oa + k, none⟩ = some (.int .i64 x) := (hbw.cell (by exact hb')).trans hcx
          obtain ⟨br, orr, cpr, her, h0r, hcr, hmr, hbr, hcellr⟩ := HV1.out.resolve_left (fun h => by have := h.1; have h9 := HRL.out; rw [this] at h9; simp at h9; omega)
          have hrn := HRL.out
          rw [hrn] at her
          simp only [Value.slice.injEq] at her
          obtain ⟨rfl, _, rfl⟩ := her
          have hnbl := hNB.out
          obtain ⟨y, hy, hcy⟩ := cellAt hcellr (show nb + k < r.length by omega)
          have gy : wr.cell? ⟨br, orr + (nb + k), none⟩ = some (.int .i64 y) := (hbw.cell (by exact hbr)).trans hcy
          rw [hrn] at hcr h0r
          have hidx : (nb : Int) + (k : Int) = ((nb + k : Nat) : Int) := by omega
          have hnk : nb + k < n := by omega
          have HX : Hid (b.getD k 0 = x) := hx.out
          have HY : Hid (r.getD (nb + k) 0 = y) := hy.out
          clear hcx hcy hcell hcellr hx hy hrn hnbl
          have HNX : Hid (okx x y → ∀ j, j < k + 1 → okx (b.getD j 0) (r.getD (nb + j) 0)) := fun ho j hj => by
            rcases Nat.lt_succ_iff_lt_or_eq.1 hj with h9 | h9
            · exact hN.out j h9
            · rw [h9, HX.out, HY.out]; exact ho
          have HBD : Hid (¬ okx x y → res = false) := fun ho => by
            cases hres : res
            · rfl
            · exfalso
              have := HR2.out.1 hres k hlt
              rw [HX.out, HY.out] at this
              exact ho this
          generalize hq : nb + k = q at *
          by_cases hx63 : x = 63
          · subst hx63
            have HN2 := hide (HNX.out (Or.inl rfl))
            clear HNX HBD hN HX HY
            go_wp2
            go_quiet (fail)
            have hbw2 : Below w1.heap.size w1 (wr.drewN nq) := hbw.trans ⟨rfl, rfl, rfl, Nat.le_refl _, fun _ _ => rfl⟩
            go_wp2
            go_roundw
            case rel => exact ⟨k + 1, by omega, by go_num, HN2, hbw2⟩
            case measure => simp [intOf]; omega
          · have hx63' : (x != 63) = true := by rw [bne_iff_ne]; exact hx63
            have HBL : Hid (∀ W : World, Calls Try.prog 34 #[.int .i64 x] W fun e w' => e = .returned (.int .i64 (sa x)) ∧ W = w') := fun W => bell_any x W
            by_cases hxy : sa x = y
            · have HN2 := hide (HNX.out (Or.inr hxy))
              have hd : (sa x != y) = false := by rw [bne_eq_false_iff_eq]; exact hxy
              have HXY := hide hxy
              clear HNX HBD hN HX HY hxy
              generalize sa x = z at *
              go_wp2
              go_quiet ((go_at_call 34; exact Calls.quiet_of_same ((HBL.out _).mono (fun e wq h => ⟨h.1, h.2.symm⟩))))
              have hbw2 : Below w1.heap.size w1 (wr.drewN nq) := hbw.trans ⟨rfl, rfl, rfl, Nat.le_refl _, fun _ _ => rfl⟩
              go_wp2
              go_roundw
              case rel => exact ⟨k + 1, by omega, by go_num, HN2, hbw2⟩
              case measure => simp [intOf]; omega
            · obtain rfl : res = false := HBD.out (fun h => h.elim hx63 hxy)
              have hd : (sa x != y) = true := by rw [bne_iff_ne]; exact hxy
              have HXY := hide hxy
              clear HNX HBD hN HX HY hxy HR2
              generalize sa x = z at *
              go_wp2
              go_quiet ((go_at_call 34; exact Calls.quiet_of_same ((HBL.out _).mono (fun e wq h => ⟨h.1, h.2.symm⟩))))
              have hbw2 : Below w1.heap.size w1 (wr.drewN nq) := hbw.trans ⟨rfl, rfl, rfl, Nat.le_refl _, fun _ _ => rfl⟩
              go_wp2
              go_ret
              exact ⟨rfl, hb1.trans (hbw2.mono hb1.size)⟩
        · obtain rfl : k = bl := by omega
          obtain rfl : res = true := HR2.out.2 hN.out
          clear hN HR2
          go_wp2
          go_ret
          exact ⟨rfl, hb1.trans (hbw.mono hb1.size)⟩

end Go.Proofs.Ytfnmkbcdchnnnaa
