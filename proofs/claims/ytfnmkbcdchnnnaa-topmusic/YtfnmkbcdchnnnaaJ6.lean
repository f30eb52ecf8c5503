/- Joined: RwO, MuT. -/
import Derived.Test.YtfnmkbcdchnnnaaJ4
import Derived.Test.YtfnmkbcdchnnnaaJ5
import Derived.BigQuiet
/- Contract: RowOf. -/
namespace Go.Proofs.Ytfnmkbcdchnnnaa
open Go.RowKit

set_option maxRecDepth 20000 in
set_option maxHeartbeats 400000 in
theorem rowOf_ok (c : Int) (n : Nat) (w : World) (h : I64 c) (h12 : n ≤ 12) :
    Calls Try.prog 26 #[.int .i64 c, .int .i64 n] w fun e w' => ∃ v X, e = .returned v ∧ isRow X ∧ X.length = n ∧ w'.ownsRow w.heap.size 3 1 v n (X.map (Value.int .i64)) ∧ Below w.heap.size w w' := by
  obtain ⟨l0, u0⟩ := h
  have hF0 : (0 : Int) < ((fct n : Nat) : Int) := by have := fct_pos n; omega
  have hF1 : ((fct n : Nat) : Int) ≤ 9223372036854775807 := by have := fct_le h12; omega
  go_enter Try.func26, Try.ntmps26
  go_wp2_with fail
  refine (factorial_any n _ h12).mono ?_
  rintro e wa ⟨rfl, rfl⟩
  go_wp2_with fail
  refine (pick_any _ _ _ l0 u0 hF0 hF1).mono ?_
  rintro e wa ⟨k, hk0, hk1, rfl, rfl⟩
  obtain ⟨kx, rfl⟩ := Int.eq_ofNat_of_zero_le hk0
  have hkx : kx < fct n := by omega
  clear hk0 hk1 l0 u0
  go_wp2_with fail
  refine (rat_own n kx _ h12 hkx).mono ?_
  rintro e w1 ⟨v, rfl, ho, hb⟩
  have HO := hide ho
  clear ho
  go_wp2
  go_ret
  exact ⟨_, rowAt n kx, rfl, rowAt_row hkx, rowAt_length hkx, HO.out, hb⟩

end Go.Proofs.Ytfnmkbcdchnnnaa

/- The law TopMusic. -/
namespace Go.Proofs.Ytfnmkbcdchnnnaa
open Go.RowKit
set_option maxRecDepth 20000
set_option linter.unusedVariables false

/-- What the law's first loop knows. -/
structure TmRel (n k : Nat) (X ps : List Int) : Prop where
  len : ps.length = k
  at_ : ∀ j, j < k → ps.getD j 0 = -1 ∨ ps.getD j 0 = X.getD j 0

theorem TmRel.snoc {n k : Nat} {X ps : List Int} (h : TmRel n k X ps) {x : Int} (hx : x = -1 ∨ x = X.getD k 0) : TmRel n (k + 1) X (ps ++ [x]) := by
  have hl := h.len
  refine ⟨by simp [hl], fun j hj => ?_⟩
  rw [List.getD_eq_getElem?_getD]
  rcases Nat.lt_succ_iff_lt_or_eq.1 hj with h1 | h1
  · rw [List.getElem?_append_left (by omega), ← List.getD_eq_getElem?_getD]; exact h.at_ j h1
  · rw [List.getElem?_append_right (by omega), h1, hl, Nat.sub_self]; exact hx

theorem TmRel.mem {n : Nat} {X ps : List Int} (h : TmRel n n X ps) (hX : isRow X) (hl : X.length = n) : ∀ x, x ∈ ps → x = -1 ∨ 0 ≤ x ∧ x < n := by
  intro x hx
  obtain ⟨j, hj, e⟩ := List.getElem_of_mem hx
  have hj' : j < n := by have := h.len; omega
  have h1 := h.at_ j hj'
  have e1 : ps.getD j 0 = x := by simp [List.getD, hj, e]
  rw [e1] at h1
  rcases h1 with h1 | h1
  · exact Or.inl h1
  · have := hX.at (j := j) (by omega)
    right; rw [h1, ← hl]; exact this

theorem TmRel.nodup {n : Nat} {X ps : List Int} (h : TmRel n n X ps) (hX : isRow X) (hl : X.length = n) : (fxd ps).Nodup := by
  have hpw : ps.Pairwise (fun a b => a ≠ -1 → a ≠ b) := by
    rw [List.pairwise_iff_getElem]
    intro i j hi hj hij h1 he
    have hlen := h.len
    have a1 := h.at_ i (by omega)
    have a2 := h.at_ j (by omega)
    have e1 : ps.getD i 0 = ps[i] := by simp [List.getD, hi]
    have e2 : ps.getD j 0 = ps[j] := by simp [List.getD, hj]
    rw [e1] at a1; rw [e2] at a2
    have b1 := a1.resolve_left h1
    have b2 := a2.resolve_left (by rw [← he]; exact h1)
    have := hX.inj (i := i) (j := j) (by omega) (by omega) (by rw [← b1, ← b2, he])
    omega
  unfold fxd List.Nodup
  rw [List.pairwise_filter]
  refine hpw.imp (fun hab h1 _ => ?_)
  exact hab (by simpa using h1)

theorem strCodes (cs : List Nat) (h : ∀ c, c ∈ cs → c < 128) : runesOf (strOfNums (cs.map (fun (c : Nat) => (c : Int)))) = cs := by
  rw [runes_ascii _ (fun z hz => by obtain ⟨c, hc, rfl⟩ := List.mem_map.1 hz; have := h c hc; omega), List.map_map]
  have : (Int.toNat ∘ fun (c : Nat) => (c : Int)) = id := by funext c; simp
  rw [this, List.map_id]

def tmS (star : Nat) (ps : List Int) : ByteArray := strOfNums ((tmT star ps).map (fun (c : Nat) => (c : Int)))

theorem tmS_size (star : Nat) (ps : List Int) : (tmS star ps).size ≤ ps.length + 1 := by
  unfold tmS
  rw [strOfNums_size, List.length_map]
  exact tmT_length _ _

theorem tmS_snoc (star : Nat) (ps : List Int) (x : Int) : tmS star (ps ++ [x]) = tmS star ps ++ strOfNums ((if ps.length = star then [42] else []).map (fun (c : Nat) => (c : Int))) ++ strOfNums [((cdp x : Nat) : Int)] := by
  unfold tmS
  rw [tmT_snoc, List.map_append, List.map_append, ← str_append, ← str_append]
  rfl

theorem mrd_tmS {n star : Nat} (h1 : 1 ≤ n) (hn : n ≤ 12) {ps : List Int} (hl : ps.length = n) (hx : ∀ x, x ∈ ps → x = -1 ∨ 0 ≤ x ∧ x < n) (hd : (fxd ps).Nodup) : mrd (n : Int) (tmS star ps) = (0, ps) := by
  unfold mrd tmS
  rw [if_neg (by omega), Int.toNat_natCast, strCodes _ (tmT_low star ps), read_tmT hn hl hx hd]

theorem mrd_star {n : Nat} (h1 : 1 ≤ n) (hn : n ≤ 12) : mrd (n : Int) ⟨#[42]⟩ = (0, List.replicate n (-1)) := by
  have e : runesOf ⟨#[42]⟩ = [42] := strCodes [42] (by decide)
  unfold mrd
  rw [if_neg (by omega), Int.toNat_natCast, e, read_star]

/-- The answer at the end. -/
theorem tm_count {n star : Nat} (h1 : 1 ≤ n) (hn : n ≤ 5) {X ps : List Int} (h : TmRel n n X ps) (hX : isRow X) (hl : X.length = n) :
    mcount (n : Int) [tmS star ps, ⟨#[42]⟩] ((List.range (fct n)).map (rowAt n)) = (0, [((fct (fre ps) : Nat) : Int), ((fct n : Nat) : Int)]) ∧ mall (n : Int) (tmS star ps) = (((fct (fre ps) : Nat) : Int), 0) := by
  have e1 := mrd_tmS (star := star) h1 (show n ≤ 12 by omega) h.len (h.mem hX hl) (h.nodup hX hl)
  have e2 := mrd_star h1 (show n ≤ 12 by omega)
  have hf : fct n ≤ 120 := fct_mono hn
  have a1 : allErr (n : Int) [tmS star ps, ⟨#[42]⟩] = 0 := by
    unfold allErr
    simp only [List.map_cons, List.map_nil, e1, e2]
    rfl
  have a2 : allPat (n : Int) [tmS star ps, ⟨#[42]⟩] = [ps, List.replicate n (-1)] := by
    unfold allPat
    simp only [List.map_cons, List.map_nil, e1, e2]
  have a3 : rowsErr (n : Int) ((List.range (fct n)).map (rowAt n)) = 0 := by
    unfold rowsErr
    refine fstErr_all (fun j hj => ?_)
    simp at hj
    have hlen := rowAt_length hj
    have hc := chk_ok (by omega) (by omega) (rowAt_row hj)
    simp [List.getD, hj, rwe, hc, hlen]
  refine ⟨?_, ?_⟩
  · unfold mcount
    rw [if_neg (by simp; omega), if_neg (by simpa using a1), if_neg (by simpa using a3), a2]
    simp only [List.map_cons, List.map_nil]
    rw [lkn_all h.len (h.nodup hX hl) (fun x hx => (h.mem hX hl x (fxd_mem.1 hx).1).resolve_left (fxd_mem.1 hx).2), lkn_all (by simp) (by rw [fxd_any]; exact List.nodup_nil) (fun x hx => by rw [fxd_any] at hx; cases hx), fre_any]
  · unfold mall
    rw [e1, if_pos rfl]

theorem range_succ_map' {α : Type} (f : Nat → α) (k : Nat) : (List.range (k + 1)).map f = (List.range k).map f ++ [f k] := by rw [List.range_succ, List.map_append]; rfl

set_option maxHeartbeats 8000000 in
theorem topMusic_walk (v : Value) (xs : List Int) (a b : Int) (w : World) (hv : Ints w v xs) (hx : ∀ x, x ∈ xs → I64 x) (ha : I64 a) (hb : I64 b) :
    Calls Try.prog 6 #[v, .int .i64 a, .int .i64 b] w fun e w' => e = .returned (.bool true) ∧ Below w.heap.size w w' := by
  obtain ⟨i0, hi, hz0, hz1, hz2⟩ := info_parts Try.info24
  obtain ⟨p0, c0, rfl⟩ := hv.form
  obtain ⟨la, ua⟩ := ha
  obtain ⟨lb, ub⟩ := hb
  have HV := hide hv
  have HX := hide hx
  clear hv hx
  by_cases hbig : 64 < xs.length
  · have hbig' : (64 : Int) < (xs.length : Int) := by omega
    go_enter Try.func6, Try.ntmps6
    go_wp2
    go_ret
    exact ⟨rfl, Below.refl _ _⟩
  · have hbig' : ¬ (64 : Int) < (xs.length : Int) := by omega
    go_enter Try.func6, Try.ntmps6
    go_wp2_with fail
    refine (pick_any a 5 w la ua (by decide) (by decide)).mono ?_
    rintro e wa ⟨k, hk0, hk1, rfl, rfl⟩
    obtain ⟨n0, rfl⟩ := Int.eq_ofNat_of_zero_le hk0
    have hn1 : (1 : Int) + (n0 : Int) = ((n0 + 1 : Nat) : Int) := by omega
    have hn5 : n0 + 1 ≤ 5 := by omega
    have hn0 : 1 ≤ n0 + 1 := by omega
    clear hk0 hk1 la ua
    generalize n0 + 1 = n at *
    go_wp2_with fail
    refine (raw_any _ xs 0 w HV.out HX.out (by omega)).mono ?_
    rintro e wa ⟨x0, hx0, rfl, rfl⟩
    go_wp2_with fail
    refine (rowOf_ok x0 n w hx0 (by omega)).mono ?_
    rintro e w1 ⟨rv, X, rfl, hXr, hXl, hXo, hb1⟩
    obtain ⟨rp, rc, rfl⟩ := owns_slice hXo
    have hn2 : IntKind.i64.wrap ((n : Int) + 1) = (n : Int) + 1 := by rw [IntKind.wrap_i64]; omega
    clear hn1
    go_wp2_with fail
    refine (pick_any b ((n : Int) + 1) w1 lb ub (by omega) (by omega)).mono ?_
    rintro e wa ⟨k, hk0, hk1, rfl, rfl⟩
    obtain ⟨star, rfl⟩ := Int.eq_ofNat_of_zero_le hk0
    clear hk0 lb ub hn2 hx0
    have HXR := hide hXr
    have HXL := hide hXl
    have HXO := hide hXo
    have HI1 := hide (Ints.own (base := w.heap.size) (e := 3) (n := n) hXo)
    have HV1 := hide (HV.out.below hb1)
    clear hXo hXr hXl HV
    go_wp2
    go_loopw [8, 9, 10] (fun s f i wr => ∃ (k : Nat) (ps : List Int), k ≤ n ∧ i = .int .i64 k ∧ s = .string (tmS star ps) ∧ f = .int .i64 (fre ps) ∧ Hid (TmRel n k X ps) ∧ wr = w1) (fun _ _ i _ => n - (intOf i).toNat)
    case atStart => exact ⟨0, [], by omega, rfl, by rw [show tmS star [] = ⟨#[]⟩ from by unfold tmS; rw [tmT_nil]; rfl], rfl, ⟨rfl, fun j hj => absurd hj (by omega)⟩, rfl⟩
    case round =>
      obtain ⟨k, ps, hk, rfl, rfl, rfl, hR, rfl⟩ := hrel
      by_cases hlt : k < n
      · have hpl := hR.out.len
        have hsz := tmS_size star ps
        have hfl := fre_le ps
        have e2 : (k : Int) + 1 = ((k + 1 : Nat) : Int) := by omega
        have HRaw := hide (raw_any (.slice p0 xs.length c0) xs (k + 1) wr HV1.out HX.out (by omega))
        rw [← e2] at HRaw
        have hXat := HXR.out.at (j := k) (by rw [HXL.out]; exact hlt)
        rw [HXL.out] at hXat
        obtain ⟨m, hm⟩ := Int.eq_ofNat_of_zero_le hXat.1
        rw [hm] at hXat
        have hm12 : m < 12 := by omega
        have HSG := hide (signOf_ok m hm12 wr)
        have hcx : ∃ rb, rp = some ⟨rb, 0, none⟩ ∧ wr.cell? ⟨rb, k, none⟩ = some (.int .i64 m) := by
          obtain ⟨g, cap, he, _, _⟩ := owns_form HXO.out (by omega)
          simp only [Value.slice.injEq] at he
          obtain ⟨rfl, _, rfl⟩ := he
          refine ⟨g, rfl, ?_⟩
          rw [(owns_cell HXO.out hlt).1, hm]
        obtain ⟨rb, rfl, hcx⟩ := hcx
        have hcd : cdp (m : Int) = sg m := by unfold cdp; rw [if_neg (by omega)]; rfl
        have HSn := fun x => tmS_snoc star ps x
        have HF1 : Hid (fre (ps ++ [-1]) = fre ps + 1) := by rw [fre_snoc]; rfl
        have HF2 : Hid (fre (ps ++ [(m : Int)]) = fre ps) := by rw [fre_snoc, if_neg (by omega)]; rfl
        have HR1 := hide (hR.out.snoc (x := -1) (Or.inl rfl))
        have HR2 := hide (hR.out.snoc (x := (m : Int)) (Or.inr hm.symm))
        rw [hpl] at HSn hsz hfl
        have hS63 : strOfNums [((cdp (-1) : Nat) : Int)] = ⟨#[63]⟩ := rfl
        have hS1 := HSn (-1)
        have hS2 := HSn (m : Int)
        rw [hS63] at hS1
        rw [hcd] at hS2
        clear hpl hm hXat e2 HSn hS63
        generalize tmS star ps = S at *
        generalize hgs : strOfNums [((sg m : Nat) : Int)] = G at *
        have hGs : G.size = 1 := by rw [← hgs, strOfNums_size]; rfl
        generalize fre ps = f at *
        by_cases hst : k = star
        · subst hst
          rw [if_pos rfl, show strOfNums (([42] : List Nat).map (fun (c : Nat) => (c : Int))) = ⟨#[42]⟩ from rfl] at hS1 hS2
          have HS1 := hide hS1
          have HS2 := hide hS2
          have hadd0 := run_string_add_sum (P := Try.prog) wr S ⟨#[42]⟩ (by show S.size + 1 ≤ _; omega)
          have hsz3 : (S ++ (⟨#[42]⟩ : ByteArray)).size = S.size + 1 := by rw [ByteArray.size_append]; rfl
          clear hS1 hS2 hgs
          generalize S ++ (⟨#[42]⟩ : ByteArray) = S3 at *
          have hadd1 := run_string_add_sum (P := Try.prog) wr S3 ⟨#[63]⟩ (by show S3.size + 1 ≤ _; omega)
          have hadd2 := run_string_add_sum (P := Try.prog) wr S3 G (by omega)
          generalize S3 ++ (⟨#[63]⟩ : ByteArray) = S4 at *
          generalize S3 ++ G = S5 at *
          go_wp2_with fail
          refine HRaw.out.mono ?_
          rintro e wa ⟨x, hx, rfl, rfl⟩
          clear HRaw
          by_cases hx3 : x.tmod 3 = 0
          · go_wp2
            go_roundw
            case rel => exact ⟨k + 1, ps ++ [-1], by omega, by go_num, by rw [HS1.out], by rw [HF1.out]; go_num, HR1, by first | rfl | trivial⟩
            case measure => simp [intOf]; omega
          · go_wp2_with fail
            refine HSG.out.mono ?_
            rintro e wb ⟨rfl, rfl⟩
            go_wp2
            go_roundw
            case rel => exact ⟨k + 1, ps ++ [(m : Int)], by omega, by go_num, by rw [HS2.out], by rw [HF2.out], HR2, by first | rfl | trivial⟩
            case measure => simp [intOf]; omega
        · have hst2 : ¬ ((k : Int) = (star : Int)) := by omega
          rw [if_neg hst, show strOfNums (([] : List Nat).map (fun (c : Nat) => (c : Int))) = ⟨#[]⟩ from rfl, show S ++ (⟨#[]⟩ : ByteArray) = S from ByteArray.append_empty] at hS1 hS2
          have HS1 := hide hS1
          have HS2 := hide hS2
          clear hS1 hS2 hgs
          have hadd1 := run_string_add_sum (P := Try.prog) wr S ⟨#[63]⟩ (by show S.size + 1 ≤ _; omega)
          have hadd2 := run_string_add_sum (P := Try.prog) wr S G (by omega)
          generalize S ++ (⟨#[63]⟩ : ByteArray) = S4 at *
          generalize S ++ G = S5 at *
          go_wp2_with fail
          refine HRaw.out.mono ?_
          rintro e wa ⟨x, hx, rfl, rfl⟩
          clear HRaw
          by_cases hx3 : x.tmod 3 = 0
          · go_wp2
            go_roundw
            case rel => exact ⟨k + 1, ps ++ [-1], by omega, by go_num, by rw [HS1.out], by rw [HF1.out]; go_num, HR1, by first | rfl | trivial⟩
            case measure => simp [intOf]; omega
          · go_wp2_with fail
            refine HSG.out.mono ?_
            rintro e wb ⟨rfl, rfl⟩
            go_wp2
            go_roundw
            case rel => exact ⟨k + 1, ps ++ [(m : Int)], by omega, by go_num, by rw [HS2.out], by rw [HF2.out], HR2, by first | rfl | trivial⟩
            case measure => simp [intOf]; omega
      · obtain rfl : k = n := by omega
        obtain ⟨hct, hall⟩ := tm_count (star := star) hn0 hn5 hR.out HXR.out HXL.out
        have hplen := hR.out.len
        have hsz := tmS_size star ps
        have hfl := fre_le ps
        have hf120 : fct k ≤ 120 := fct_mono hn5
        have hff120 : fct (fre ps) ≤ 120 := fct_mono (show fre ps ≤ 5 by omega)
        have HCT := hide hct
        have HALL := hide hall
        have HFACn : Hid (∀ W : World, Calls Try.prog 13 #[.int .i64 k] W fun e w' => e = .returned (.int .i64 (fct k)) ∧ W = w') := fun W => factorial_any k W (by omega)
        have HFACf : Hid (∀ W : World, Calls Try.prog 13 #[.int .i64 (fre ps)] W fun e w' => e = .returned (.int .i64 (fct (fre ps))) ∧ W = w') := fun W => factorial_any (fre ps) W (by omega)
        rw [hplen] at hsz hfl
        have HPL := hide hplen
        clear hct hall hplen hR HXR HXL HXO HI1 HV1 HX
        generalize tmS star ps = S at *
        generalize fre ps = f at *
        have hbw1 := hb1.size
        go_wp2
        go_loopw [11, 12] (fun v i wr => ∃ (j : Nat) (vs : List Value), j ≤ fct k ∧ i = .int .i64 j ∧ Hid (vs.length = j) ∧ Hid (LL wr w.heap.size v vs ((List.range j).map (rowAt k))) ∧ (∃ p c, v = .slice p j c) ∧ Below w.heap.size w wr) (fun _ i _ => fct k - (intOf i).toNat)
        case atStart => exact ⟨0, [], by omega, rfl, rfl, LL.nil _ _, ⟨_, _, rfl⟩, hb1⟩
        case round =>
          obtain ⟨j, vs, hj, rfl, hvl, hLL, ⟨lp, lc, rfl⟩, hbw⟩ := hrel
          have hbs := hbw.size
          have HFA := hide (HFACn.out wr)
          by_cases hjl : j < fct k
          · have hjl' : (j : Int) < ((fct k : Nat) : Int) := by omega
            have HAT := hide (rat_own k j wr (by omega) hjl)
            have HRS := hide (range_succ_map' (rowAt k) j)
            have hlen := hide (rowAt_length hjl)
            have HRW : Hid (atl k (rnd k) j = rowAt k j) := rfl
            rw [HRW.out] at HAT
            clear HRW
            generalize hF : fct k = F at *
            generalize rowAt k j = XX at *
            go_wp2_with fail
            refine HFA.out.mono ?_
            rintro e wa ⟨rfl, rfl⟩
            clear HFA
            go_wp2_with fail
            refine HAT.out.mono ?_
            rintro e w2 ⟨u, rfl, hou, hb2⟩
            obtain ⟨up, uc, rfl⟩ := owns_slice hou
            have hB2 := hbw.trans (hb2.mono hbs)
            have HL2 := hide (hLL.out.below hb2)
            have hlv := hide hvl.out
            have hrow2 := HL2.out.row
            rw [hvl.out] at hrow2
            have hou2 := hide (owns_base hou hbs)
            clear HAT hb2 hou hLL hvl
            go_wp2_with (at_builtin; refine wpList_append_own _ rfl _ _ 23 rfl w.heap.size 24 i0 (.slice none 0 0) 1 24 Try.underlying23 hi hz0 hz1 hz2 rfl (by decide) _ _ _ rfl (hrow2.alloc _) ⟨w2.heap.size, 0, none⟩ 1 1 [.slice up k uc] rfl rfl ?c1 ?c2 ?c3 ?c4 ?c5 ?_)
            case c1 => exact cell_one_new _ _ _
            case c2 => intro u hu; simp at hu; subst hu; rfl
            case c3 => unfold maxLen; omega
            case c4 => omega
            case c5 => have := hB2.size; simp; omega
            intro v' w4 hown4 hgrow _
            have HL4 : Hid (LL w4 w.heap.size v' (vs ++ [.slice up k uc]) ((List.range (j + 1)).map (rowAt k))) := by
              rw [HRS.out]
              exact HL2.out.push (by rw [hlen.out]; exact hou2.out) (by rw [hlv.out]; exact hown4) hgrow
            have hB4 : Below w.heap.size w w4 := HL2.out.step hB2 (Nat.le_refl _) hB2.size hgrow
            have hvl4 : Hid ((vs ++ [Value.slice up k uc]).length = j + 1) := by show _ = _; rw [List.length_append, hlv.out]; rfl
            obtain ⟨p4, c4, rfl⟩ := owns_slice hown4
            clear hown4 hgrow hrow2 hou2 HL2 HRS
            go_wp2
            go_roundw
            case rel => exact ⟨j + 1, _, by omega, by go_num, hvl4, HL4, ⟨_, _, rfl⟩, hB4⟩
            case measure => simp [intOf]; omega
          · have hje : j = fct k := by omega
            subst hje
            have hLI := hLL.out.ints
            have hb9 : Below wr.heap.size wr (wr.alloc (.cells #[.string S, .string ⟨#[42]⟩] 9)) := (Below.refl _ _).alloc (Nat.le_refl _) _
            have hSt : Strs (wr.alloc (.cells #[.string S, .string ⟨#[42]⟩] 9)) (.slice (some ⟨wr.heap.size, 0, none⟩) 2 2) [S, ⟨#[42]⟩] := by
              have h9 := heap_alloc_new wr (.cells #[.string S, .string ⟨#[42]⟩] 9)
              refine Or.inr ⟨wr.heap.size, 0, 2, rfl, by simp, by simp, by omega, by simp, fun i hi => ?_⟩
              match i, hi with
              | 0, _ => unfold World.cell?; rw [h9]; rfl
              | 1, _ => unfold World.cell?; rw [h9]; rfl
            have HCN := hide (count_ok (k : Int) _ _ [S, ⟨#[42]⟩] _ _ hSt (hLI.below hb9) (by simp) (by simp; omega))
            have HMA : Hid (∀ W : World, Calls Try.prog 11 #[.int .i64 k, .string S] W fun e w' => e = .returned (.tuple #[.int .i64 (fct f), .int .i64 0]) ∧ Below W.heap.size W w') := fun W => by
              have := mall_any (k : Int) S W
              rw [HALL.out] at this
              exact this
            have hB9 := hbw.trans (hb9.mono hbs)
            clear hLI hSt hb9 hLL hvl HALL
            generalize hF : fct k = F at *
            generalize hG : fct f = G at *
            go_wp2_with fail
            refine (HFACn.out wr).mono ?_
            rintro e wa ⟨rfl, rfl⟩
            go_wp2_with fail
            refine HCN.out.mono ?_
            rintro e w2 ⟨cv, rfl, hb2, hci⟩
            rw [HCT.out] at hci
            rw [HCT.out]
            have hB2 := hB9.trans (hb2.mono (by have := hB9.size; exact this))
            clear HCT HCN hb2 hB9
            obtain ⟨cb, co, cc, rfl, _, hcc, hcm, hcb, hcell⟩ := hci.resolve_left (fun h => by cases h.1)
            have g0 : w2.cell? ⟨cb, co, none⟩ = some (.int .i64 (G : Int)) := hcell 0 (by simp)
            have g1 : w2.cell? ⟨cb, co + 1, none⟩ = some (.int .i64 (F : Int)) := hcell 1 (by simp)
            clear hcell hci
            go_wp2_with fail
            refine (HMA.out w2).mono ?_
            rintro e w3 ⟨rfl, hb3⟩
            have hB3 := hB2.trans (hb3.mono hB2.size)
            have k0 : w3.cell? ⟨cb, co, none⟩ = some (.int .i64 (G : Int)) := (hb3.cell (p := ⟨cb, co, none⟩) hcb).trans g0
            have k1 : w3.cell? ⟨cb, co + 1, none⟩ = some (.int .i64 (F : Int)) := (hb3.cell (p := ⟨cb, co + 1, none⟩) hcb).trans g1
            clear g0 g1 HMA hb3 hB2
            go_wp2
            go_quiet ((go_at_call 13; exact Calls.quiet_of_same ((HFACf.out _).mono (fun e wq h => ⟨h.1, h.2.symm⟩))))
            have hB4 : ∀ N, Below w.heap.size w (w3.drewN N) := fun N => hB3.trans ⟨rfl, rfl, rfl, Nat.le_refl _, fun _ _ => rfl⟩
            go_wp2
            go_ret
            exact ⟨by simp, hB4 _⟩

end Go.Proofs.Ytfnmkbcdchnnnaa
