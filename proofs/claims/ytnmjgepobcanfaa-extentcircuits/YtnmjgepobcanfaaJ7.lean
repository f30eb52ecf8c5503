/- Joined: XuB, XuC, XuD. -/
import Derived.Test.YtnmjgepobcanfaaJ6
import Derived.Test.YtnmjgepobcanfaaJ3
import Derived.Deep.RegionWith
import Derived.Deep.Cut
import Derived.Laws.BitsLemmas
import Derived.Deep.RegionHeld3
/- Contracts: the answer's has and Circuit. -/
namespace Go.Proofs.Ytnmjgepobcanfaa
open Go.RowKit

set_option maxRecDepth 20000 in
set_option maxHeartbeats 1000000 in
theorem has_ok' (v v2 : Value) (L : List (List Int)) (r : List Int) (w : World) (hX : IntsAll w v L) (hr : Ints w v2 r) (hl : L.length ≤ 1000) :
    Calls Try.prog 19 #[v, v2] w fun e w' => e = .returned (.bool (decide (r ∈ L))) ∧ Below w.heap.size w w' := by
  obtain ⟨p0, c0, rfl⟩ := hX.len
  obtain ⟨p1, c1, rfl⟩ := hr.form
  have HX := hide hX
  have HR := hide hr
  clear hX hr
  go_enter Try.func19, Try.ntmps19
  go_wp2
  go_loopw [5] (fun i wr => ∃ k : Nat, k ≤ L.length ∧ i = .int .i64 k ∧ Hid (∀ j, j < k → L.getD j [] ≠ r) ∧ Below w.heap.size w wr) (fun i _ => L.length - (intOf i).toNat)
  case atStart => exact ⟨0, by omega, rfl, (fun j hj => absurd hj (by omega)), Below.refl _ _⟩
  case round =>
    obtain ⟨k, hk, rfl, hN, hbw⟩ := hrel
    by_cases hlt : k < L.length
    · obtain ⟨b, off, cap, he, hb3, hlc3, hcm3, hcell3⟩ := (HX.out.below hbw).cell (by omega)
      simp only [Value.slice.injEq] at he
      obtain ⟨rfl, _, rfl⟩ := he
      obtain ⟨q, cc, hce, hint⟩ := hcell3 k hlt
      have HS := hide (same_any _ _ _ r wr hint.out (HR.out.below hbw))
      clear hcell3 hint
      by_cases hx : L.getD k [] = r
      · have hmem : r ∈ L := by rw [← hx, List.getD, List.getElem?_eq_getElem hlt]; exact List.getElem_mem hlt
        have HMem : Hid (decide (r ∈ L) = true) := decide_eq_true hmem
        rw [decide_eq_true hx] at HS
        clear hx hmem
        generalize (L.getD k []).length = xl at *
        go_wp2_with fail
        refine HS.out.mono ?_
        rintro e w2 ⟨rfl, hb2⟩
        have hB2 := hbw.trans (hb2.mono hbw.size)
        clear hb2
        go_wp2
        go_ret
        exact ⟨ret_bool HMem.out.symm, hB2⟩
      · rw [decide_eq_false hx] at HS
        have HN2 : Hid (∀ j, j < k + 1 → L.getD j [] ≠ r) := fun j hj => by
          rcases Nat.lt_succ_iff_lt_or_eq.1 hj with h | h
          · exact hN.out j h
          · rw [h]; exact hx
        clear hx
        generalize (L.getD k []).length = xl at *
        go_wp2_with fail
        refine HS.out.mono ?_
        rintro e w2 ⟨rfl, hb2⟩
        have hB2 := hbw.trans (hb2.mono hbw.size)
        clear hb2
        go_wp2
        go_roundw
        case rel => exact ⟨k + 1, by omega, by go_num, HN2, hB2⟩
        case measure => simp [intOf]; omega
    · have HNM : Hid (decide (r ∈ L) = false) := decide_eq_false (fun h => by
        obtain ⟨j, hj, e⟩ := List.getElem_of_mem h
        exact hN.out j (by omega) (by rw [List.getD, List.getElem?_eq_getElem hj]; exact e))
      go_wp2
      go_ret
      exact ⟨ret_bool HNM.out.symm, hbw⟩

theorem Ints.vals {w : World} {v : Value} {xs : List Int} (h : Ints w v xs) : Vals w v (xs.map (Value.int .i64)) := by
  rcases h with ⟨rfl, p, c, rfl⟩ | ⟨b, off, cap, rfl, h2, h3, h4, h5, h6⟩
  · exact Or.inl ⟨rfl, p, c, rfl⟩
  · refine Or.inr ⟨b, off, cap, by rw [List.length_map], by rw [List.length_map]; exact h2, by rw [List.length_map]; exact h3, h4, h5, fun j hj => ?_⟩
    rw [List.length_map] at hj
    rw [h6 j hj]
    simp [List.getD, hj]

theorem range_tried (nx : Nat → Nat → Nat) (K : Nat) : Tried nx K (List.range K) :=
  ⟨fun k hk => by simpa using hk, List.pairwise_lt_range, fun k hk => ⟨k, by simpa using hk, Nat.le_refl _, fun _ => rfl⟩⟩

theorem range_get {K j : Nat} (h : j < K) : (List.range K).getD j 0 = j := by simp [List.getD, h]

theorem good_full {nx : Nat → Nat → Nat} {K all : Nat} {ks : List Nat} {a k : Nat} (h1 : nx k a ≠ 0) (h2 : ks.length = all) : ∀ t, ¬ Good nx K all ks a (k :: t) := by
  intro t ht
  unfold Good at ht
  rcases ht.2 with ⟨_, h3, _⟩ | ⟨_, h3⟩
  · exact h1 h3
  · have h5 : ∀ (q ks : List Nat) (a : Nat), Good nx K all ks a q → ks.length + q.length = all + 1 := by
      intro q
      induction q with
      | nil => intro _ _ h; exact h.elim
      | cons x y ih =>
        intro ks a h
        unfold Good at h
        rcases h.2 with ⟨rfl, _, h2⟩ | ⟨_, h2⟩
        · simp; omega
        · have := ih _ _ h2
          simp at this ⊢; omega
    have h4 := h5 t _ _ h3
    simp at h4
    have : t = [] := List.length_eq_zero_iff.1 (by omega)
    rw [this] at h3
    exact h3

/-- The rows that were met, in the order of their coming. -/
def RS (n : Nat) (ks : List Nat) : List (List Int) := ks.reverse.map (rowAt n)

theorem RS_length (n : Nat) (ks : List Nat) : (RS n ks).length = ks.length := by simp [RS]

theorem RS_cons (n k : Nat) (ks : List Nat) : RS n (k :: ks) = RS n ks ++ [rowAt n k] := by simp [RS]

theorem RS_last (n k : Nat) (ks : List Nat) : (RS n (k :: ks)).getD ks.length [] = rowAt n k := by
  rw [RS_cons, List.getD, List.getElem?_append_right (by rw [RS_length]; omega), RS_length]; simp

theorem RS_mem {n : Nat} {ks : List Nat} (hk : ∀ x, x ∈ ks → x < fct n) {a : Nat} (ha : a < fct n) : rowAt n a ∈ RS n ks ↔ a ∈ ks := by
  unfold RS
  rw [List.mem_map]
  constructor
  · rintro ⟨x, hx, e⟩
    have hx' : x ∈ ks := by simpa using hx
    have := congrArg rkk e
    rw [rkk_at (hk x hx'), rkk_at ha] at this
    exact this ▸ hx'
  · intro h
    exact ⟨a, by simpa using h, rfl⟩

def RCPost (n : Nat) (L : List (List Int)) (ks : List Nat) (at_ : Nat) (P : List Int) (w : World) (e : Ending) (w' : World) : Prop :=
  Below w.heap.size w w' ∧ ((∃ (q : List Nat) (v : Value), e = .returned (.tuple #[v, .bool true]) ∧ Ints w' v (P ++ nI q) ∧ Good (nxc n L) L.length (fct n) ks at_ q ∧ ∀ t, Good (nxc n L) L.length (fct n) ks at_ t → ¬ Ltl t q) ∨
    (e = .returned (.tuple #[.slice none 0 0, .bool false]) ∧ ∀ t, ¬ Good (nxc n L) L.length (fct n) ks at_ t))

set_option maxRecDepth 20000 in
set_option maxHeartbeats 8000000 in
theorem rcirc_ok (n : Nat) (L : List (List Int)) (h1 : 1 ≤ n) (h4 : n ≤ 4) (hl : L.length ≤ 8) (hr : RowsN n L) :
    ∀ (m : Nat) (rest : List Nat) (at_ : Nat) (P : List Int) (v rv pv : Value) (w : World), (at_ :: rest).length + m = fct n → (at_ :: rest).Nodup → (∀ x, x ∈ at_ :: rest → x < fct n) → P.length = rest.length → IntsAll w v L → IntsAll w rv (RS n (at_ :: rest)) → Ints w pv P →
      Calls Try.prog 7 #[.int .i64 n, v, rv, pv] w (RCPost n L (at_ :: rest) at_ P w) := by
  intro m
  induction m using Nat.strongRecOn with
  | ind m ih =>
    intro rest at_ P v rv pv w hm hnd hks hP hv hrv hpv
    obtain ⟨i0, hi, hz0, hz1, hz2⟩ := info_parts Try.info3
    obtain ⟨j0, hji, hy0, hy1, hy2⟩ := info_parts Try.info23
    have hf := fct_24 h4
    have hat : at_ < fct n := hks at_ (by simp)
    have hrl : rest.length + 1 ≤ fct n := by rw [List.length_cons] at hm; omega
    obtain ⟨p0, c0, rfl⟩ := hv.len
    obtain ⟨p1, c1, hre⟩ := hrv.len
    rw [RS_length, List.length_cons] at hre
    subst hre
    obtain ⟨p2, c2, rfl⟩ := hpv.form
    have HV := hide hv
    have HRV := hide hrv
    have HPV := hide hpv
    have HKS := hide hks
    have HND := hide hnd
    have HMM := hide hm
    have HP := hide hP
    have HR := hide hr
    have HIH := hide ih
    have hPl : P.length ≤ 1000 := by omega
    have hrl2 : rest.length ≤ 23 := by omega
    have hwr : IntKind.i64.wrap (rest.length : Int) = (rest.length : Int) := by rw [IntKind.wrap_i64]; omega
    clear hv hrv hpv hks hnd hm hP ih hr
    go_enter Try.func7, Try.ntmps7
    go_wp2
    go_loopw [10] (fun i wr => ∃ j : Nat, j ≤ L.length ∧ i = .int .i64 j ∧ Hid (∀ j', j' < j → ∀ t, ¬ Good (nxc n L) L.length (fct n) (at_ :: rest) at_ (j' :: t)) ∧ Below w.heap.size w wr) (fun i _ => L.length - (intOf i).toNat)
    case atStart => exact ⟨0, by omega, rfl, (fun j hj => absurd hj (by omega)), Below.refl _ _⟩
    case round =>
      obtain ⟨j, hj, rfl, hNo, hbw⟩ := hrel
      have hbs := hbw.size
      by_cases hlt : j < L.length
      · obtain ⟨lb, lo, lcp, hle, hl1, hl2, hl3, hlcell⟩ := (HV.out.below hbw).cell (by omega)
        simp only [Value.slice.injEq] at hle
        obtain ⟨rfl, _, rfl⟩ := hle
        obtain ⟨q, cc, hlc, hli⟩ := hlcell j hlt
        have hmem : L.getD j [] ∈ L := by rw [List.getD, List.getElem?_eq_getElem hlt]; exact List.getElem_mem hlt
        obtain ⟨lr1, lr2⟩ := HR.out _ hmem
        obtain ⟨rb, ro, rcp, hre, hr1, hr2, hr3, hrcell⟩ := (HRV.out.below hbw).cell (by rw [RS_length]; simp)
        rw [RS_length, List.length_cons] at hre hr2 hrcell
        simp only [Value.slice.injEq] at hre
        obtain ⟨rfl, _, rfl⟩ := hre
        obtain ⟨q2, cc2, hrc, hri⟩ := hrcell rest.length (Nat.lt_succ_self _)
        rw [RS_last, rowAt_length hat] at hrc hri
        rw [lr2] at hlc hli
        have hnl : nxc n L j at_ < fct n := nxc_lt HR.out at_ hlt
        have hby : by_ (rowAt n at_) (L.getD j []) = rowAt n (nxc n L j at_) := (rowAt_rkk (isRow_by (rowAt_row hat) lr1 (by rw [lr2, rowAt_length hat])) (by rw [by_length]; exact lr2)).symm
        have HBY := hide (fun W (hW : Below wr.heap.size wr W) => rby_own (.slice q2 n cc2) (.slice q n cc) (rowAt n at_) (L.getD j []) W (hri.out.below hW) (hli.out.below hW) (fun j' hj' => by
          have := lr1.at hj'
          rw [rowAt_length hat, ← lr2]
          exact this) (by rw [rowAt_length hat]; omega) (by rw [lr2]; omega))
        rw [hby, lr2] at HBY
        have hd0 : Below wr.heap.size wr wr.drew := (Below.refl _ _).drew
        clear hlcell hrcell hri hli hmem lr1 lr2 hby
        generalize hnn : nxc n L j at_ = nxt at *
        have HNN := hide hnn
        clear hnn
        go_upto_region 4 with fail
        refine wp_region_held_drew (S := fun W' => W'.cell? ⟨rb, ro + rest.length, none⟩ = some (.slice q2 n cc2) ∧ W'.cell? ⟨lb, lo + j, none⟩ = some (.slice q n cc)) (by kernel_rfl) ⟨hrc, hlc⟩ (fun hS => ?_)
        refine wpAnyH_take (i := 0) (v := .slice (some ⟨rb, ro, none⟩) (rest.length + 1) c1) rfl (by kernel_rfl) (by kernel_rfl) (by kernel_rfl) (fun _ _ _ h => h) (Or.inl ⟨by kernel_rfl, fun w' hS' => by obtain ⟨q0, q1⟩ := hS'; go_simp⟩) hS ?_
        refine wpAnyH_take (i := 1) (v := .slice (some ⟨rb, ro, none⟩) (rest.length + 1) c1) rfl (by kernel_rfl) (by kernel_rfl) (by kernel_rfl) (fun _ _ _ h => h) (Or.inl ⟨by kernel_rfl, fun w' hS' => by obtain ⟨q0, q1⟩ := hS'; go_simp⟩) hS ?_
        refine wpAnyH_take (i := 2) (v := .int .i64 ((rest.length : Int) + 1)) rfl (by kernel_rfl) (by kernel_rfl) (by kernel_rfl) (fun _ _ _ h => h) (Or.inl ⟨by kernel_rfl, fun w' hS' => by obtain ⟨q0, q1⟩ := hS'; go_simp⟩) hS ?_
        refine wpAnyH_take (i := 3) (v := .int .i64 (rest.length : Int)) rfl (by kernel_rfl) (by kernel_rfl) (by kernel_rfl) (fun _ _ _ h => h) (Or.inl ⟨by kernel_rfl, fun w' hS' => by obtain ⟨q0, q1⟩ := hS'; go_simp⟩) hS ?_
        refine wpAnyH_take (i := 4) (v := .pointer (some ⟨rb, ro + rest.length, none⟩)) rfl (by kernel_rfl) (by kernel_rfl) (by kernel_rfl) (fun _ _ _ h => h) (Or.inl ⟨by kernel_rfl, fun w' hS' => by obtain ⟨q0, q1⟩ := hS'; go_simp; intro h0; exact absurd h0 (by omega)⟩) hS ?_
        refine wpAnyH_take (i := 5) (v := .slice q2 n cc2) rfl (by kernel_rfl) (by kernel_rfl) (by kernel_rfl) (fun _ _ _ h => h) (Or.inl ⟨by kernel_rfl, fun w' hS' => by obtain ⟨q0, q1⟩ := hS'; go_simp⟩) hS ?_
        refine wpAnyH_take (i := 6) (v := .slice (some ⟨lb, lo, none⟩) L.length c0) rfl (by kernel_rfl) (by kernel_rfl) (by kernel_rfl) (fun _ _ _ h => h) (Or.inl ⟨by kernel_rfl, fun w' hS' => by obtain ⟨q0, q1⟩ := hS'; go_simp⟩) hS ?_
        refine wpAnyH_take (i := 7) (v := .int .i64 (j : Int)) rfl (by kernel_rfl) (by kernel_rfl) (by kernel_rfl) (fun _ _ _ h => h) (Or.inl ⟨by kernel_rfl, fun w' hS' => by obtain ⟨q0, q1⟩ := hS'; go_simp⟩) hS ?_
        refine wpAnyH_take (i := 8) (v := .pointer (some ⟨lb, lo + j, none⟩)) rfl (by kernel_rfl) (by kernel_rfl) (by kernel_rfl) (fun _ _ _ h => h) (Or.inl ⟨by kernel_rfl, fun w' hS' => by obtain ⟨q0, q1⟩ := hS'; go_simp⟩) hS ?_
        refine wpAnyH_take (i := 9) (v := .slice q n cc) rfl (by kernel_rfl) (by kernel_rfl) (by kernel_rfl) (fun _ _ _ h => h) (Or.inl ⟨by kernel_rfl, fun w' hS' => by obtain ⟨q0, q1⟩ := hS'; go_simp⟩) hS ?_
        refine wpAnyH_ready (rs := [10]) (by kernel_rfl) (by simp) ?_
        refine AllReadyH.cons rfl (fun K hK => ?_) AllReadyH.nil
        go_simp
        refine (HBY.out _ hd0).mono ?_
        rintro e w1 ⟨nv, rfl, hnv, hb1⟩
        have hb1' : Below wr.heap.size wr w1 := hd0.trans (hb1.mono hd0.size)
        refine hK.out _ _ ⟨(hb1'.cell (p := ⟨rb, ro + rest.length, none⟩) hr1).trans hrc, (hb1'.cell (p := ⟨lb, lo + j, none⟩) hl1).trans hlc⟩ (fun hS => ?_)
        clear hK
        obtain ⟨np, nc, rfl⟩ := owns_slice hnv
        refine wpAnyH_take (i := 11) (v := .slice np n nc) rfl (by kernel_rfl) (by kernel_rfl) (by kernel_rfl) (fun _ _ _ h => h) (Or.inl ⟨by kernel_rfl, fun w' hS' => by obtain ⟨q0, q1⟩ := hS'; go_simp⟩) hS ?_
        refine wpAnyH_done (by kernel_rfl) ?_ _
        have hB1 := hbw.trans (hb1'.mono hbs)
        have hs1 := hB1.size
        have HNV := hide (Ints.own hnv)
        clear hb1 hb1' hnv HBY hS hrc hlc hd0 hbw
        have HE : Hid ((w1.alloc (.cells #[] 3)).ownsRow w1.heap.size 3 1 (.slice (some ⟨w1.heap.size, 0, none⟩) 0 0) 0 []) := World.ownsRow_made w1 #[] 0 (Nat.le_refl _) (by decide) (by simp)
        have HPV1 := hide (((HPV.out.below hB1).below ((Below.refl _ _).alloc (Nat.le_refl _) (.cells #[] 3))).vals)
        go_wp2_with (at_builtin; refine wpList_append_vals rfl _ _ 23 rfl w1.heap.size 3 i0 (.int .i64 0) 8 Try.underlying23 hi hz0 hz1 hz2 rfl _ _ _ rfl HE.out _ (P.map (Value.int .i64)) rfl HPV1.out (ints_oneCell .i64 P) ?c3 ?c4 ?c5 ?_)
        case c3 => rw [List.length_map]; unfold maxLen; omega
        case c4 => rw [List.length_map]; omega
        case c5 => simp
        intro v2 w2 hown2 hgrow2
        obtain ⟨vp2, vc2, rfl⟩ := owns_slice hown2
        have hb2 : Below w1.heap.size w1 w2 := ((Below.refl _ _).alloc (Nat.le_refl _) _).grown hgrow2 (by simp) (fun k hk => by have e' : w1.heap.size = k := Option.some.inj hk; omega)
        have hs2 := hb2.size
        clear hgrow2 HE HPV1
        go_wp2_with (at_builtin; refine wpList_append_own _ rfl _ _ 23 rfl w1.heap.size 3 i0 (.int .i64 0) 1 8 Try.underlying23 hi hz0 hz1 hz2 rfl (by decide) _ _ _ rfl (hown2.alloc _) ⟨w2.heap.size, 0, none⟩ 1 1 [.int .i64 (j : Int)] rfl rfl ?c1 ?c2 ?c3 ?c4 ?c5 ?_)
        case c1 => exact cell_one_new _ _ _
        case c2 => intro u hu; simp at hu; subst hu; rfl
        case c3 => unfold maxLen; omega
        case c4 => omega
        case c5 => simp; omega
        intro v3 w3 hown3 hgrow3 _
        obtain ⟨vp3, vc3, rfl⟩ := owns_slice hown3
        have hb3 : Below w1.heap.size w1 w3 := (hb2.alloc hs2 _).grown hgrow3 (by simp; omega) (fun g hg => (hown2.lt g hg).1)
        have hB3 : Below w.heap.size w w3 := hB1.trans (hb3.mono hs1)
        have hI3 : Ints w3 (.slice vp3 (P.length + 1) vc3) (P ++ [(j : Int)]) := Ints.own (base := w1.heap.size) (e := 3) (n := P.length + 1) (by rw [List.map_append]; exact hown3)
        have HI3 := hide hI3
        have HNV3 := hide (HNV.out.below hb3)
        have hs3 := hB3.size
        clear hown2 hown3 hgrow3 hb2 hb3 hI3 hB1 HNV hs1 hs2
        have HRK := hide (fun W (hW : Below w3.heap.size w3 W) => rrank_ok (.slice np n nc) (rowAt n nxt) W (HNV3.out.below hW) (rowAt_row hnl) (by rw [rowAt_length hnl]; omega) (by rw [rowAt_length hnl]; omega))
        rw [show rkTo (rowAt n nxt) (rowAt n nxt).length = nxt from rank_rowAt hnl] at HRK
        have hNoS : ∀ (_ : ∀ t, ¬ Good (nxc n L) L.length (fct n) (at_ :: rest) at_ (j :: t)), Hid (∀ j', j' < j + 1 → ∀ t, ¬ Good (nxc n L) L.length (fct n) (at_ :: rest) at_ (j' :: t)) := fun hh j' hj' t => by
          rcases Nat.lt_succ_iff_lt_or_eq.1 hj' with h | h
          · exact hNo.out j' h t
          · rw [h]; exact hh t
        have HNoS := hide hNoS
        have hLst : ∀ q, (∀ t, Good (nxc n L) L.length (fct n) (at_ :: rest) at_ (j :: t) → ¬ Ltl t q) → ∀ t, Good (nxc n L) L.length (fct n) (at_ :: rest) at_ t → ¬ Ltl t (j :: q) := fun q hq => by
          have := least_found (q := q) (range_tried (nxc n L) L.length) (i := j) (by rw [List.length_range]; exact hlt) (fun j' hj' t => by rw [range_get (by omega)]; exact hNo.out j' hj' t) (by rw [range_get hlt]; exact hq)
          rw [range_get hlt] at this
          exact this
        have HLst := hide hLst
        clear hNoS hLst hNo
        go_wp2_with fail
        refine (factorial_any n _ (by omega)).mono ?_
        rintro e wf ⟨rfl, rfl⟩
        by_cases hfull : P.length + 1 = fct n
        · have e1 : ((((P.length : Nat) : Int) + 1) == ((fct n : Nat) : Int)) = true := by rw [beq_iff_eq]; omega
          have hfl : (at_ :: rest).length = fct n := by rw [List.length_cons, ← HP.out]; exact hfull
          by_cases hz : nxt = 0
          · have e2 : (((nxt : Nat) : Int) == 0) = true := by rw [hz]; rfl
            have HG := hide (good_home (nx := nxc n L) (K := L.length) (all := fct n) (ks := at_ :: rest) (a := at_) (k := j) hlt (by rw [HNN.out]; exact hz) hfl)
            have HMin := hide (HLst.out [] HG.out.2)
            clear hz hfl hfull
            go_wp2_with fail
            refine (HRK.out _ (Below.refl _ _)).mono ?_
            rintro e w4 ⟨rfl, hb4⟩
            have HI4 := hide (HI3.out.below hb4)
            have hB4 := hB3.trans (hb4.mono hs3)
            clear hb4 HRK
            go_wp2
            go_ret2
            exact ⟨hB4, Or.inl ⟨[j], _, rfl, HI4.out, HG.out.1, HMin.out⟩⟩
          · have e2 : (((nxt : Nat) : Int) == 0) = false := by rw [beq_eq_false_iff_ne]; omega
            have HNO := HNoS.out (good_full (by rw [HNN.out]; exact hz) hfl)
            clear hz hfl hfull
            go_wp2_with fail
            refine (HRK.out _ (Below.refl _ _)).mono ?_
            rintro e w4 ⟨rfl, hb4⟩
            have hB4 := hB3.trans (hb4.mono hs3)
            clear hb4 HRK
            go_wp2
            go_roundw
            case rel => exact ⟨j + 1, by omega, by go_num, HNO, hB4⟩
            case measure => simp [intOf]; omega
        · have e1 : ((((P.length : Nat) : Int) + 1) == ((fct n : Nat) : Int)) = false := by rw [beq_eq_false_iff_ne]; omega
          have hfl : (at_ :: rest).length ≠ fct n := by rw [List.length_cons, ← HP.out]; exact hfull
          have HHAS := hide (has_ok' _ _ _ _ _ (HRV.out.below hB3) HNV3.out (by rw [RS_length, List.length_cons]; omega))
          rw [show decide (rowAt n nxt ∈ RS n (at_ :: rest)) = decide (nxt ∈ at_ :: rest) from by rw [decide_eq_decide]; exact RS_mem HKS.out hnl] at HHAS
          by_cases hin : nxt ∈ at_ :: rest
          · rw [decide_eq_true hin] at HHAS
            have HNO := HNoS.out (good_barred (by rw [HNN.out]; exact hin) (fun hh => hfl hh.2))
            clear hin hfl hfull
            go_wp2_with fail
            refine HHAS.out.mono ?_
            rintro e w4 ⟨rfl, hb4⟩
            have hB4 := hB3.trans (hb4.mono hs3)
            clear hb4 HRK HHAS
            go_wp2
            go_roundw
            case rel => exact ⟨j + 1, by omega, by go_num, HNO, hB4⟩
            case measure => simp [intOf]; omega
          · rw [decide_eq_false hin] at HHAS
            go_wp2_with fail
            refine HHAS.out.mono ?_
            rintro e w4 ⟨rfl, hb4⟩
            have hB4 := hB3.trans (hb4.mono hs3)
            have hs4 := hB4.size
            have HI4 := hide (HI3.out.below hb4)
            have HNV4 := hide (HNV3.out.below hb4)
            obtain ⟨vs, hvals, hvl, hvi⟩ := HRV.out.below hB4
            have HE2 : Hid ((w4.alloc (.cells #[] 23)).ownsRow w4.heap.size 23 1 (.slice (some ⟨w4.heap.size, 0, none⟩) 0 0) 0 []) := World.ownsRow_made w4 #[] 0 (Nat.le_refl _) (by decide) (by simp)
            have HVL := hide (hvals.below ((Below.refl _ _).alloc (Nat.le_refl _) (.cells #[] 23)))
            have HVO := hide (vals_cells hvl hvi)
            have HVI := hide (fun W (hW : Below w4.heap.size w4 W) j' hj' => (hvi j' hj').below hW)
            have HVN := hide hvl
            have hvl2 : vs.length = rest.length + 1 := by rw [hvl, RS_length, List.length_cons]
            clear hb4 HRK HHAS HI3 HNV3 hvals hvi hvl hs3 hB3
            go_wp2_with (at_builtin; refine wpList_append_vals rfl _ _ 22 rfl w4.heap.size 23 j0 (.slice none 0 0) 24 Try.underlying22 hji hy0 hy1 hy2 rfl _ _ _ rfl HE2.out _ vs rfl HVL.out HVO.out ?c3 ?c4 ?c5 ?_)
            case c3 => unfold maxLen; omega
            case c4 => omega
            case c5 => simp
            intro v5 w5 hown5 hgrow5
            obtain ⟨vp5, vc5, rfl⟩ := owns_slice hown5
            have hb5 : Below w4.heap.size w4 w5 := ((Below.refl _ _).alloc (Nat.le_refl _) _).grown hgrow5 (by simp) (fun k hk => by have e' : w4.heap.size = k := Option.some.inj hk; omega)
            have hs5 := hb5.size
            clear hgrow5 HE2 HVL
            go_wp2_with (at_builtin; refine wpList_append_own _ rfl _ _ 22 rfl w4.heap.size 23 j0 (.slice none 0 0) 1 24 Try.underlying22 hji hy0 hy1 hy2 rfl (by decide) _ _ _ rfl (hown5.alloc _) ⟨w5.heap.size, 0, none⟩ 1 1 [.slice np n nc] rfl rfl ?c1 ?c2 ?c3 ?c4 ?c5 ?_)
            case c1 => exact cell_one_new _ _ _
            case c2 => intro u hu; simp at hu; subst hu; rfl
            case c3 => unfold maxLen; omega
            case c4 => omega
            case c5 => simp; omega
            intro v6 w6 hown6 hgrow6 _
            have hb6 : Below w4.heap.size w4 w6 := (hb5.alloc hs5 _).grown hgrow6 (by simp; omega) (fun g hg => (hown5.lt g hg).1)
            have hB6 : Below w.heap.size w w6 := hB4.trans (hb6.mono hs4)
            have hRS6 : IntsAll w6 v6 (RS n (nxt :: at_ :: rest)) := by
              rw [RS_cons]
              refine ⟨vs ++ [.slice np n nc], Vals.own (by rw [List.length_append, hvl2]; exact hown6), by rw [List.length_append, List.length_append, HVN.out]; rfl, ?_⟩
              refine ints_join HVN.out (HVI.out w6 hb6) (fun j' hj' => ?_)
              have : j' = 0 := by simp at hj'; omega
              subst this
              exact HNV4.out.below hb6
            have HCALL := hide (HIH.out (m - 1) (by have := HMM.out; rw [List.length_cons] at this; have := HP.out; omega) (at_ :: rest) nxt (P ++ [(j : Int)]) _ v6 _ w6 (by have := HMM.out; rw [List.length_cons] at this ⊢; rw [List.length_cons]; have := HP.out; omega) (List.nodup_cons.2 ⟨hin, HND.out⟩) (fun x hx => by
              rcases List.mem_cons.1 hx with h | h
              · omega
              · exact HKS.out x h) (by rw [List.length_append, List.length_cons, HP.out]; rfl) (HV.out.below hB6) hRS6 (HI4.out.below hb6))
            have hs6 := hB6.size
            obtain ⟨vp6, vc6, rfl⟩ := owns_slice hown6
            clear hown5 hown6 hgrow6 hb5 hb6 hRS6 HI4 HNV4 HVI HVO
            go_wp2_with fail
            refine HCALL.out.mono ?_
            rintro e w7 ⟨hb7, (⟨q, ov, rfl, hoi, hg, hmin⟩ | ⟨rfl, hno⟩)⟩
            · have HG : Hid (Good (nxc n L) L.length (fct n) (at_ :: rest) at_ (j :: q)) := by
                refine ⟨hlt, Or.inr ⟨by rw [HNN.out]; exact hin, ?_⟩⟩
                rw [HNN.out]; exact hg
              have HMin := hide (HLst.out q (fun t ht => by
                have h9 := good_on (by rw [HNN.out]; exact fun hh => hfl hh.2) t ht
                rw [HNN.out] at h9
                exact hmin t h9))
              have HOI : Hid (Ints w7 ov (P ++ nI (j :: q))) := by
                show Ints _ _ _
                rw [show P ++ nI (j :: q) = P ++ [(j : Int)] ++ nI q from by simp [nI]]
                exact hoi
              obtain ⟨op, oc, rfl⟩ := hoi.form
              generalize (P ++ [(j : Int)] ++ nI q).length = ol at *
              have hB7 := hB6.trans (hb7.mono hs6)
              clear hg hmin hoi hb7 HCALL hin hfl hfull
              go_wp2
              go_ret2
              exact ⟨hB7, Or.inl ⟨j :: q, _, rfl, HOI.out, HG.out, HMin.out⟩⟩
            · have HNO := HNoS.out (fun t ht => by
                have h9 := good_on (by rw [HNN.out]; exact fun hh => hfl hh.2) t ht
                rw [HNN.out] at h9
                exact hno t h9)
              have hB7 := hB6.trans (hb7.mono hs6)
              clear hno hb7 HCALL hin hfl hfull
              go_wp2
              go_roundw
              case rel => exact ⟨j + 1, by omega, by go_num, HNO, hB7⟩
              case measure => simp [intOf]; omega
      · have HN : Hid (∀ t, ¬ Good (nxc n L) L.length (fct n) (at_ :: rest) at_ t) := none_found (range_tried _ _) (fun j' h' t => by
          rw [List.length_range] at h'
          rw [range_get h']
          exact hNo.out j' (by omega) t)
        go_wp2
        go_ret2
        exact ⟨hbw, Or.inr ⟨rfl, HN.out⟩⟩

end Go.Proofs.Ytnmjgepobcanfaa

/- The law ExtentCircuits. -/
namespace Go.Proofs.Ytnmjgepobcanfaa
open Go.RowKit

theorem ltl_total : ∀ x y : List Nat, ¬ Ltl x y → ¬ Ltl y x → x = y
  | [], [], _, _ => rfl
  | [], _ :: _, h, _ => absurd trivial h
  | _ :: _, [], _, h => absurd trivial h
  | a :: x, b :: y, h1, h2 => by
    have e : a = b := by
      rcases Nat.lt_trichotomy a b with h | h | h
      · exact absurd (Or.inl h) h1
      · exact h
      · exact absurd (Or.inl h) h2
    subst e
    rw [ltl_total x y (fun h => h1 (Or.inr ⟨rfl, h⟩)) (fun h => h2 (Or.inr ⟨rfl, h⟩))]

set_option maxRecDepth 20000 in
set_option maxHeartbeats 1000000 in
theorem ec_skip (v : Value) (L : List (List Int)) (w : World) (hX : IntsAll w v L) (h3 : 3 < L.length) (h9 : L.length < 9) :
    Calls Try.prog 3 #[.int .i64 4, v] w fun e w' => e = .returned (.bool true) ∧ Below w.heap.size w w' := by
  obtain ⟨p0, c0, rfl⟩ := hX.len
  clear hX
  go_enter Try.func3, Try.ntmps3
  go_wp2
  go_ret
  exact ⟨rfl, Below.refl _ _⟩

set_option maxRecDepth 20000 in
set_option maxHeartbeats 4000000 in
theorem ec_count (n : Int) (v : Value) (L : List (List Int)) (w : World) (hX : IntsAll w v L) (h : n < 1 ∨ 4 < n) :
    Calls Try.prog 3 #[.int .i64 n, v] w fun e w' => e = .returned (.bool true) ∧ Below w.heap.size w w' := by
  have HC := hide (circuit_refuses n v L 1 w hX (by decide) (checkCircuit_count n v L w hX h))
  obtain ⟨p0, c0, rfl⟩ := hX.len
  have e4 : (n == 4) = false := by rw [beq_eq_false_iff_ne]; omega
  clear hX
  by_cases h1 : n < 1
  · clear h
    go_enter Try.func3, Try.ntmps3
    go_wp2_with fail
    refine HC.out.mono ?_
    rintro e w1 ⟨rfl, hb1⟩
    go_wp2
    go_loop [8, 9] (fun f i => f = .int .i64 1 ∧ i = .int .i64 0) (fun _ _ => 0)
    case atStart => exact ⟨rfl, rfl⟩
    case round =>
      obtain ⟨rfl, rfl⟩ := hrel
      by_cases hl : 0 < L.length
      · go_wp2
        go_ret
        exact ⟨rfl, hb1⟩
      · go_wp2
        go_ret
        exact ⟨rfl, hb1⟩
  · have h2 : n > 4 := by omega
    clear h
    go_enter Try.func3, Try.ntmps3
    go_wp2_with fail
    refine HC.out.mono ?_
    rintro e w1 ⟨rfl, hb1⟩
    go_wp2
    go_loop [8, 9] (fun f i => f = .int .i64 1 ∧ i = .int .i64 0) (fun _ _ => 0)
    case atStart => exact ⟨rfl, rfl⟩
    case round =>
      obtain ⟨rfl, rfl⟩ := hrel
      by_cases hl : 0 < L.length
      · go_wp2
        go_ret
        exact ⟨rfl, hb1⟩
      · go_wp2
        go_ret
        exact ⟨rfl, hb1⟩

set_option maxRecDepth 20000 in
set_option maxHeartbeats 4000000 in
/-- The loop where f is c already, and what is returned. -/
theorem ec_refused (n : Nat) (v : Value) (L : List (List Int)) (c : Int) (w : World) (h1 : 1 ≤ n) (h4 : n ≤ 4) (hX : IntsAll w v L) (hl : L.length ≤ 8) (hfew : n = 4 → L.length ≤ 3) (hc : c ≠ 0)
    (hC : Calls Try.prog 4 #[.int .i64 n, v] w fun e w' => e = .returned (.tuple #[.slice none 0 0, .bool false, .int .i64 c]) ∧ Below w.heap.size w w')
    (hG : ∀ W, Below w.heap.size w W → Calls Try.prog 5 #[.int .i64 n, v] W fun e w' => e = .returned (.int .i64 c) ∧ W = w') :
    Calls Try.prog 3 #[.int .i64 n, v] w fun e w' => e = .returned (.bool true) ∧ Below w.heap.size w w' := by
  have HC := hide hC
  have HG := hide hG
  obtain ⟨p0, c0, rfl⟩ := hX.len
  have ec : (c == 0) = false := by rw [beq_eq_false_iff_ne]; exact hc
  have ec2 : (c != 0) = true := by rw [bne_iff_ne]; exact hc
  clear hX hC hG hc
  by_cases hn4 : n = 4
  · have e4 : (((n : Nat) : Int) == 4) = true := by rw [hn4]; rfl
    have hl3 := hfew hn4
    have hl3' : ¬ ((3 : Int) < ((L.length : Nat) : Int)) := by omega
    clear hfew hn4
    go_enter Try.func3, Try.ntmps3
    go_wp2_with fail
    refine HC.out.mono ?_
    rintro e w1 ⟨rfl, hb1⟩
    go_wp2_with fail
    refine (HG.out w1 hb1).mono ?_
    rintro e w2 ⟨rfl, rfl⟩
    go_wp2
    go_loop [8, 9] (fun f i => f = .int .i64 c ∧ i = .int .i64 0) (fun _ _ => 0)
    case atStart => exact ⟨rfl, rfl⟩
    case round =>
      obtain ⟨rfl, rfl⟩ := hrel
      by_cases hl : 0 < L.length
      · go_wp2
        go_ret
        exact ⟨rfl, hb1⟩
      · go_wp2
        go_ret
        exact ⟨rfl, hb1⟩
  · have e4 : (((n : Nat) : Int) == 4) = false := by rw [beq_eq_false_iff_ne]; omega
    clear hfew hn4
    go_enter Try.func3, Try.ntmps3
    go_wp2_with fail
    refine HC.out.mono ?_
    rintro e w1 ⟨rfl, hb1⟩
    go_wp2_with fail
    refine (HG.out w1 hb1).mono ?_
    rintro e w2 ⟨rfl, rfl⟩
    go_wp2
    go_loop [8, 9] (fun f i => f = .int .i64 c ∧ i = .int .i64 0) (fun _ _ => 0)
    case atStart => exact ⟨rfl, rfl⟩
    case round =>
      obtain ⟨rfl, rfl⟩ := hrel
      by_cases hl : 0 < L.length
      · go_wp2
        go_ret
        exact ⟨rfl, hb1⟩
      · go_wp2
        go_ret
        exact ⟨rfl, hb1⟩

set_option maxRecDepth 20000 in
set_option maxHeartbeats 4000000 in
theorem ec_many (n : Nat) (v : Value) (L : List (List Int)) (w : World) (h1 : 1 ≤ n) (h4 : n ≤ 4) (hX : IntsAll w v L) (hl : 8 < L.length) :
    Calls Try.prog 3 #[.int .i64 n, v] w fun e w' => e = .returned (.bool true) ∧ Below w.heap.size w w' := by
  have HC := hide (circuit_refuses n v L 1 w hX (by decide) (checkCircuit_refuses n v L 1 w h1 h4 hX (by decide) ((gcheck_bad n v L w hX (Or.inr (Or.inr hl))).mono (fun e w' h => ⟨h.1, h.2 ▸ Below.refl _ _⟩))))
  obtain ⟨p0, c0, rfl⟩ := hX.len
  have hl3 : ((3 : Int) < ((L.length : Nat) : Int)) := by omega
  have hl9 : ¬ (((L.length : Nat) : Int) < 9) := by omega
  have hl8 : (((L.length : Nat) : Int) > 8) := by omega
  clear hX
  by_cases hn4 : n = 4
  · have e4 : (((n : Nat) : Int) == 4) = true := by rw [hn4]; rfl
    clear hn4
    go_enter Try.func3, Try.ntmps3
    go_wp2_with fail
    refine HC.out.mono ?_
    rintro e w1 ⟨rfl, hb1⟩
    go_wp2
    go_loop [8, 9] (fun f i => f = .int .i64 1 ∧ i = .int .i64 0) (fun _ _ => 0)
    case atStart => exact ⟨rfl, rfl⟩
    case round =>
      obtain ⟨rfl, rfl⟩ := hrel
      go_wp2
      go_ret
      exact ⟨rfl, hb1⟩
  · have e4 : (((n : Nat) : Int) == 4) = false := by rw [beq_eq_false_iff_ne]; omega
    clear hn4
    go_enter Try.func3, Try.ntmps3
    go_wp2_with fail
    refine HC.out.mono ?_
    rintro e w1 ⟨rfl, hb1⟩
    go_wp2
    go_loop [8, 9] (fun f i => f = .int .i64 1 ∧ i = .int .i64 0) (fun _ _ => 0)
    case atStart => exact ⟨rfl, rfl⟩
    case round =>
      obtain ⟨rfl, rfl⟩ := hrel
      go_wp2
      go_ret
      exact ⟨rfl, hb1⟩

end Go.Proofs.Ytnmjgepobcanfaa

/- The law ExtentCircuits: where an order is too great; where all may be; the whole. -/
namespace Go.Proofs.Ytnmjgepobcanfaa
open Go.RowKit

set_option maxRecDepth 20000 in
set_option maxHeartbeats 4000000 in
theorem ec_place (n : Nat) (v : Value) (L : List (List Int)) (w : World) (h1 : 1 ≤ n) (h4 : n ≤ 4) (hX : IntsAll w v L) (hl : L.length ≤ 8) (hfew : n = 4 → L.length ≤ 3) (hr : RowsN n L) (ho : ∃ x, x ∈ L ∧ 2 < ord x) :
    Calls Try.prog 3 #[.int .i64 n, v] w fun e w' => e = .returned (.bool true) ∧ Below w.heap.size w w' := by
  have HC := hide (circuit_refuses n v L 6 w hX (by decide) (checkCircuit_place n v L w h1 h4 hX hl hr ho))
  have HG := hide (fun W (hW : Below w.heap.size w W) => gensMay_ok n v L W (hX.below hW) h1 (by omega) hl)
  rw [gchk_rows h1 (by omega) hr] at HG
  obtain ⟨p0, c0, rfl⟩ := hX.len
  have HX := hide hX
  have HR := hide hr
  have HO := hide ho
  clear hX hr ho
  by_cases hn4 : n = 4
  · have e4 : (((n : Nat) : Int) == 4) = true := by rw [hn4]; rfl
    have hl3 := hfew hn4
    have hl3' : ¬ ((3 : Int) < ((L.length : Nat) : Int)) := by omega
    clear hfew hn4
    go_enter Try.func3, Try.ntmps3
    go_wp2_with fail
    refine HC.out.mono ?_
    rintro e w1 ⟨rfl, hb1⟩
    go_wp2_with fail
    refine (HG.out w1 hb1).mono ?_
    rintro e w2 ⟨rfl, rfl⟩
    go_wp2
    go_loopw [8, 9] (fun f i wr => ∃ k : Nat, k ≤ L.length ∧ i = .int .i64 k ∧ ((f = .int .i64 0 ∧ Hid (∀ j, j < k → ord (L.getD j []) ≤ 2)) ∨ f = .int .i64 6) ∧ Below w.heap.size w wr) (fun _ i _ => L.length - (intOf i).toNat)
    case atStart => exact ⟨0, by omega, rfl, Or.inl ⟨rfl, (fun j hj => absurd hj (by omega))⟩, hb1⟩
    case round =>
      clear hb1
      obtain ⟨k, hk, rfl, (⟨rfl, hN⟩ | rfl), hbw⟩ := hrel
      · by_cases hlt : k < L.length
        · obtain ⟨b, off, cap, he, hb3, hlc3, hcm3, hcell3⟩ := (HX.out.below hbw).cell (by omega)
          simp only [Value.slice.injEq] at he
          obtain ⟨rfl, _, rfl⟩ := he
          obtain ⟨q, cc, hce, hint⟩ := hcell3 k hlt
          have hmem : L.getD k [] ∈ L := by rw [List.getD, List.getElem?_eq_getElem hlt]; exact List.getElem_mem hlt
          obtain ⟨r1, r2⟩ := HR.out _ hmem
          have HOR := hide (rorder_ok _ _ wr hint.out r1 (by omega) (by omega))
          have hp2 := (ord_pos r1 (by omega)).2
          by_cases hgt : 2 < ord (L.getD k [])
          · clear hcell3 hint hmem r1 r2 hN
            generalize L.getD k [] = x at *
            generalize x.length = xl at *
            go_wp2_with fail
            refine HOR.out.mono ?_
            rintro e w2 ⟨rfl, hb2⟩
            have hB2 := hbw.trans (hb2.mono hbw.size)
            have hgt2 : ((2 : Int) < ((ord x : Nat) : Int)) := by omega
            clear hb2 HOR hgt
            generalize ord x = z at *
            generalize odd x = z2 at *
            go_wp2
            go_roundw
            case rel => exact ⟨k + 1, by omega, by go_num, Or.inr rfl, hB2⟩
            case measure => simp [intOf]; omega
          · have HN2 : Hid (∀ j, j < k + 1 → ord (L.getD j []) ≤ 2) := fun j hj => by
              rcases Nat.lt_succ_iff_lt_or_eq.1 hj with h | h
              · exact hN.out j h
              · rw [h]; omega
            clear hcell3 hint hmem r1 r2 hN
            generalize L.getD k [] = x at *
            generalize x.length = xl at *
            go_wp2_with fail
            refine HOR.out.mono ?_
            rintro e w2 ⟨rfl, hb2⟩
            have hB2 := hbw.trans (hb2.mono hbw.size)
            have hgt2 : ¬ ((2 : Int) < ((ord x : Nat) : Int)) := by omega
            clear hb2 HOR hgt
            generalize ord x = z at *
            generalize odd x = z2 at *
            go_wp2
            go_roundw
            case rel => exact ⟨k + 1, by omega, by go_num, Or.inl ⟨rfl, HN2⟩, hB2⟩
            case measure => simp [intOf]; omega
        · exfalso
          obtain ⟨x, hx, hgt⟩ := HO.out
          obtain ⟨j, hj, e⟩ := List.getElem_of_mem hx
          have := hN.out j (by omega)
          rw [List.getD, List.getElem?_eq_getElem hj] at this
          simp [e] at this
          omega
      · by_cases hlt : k < L.length
        · go_wp2
          go_ret
          exact ⟨rfl, hbw⟩
        · go_wp2
          go_ret
          exact ⟨rfl, hbw⟩
  · have e4 : (((n : Nat) : Int) == 4) = false := by rw [beq_eq_false_iff_ne]; omega
    clear hfew hn4
    go_enter Try.func3, Try.ntmps3
    go_wp2_with fail
    refine HC.out.mono ?_
    rintro e w1 ⟨rfl, hb1⟩
    go_wp2_with fail
    refine (HG.out w1 hb1).mono ?_
    rintro e w2 ⟨rfl, rfl⟩
    go_wp2
    go_loopw [8, 9] (fun f i wr => ∃ k : Nat, k ≤ L.length ∧ i = .int .i64 k ∧ ((f = .int .i64 0 ∧ Hid (∀ j, j < k → ord (L.getD j []) ≤ 2)) ∨ f = .int .i64 6) ∧ Below w.heap.size w wr) (fun _ i _ => L.length - (intOf i).toNat)
    case atStart => exact ⟨0, by omega, rfl, Or.inl ⟨rfl, (fun j hj => absurd hj (by omega))⟩, hb1⟩
    case round =>
      clear hb1
      obtain ⟨k, hk, rfl, (⟨rfl, hN⟩ | rfl), hbw⟩ := hrel
      · by_cases hlt : k < L.length
        · obtain ⟨b, off, cap, he, hb3, hlc3, hcm3, hcell3⟩ := (HX.out.below hbw).cell (by omega)
          simp only [Value.slice.injEq] at he
          obtain ⟨rfl, _, rfl⟩ := he
          obtain ⟨q, cc, hce, hint⟩ := hcell3 k hlt
          have hmem : L.getD k [] ∈ L := by rw [List.getD, List.getElem?_eq_getElem hlt]; exact List.getElem_mem hlt
          obtain ⟨r1, r2⟩ := HR.out _ hmem
          have HOR := hide (rorder_ok _ _ wr hint.out r1 (by omega) (by omega))
          have hp2 := (ord_pos r1 (by omega)).2
          by_cases hgt : 2 < ord (L.getD k [])
          · clear hcell3 hint hmem r1 r2 hN
            generalize L.getD k [] = x at *
            generalize x.length = xl at *
            go_wp2_with fail
            refine HOR.out.mono ?_
            rintro e w2 ⟨rfl, hb2⟩
            have hB2 := hbw.trans (hb2.mono hbw.size)
            have hgt2 : ((2 : Int) < ((ord x : Nat) : Int)) := by omega
            clear hb2 HOR hgt
            generalize ord x = z at *
            generalize odd x = z2 at *
            go_wp2
            go_roundw
            case rel => exact ⟨k + 1, by omega, by go_num, Or.inr rfl, hB2⟩
            case measure => simp [intOf]; omega
          · have HN2 : Hid (∀ j, j < k + 1 → ord (L.getD j []) ≤ 2) := fun j hj => by
              rcases Nat.lt_succ_iff_lt_or_eq.1 hj with h | h
              · exact hN.out j h
              · rw [h]; omega
            clear hcell3 hint hmem r1 r2 hN
            generalize L.getD k [] = x at *
            generalize x.length = xl at *
            go_wp2_with fail
            refine HOR.out.mono ?_
            rintro e w2 ⟨rfl, hb2⟩
            have hB2 := hbw.trans (hb2.mono hbw.size)
            have hgt2 : ¬ ((2 : Int) < ((ord x : Nat) : Int)) := by omega
            clear hb2 HOR hgt
            generalize ord x = z at *
            generalize odd x = z2 at *
            go_wp2
            go_roundw
            case rel => exact ⟨k + 1, by omega, by go_num, Or.inl ⟨rfl, HN2⟩, hB2⟩
            case measure => simp [intOf]; omega
        · exfalso
          obtain ⟨x, hx, hgt⟩ := HO.out
          obtain ⟨j, hj, e⟩ := List.getElem_of_mem hx
          have := hN.out j (by omega)
          rw [List.getD, List.getElem?_eq_getElem hj] at this
          simp [e] at this
          omega
      · by_cases hlt : k < L.length
        · go_wp2
          go_ret
          exact ⟨rfl, hbw⟩
        · go_wp2
          go_ret
          exact ⟨rfl, hbw⟩

theorem rowAt_zero (n : Nat) : rowAt n 0 = rnd n := by
  have h9 : rkk (rnd n) = 0 := by unfold rkk; rw [rkTo_all]; exact rankR_sorted0 _ (rnd_sorted n)
  rw [← h9]; exact rowAt_rkk (isRow_rnd n) (rnd_length n)

set_option maxRecDepth 20000 in
set_option maxHeartbeats 8000000 in
theorem ec_good (n : Nat) (v : Value) (L : List (List Int)) (w : World) (h1 : 1 ≤ n) (h4 : n ≤ 4) (hX : IntsAll w v L) (hl : L.length ≤ 8) (hfew : n = 4 → L.length ≤ 3) (hr : RowsN n L) (ho : ∀ x, x ∈ L → ord x ≤ 2) :
    Calls Try.prog 3 #[.int .i64 n, v] w fun e w' => e = .returned (.bool true) ∧ Below w.heap.size w w' := by
  have HC := hide (circuit_ok n v L w h1 h4 hX hl hr ho)
  have HG := hide (fun W (hW : Below w.heap.size w W) => gensMay_ok n v L W (hX.below hW) h1 (by omega) hl)
  rw [gchk_rows h1 (by omega) hr] at HG
  have hf := fct_24 h4
  have hfp := fct_pos n
  obtain ⟨p0, c0, rfl⟩ := hX.len
  have HX := hide hX
  have HR := hide hr
  have HO := hide ho
  clear hX hr ho
  by_cases hn4 : n = 4
  · have e4 : (((n : Nat) : Int) == 4) = true := by rw [hn4]; rfl
    have hl3 := hfew hn4
    have hl3' : ¬ ((3 : Int) < ((L.length : Nat) : Int)) := by omega
    clear hfew hn4
    go_enter Try.func3, Try.ntmps3
    go_wp2_with fail
    refine HC.out.mono ?_
    rintro e w1 ⟨hb1, (⟨q, pv, rfl, hpi, hg, hmin⟩ | ⟨rfl, hno⟩)⟩
    · have HPI := hide hpi
      have HGG := hide hg
      have HMIN := hide hmin
      obtain ⟨pp, pc, hpe⟩ := hpi.form
      subst hpe
      generalize (nI q).length = ql at *
      clear hpi hg hmin
      go_wp2_with fail
      refine (HG.out w1 hb1).mono ?_
      rintro e w2 ⟨rfl, rfl⟩
      go_wp2
      go_loopw [8, 9] (fun f i wr => ∃ k : Nat, k ≤ L.length ∧ i = .int .i64 k ∧ f = .int .i64 0 ∧ Below w1.heap.size w1 wr) (fun _ i _ => L.length - (intOf i).toNat)
      case atStart => exact ⟨0, by omega, rfl, rfl, Below.refl _ _⟩
      case round =>
        obtain ⟨k, hk, rfl, rfl, hbw1⟩ := hrel
        have hbw : Below w.heap.size w wr := hb1.trans (hbw1.mono hb1.size)
        by_cases hlt : k < L.length
        · obtain ⟨b, off, cap, he, hb3, hlc3, hcm3, hcell3⟩ := (HX.out.below hbw).cell (by omega)
          simp only [Value.slice.injEq] at he
          obtain ⟨rfl, _, rfl⟩ := he
          obtain ⟨qq, cc, hce, hint⟩ := hcell3 k hlt
          have hmem : L.getD k [] ∈ L := by rw [List.getD, List.getElem?_eq_getElem hlt]; exact List.getElem_mem hlt
          obtain ⟨r1, r2⟩ := HR.out _ hmem
          have HOR := hide (rorder_ok _ _ wr hint.out r1 (by omega) (by omega))
          have hgt := HO.out _ hmem
          clear hcell3 hint hmem r1 r2
          generalize L.getD k [] = x at *
          generalize x.length = xl at *
          go_wp2_with fail
          refine HOR.out.mono ?_
          rintro e w2 ⟨rfl, hb2⟩
          have hB2 := hbw1.trans (hb2.mono hbw1.size)
          have hgt2 : ¬ ((2 : Int) < ((ord x : Nat) : Int)) := by omega
          clear hb2 HOR hgt
          generalize ord x = z at *
          generalize odd x = z2 at *
          go_wp2
          go_roundw
          case rel => exact ⟨k + 1, by omega, by go_num, rfl, hB2⟩
          case measure => simp [intOf]; omega
        · go_wp2_with fail
          refine (rrounds_ok n wr (by omega)).mono ?_
          rintro e w3 ⟨r0, rfl, hr0, hb3⟩
          have hb13 := hbw1.trans (hb3.mono hbw1.size)
          have hB3 : Below w.heap.size w w3 := hbw.trans (hb3.mono hbw.size)
          have hA : Below w3.heap.size w3 (w3.alloc (.cells #[r0] 23)) := (Below.refl _ _).alloc (Nat.le_refl _) _
          have hRS : IntsAll (w3.alloc (.cells #[r0] 23)) (.slice (some ⟨w3.heap.size, 0, none⟩) 1 1) (RS n [0]) := by
            have h9 := (LL.one (X := rnd n) (by rw [rnd_length]; exact hr0) hb3.size).ints
            rw [show RS n [0] = [rnd n] from by simp [RS, rowAt_zero]]
            exact h9
          have HRC := hide (rcirc_ok n L h1 h4 hl HR.out (fct n - 1) [] 0 [] _ _ (.slice none 0 0) _ (by simp; omega) (by simp) (by intro x hx; simp at hx; omega) rfl ((HX.out.below hB3).below hA) hRS (Ints.nil _))
          have hBA : Below w.heap.size w (w3.alloc (.cells #[r0] 23)) := hB3.alloc hB3.size _
          have hb1A : Below w1.heap.size w1 (w3.alloc (.cells #[r0] 23)) := hb13.alloc hb13.size _
          have hsA := hBA.size
          have hs1A := hb1A.size
          obtain ⟨rp, rc, rfl⟩ := owns_slice hr0
          clear hr0 hRS hA hB3 hb13 hb3 hbw hbw1
          go_wp2_with fail
          refine HRC.out.mono ?_
          generalize w3.alloc (.cells #[.slice rp n rc] 23) = wa at *
          rintro e w4 ⟨hb4, (⟨q2, ov, rfl, hoi, hg2, hmin2⟩ | ⟨rfl, hno2⟩)⟩
          · obtain rfl : q = q2 := ltl_total q q2 (hmin2 q HGG.out) (HMIN.out q2 hg2)
            have HS := hide (same_any _ _ _ _ w4 (HPI.out.below (hb1A.trans (hb4.mono hs1A))) hoi)
            rw [List.nil_append, decide_eq_true rfl] at HS
            have hB4 := hBA.trans (hb4.mono hsA)
            obtain ⟨op, oc, rfl⟩ := hoi.form
            generalize ([] ++ nI q).length = ol at *
            clear hoi hg2 hmin2 hb4 HRC
            go_wp2_with fail
            refine HS.out.mono ?_
            rintro e w5 ⟨rfl, hb5⟩
            have hB5 := hB4.trans (hb5.mono hB4.size)
            clear hb5
            go_wp2
            go_ret
            exact ⟨rfl, hB5⟩
          · exact absurd HGG.out (hno2 q)
    · have HNO := hide hno
      clear hno
      go_wp2_with fail
      refine (HG.out w1 hb1).mono ?_
      rintro e w2 ⟨rfl, rfl⟩
      go_wp2
      go_loopw [8, 9] (fun f i wr => ∃ k : Nat, k ≤ L.length ∧ i = .int .i64 k ∧ f = .int .i64 0 ∧ Below w1.heap.size w1 wr) (fun _ i _ => L.length - (intOf i).toNat)
      case atStart => exact ⟨0, by omega, rfl, rfl, Below.refl _ _⟩
      case round =>
        obtain ⟨k, hk, rfl, rfl, hbw1⟩ := hrel
        have hbw : Below w.heap.size w wr := hb1.trans (hbw1.mono hb1.size)
        by_cases hlt : k < L.length
        · obtain ⟨b, off, cap, he, hb3, hlc3, hcm3, hcell3⟩ := (HX.out.below hbw).cell (by omega)
          simp only [Value.slice.injEq] at he
          obtain ⟨rfl, _, rfl⟩ := he
          obtain ⟨qq, cc, hce, hint⟩ := hcell3 k hlt
          have hmem : L.getD k [] ∈ L := by rw [List.getD, List.getElem?_eq_getElem hlt]; exact List.getElem_mem hlt
          obtain ⟨r1, r2⟩ := HR.out _ hmem
          have HOR := hide (rorder_ok _ _ wr hint.out r1 (by omega) (by omega))
          have hgt := HO.out _ hmem
          clear hcell3 hint hmem r1 r2
          generalize L.getD k [] = x at *
          generalize x.length = xl at *
          go_wp2_with fail
          refine HOR.out.mono ?_
          rintro e w2 ⟨rfl, hb2⟩
          have hB2 := hbw1.trans (hb2.mono hbw1.size)
          have hgt2 : ¬ ((2 : Int) < ((ord x : Nat) : Int)) := by omega
          clear hb2 HOR hgt
          generalize ord x = z at *
          generalize odd x = z2 at *
          go_wp2
          go_roundw
          case rel => exact ⟨k + 1, by omega, by go_num, rfl, hB2⟩
          case measure => simp [intOf]; omega
        · go_wp2_with fail
          refine (rrounds_ok n wr (by omega)).mono ?_
          rintro e w3 ⟨r0, rfl, hr0, hb3⟩
          have hb13 := hbw1.trans (hb3.mono hbw1.size)
          have hB3 : Below w.heap.size w w3 := hbw.trans (hb3.mono hbw.size)
          have hA : Below w3.heap.size w3 (w3.alloc (.cells #[r0] 23)) := (Below.refl _ _).alloc (Nat.le_refl _) _
          have hRS : IntsAll (w3.alloc (.cells #[r0] 23)) (.slice (some ⟨w3.heap.size, 0, none⟩) 1 1) (RS n [0]) := by
            have h9 := (LL.one (X := rnd n) (by rw [rnd_length]; exact hr0) hb3.size).ints
            rw [show RS n [0] = [rnd n] from by simp [RS, rowAt_zero]]
            exact h9
          have HRC := hide (rcirc_ok n L h1 h4 hl HR.out (fct n - 1) [] 0 [] _ _ (.slice none 0 0) _ (by simp; omega) (by simp) (by intro x hx; simp at hx; omega) rfl ((HX.out.below hB3).below hA) hRS (Ints.nil _))
          have hBA : Below w.heap.size w (w3.alloc (.cells #[r0] 23)) := hB3.alloc hB3.size _
          have hb1A : Below w1.heap.size w1 (w3.alloc (.cells #[r0] 23)) := hb13.alloc hb13.size _
          have hsA := hBA.size
          have hs1A := hb1A.size
          obtain ⟨rp, rc, rfl⟩ := owns_slice hr0
          clear hr0 hRS hA hB3 hb13 hb3 hbw hbw1
          go_wp2_with fail
          refine HRC.out.mono ?_
          generalize w3.alloc (.cells #[.slice rp n rc] 23) = wa at *
          rintro e w4 ⟨hb4, (⟨q2, ov, rfl, hoi, hg2, hmin2⟩ | ⟨rfl, hno2⟩)⟩
          · exact absurd hg2 (HNO.out q2)
          · have HS := hide (same_any _ _ _ _ w4 (Ints.nil w4) (Ints.nil w4))
            rw [decide_eq_true rfl] at HS
            have hB4 := hBA.trans (hb4.mono hsA)
            clear hno2 hb4 HRC
            go_wp2_with fail
            refine HS.out.mono ?_
            rintro e w5 ⟨rfl, hb5⟩
            have hB5 := hB4.trans (hb5.mono hB4.size)
            clear hb5
            go_wp2
            go_ret
            exact ⟨rfl, hB5⟩
  · have e4 : (((n : Nat) : Int) == 4) = false := by rw [beq_eq_false_iff_ne]; omega
    clear hfew hn4
    go_enter Try.func3, Try.ntmps3
    go_wp2_with fail
    refine HC.out.mono ?_
    rintro e w1 ⟨hb1, (⟨q, pv, rfl, hpi, hg, hmin⟩ | ⟨rfl, hno⟩)⟩
    · have HPI := hide hpi
      have HGG := hide hg
      have HMIN := hide hmin
      obtain ⟨pp, pc, hpe⟩ := hpi.form
      subst hpe
      generalize (nI q).length = ql at *
      clear hpi hg hmin
      go_wp2_with fail
      refine (HG.out w1 hb1).mono ?_
      rintro e w2 ⟨rfl, rfl⟩
      go_wp2
      go_loopw [8, 9] (fun f i wr => ∃ k : Nat, k ≤ L.length ∧ i = .int .i64 k ∧ f = .int .i64 0 ∧ Below w1.heap.size w1 wr) (fun _ i _ => L.length - (intOf i).toNat)
      case atStart => exact ⟨0, by omega, rfl, rfl, Below.refl _ _⟩
      case round =>
        obtain ⟨k, hk, rfl, rfl, hbw1⟩ := hrel
        have hbw : Below w.heap.size w wr := hb1.trans (hbw1.mono hb1.size)
        by_cases hlt : k < L.length
        · obtain ⟨b, off, cap, he, hb3, hlc3, hcm3, hcell3⟩ := (HX.out.below hbw).cell (by omega)
          simp only [Value.slice.injEq] at he
          obtain ⟨rfl, _, rfl⟩ := he
          obtain ⟨qq, cc, hce, hint⟩ := hcell3 k hlt
          have hmem : L.getD k [] ∈ L := by rw [List.getD, List.getElem?_eq_getElem hlt]; exact List.getElem_mem hlt
          obtain ⟨r1, r2⟩ := HR.out _ hmem
          have HOR := hide (rorder_ok _ _ wr hint.out r1 (by omega) (by omega))
          have hgt := HO.out _ hmem
          clear hcell3 hint hmem r1 r2
          generalize L.getD k [] = x at *
          generalize x.length = xl at *
          go_wp2_with fail
          refine HOR.out.mono ?_
          rintro e w2 ⟨rfl, hb2⟩
          have hB2 := hbw1.trans (hb2.mono hbw1.size)
          have hgt2 : ¬ ((2 : Int) < ((ord x : Nat) : Int)) := by omega
          clear hb2 HOR hgt
          generalize ord x = z at *
          generalize odd x = z2 at *
          go_wp2
          go_roundw
          case rel => exact ⟨k + 1, by omega, by go_num, rfl, hB2⟩
          case measure => simp [intOf]; omega
        · go_wp2_with fail
          refine (rrounds_ok n wr (by omega)).mono ?_
          rintro e w3 ⟨r0, rfl, hr0, hb3⟩
          have hb13 := hbw1.trans (hb3.mono hbw1.size)
          have hB3 : Below w.heap.size w w3 := hbw.trans (hb3.mono hbw.size)
          have hA : Below w3.heap.size w3 (w3.alloc (.cells #[r0] 23)) := (Below.refl _ _).alloc (Nat.le_refl _) _
          have hRS : IntsAll (w3.alloc (.cells #[r0] 23)) (.slice (some ⟨w3.heap.size, 0, none⟩) 1 1) (RS n [0]) := by
            have h9 := (LL.one (X := rnd n) (by rw [rnd_length]; exact hr0) hb3.size).ints
            rw [show RS n [0] = [rnd n] from by simp [RS, rowAt_zero]]
            exact h9
          have HRC := hide (rcirc_ok n L h1 h4 hl HR.out (fct n - 1) [] 0 [] _ _ (.slice none 0 0) _ (by simp; omega) (by simp) (by intro x hx; simp at hx; omega) rfl ((HX.out.below hB3).below hA) hRS (Ints.nil _))
          have hBA : Below w.heap.size w (w3.alloc (.cells #[r0] 23)) := hB3.alloc hB3.size _
          have hb1A : Below w1.heap.size w1 (w3.alloc (.cells #[r0] 23)) := hb13.alloc hb13.size _
          have hsA := hBA.size
          have hs1A := hb1A.size
          obtain ⟨rp, rc, rfl⟩ := owns_slice hr0
          clear hr0 hRS hA hB3 hb13 hb3 hbw hbw1
          go_wp2_with fail
          refine HRC.out.mono ?_
          generalize w3.alloc (.cells #[.slice rp n rc] 23) = wa at *
          rintro e w4 ⟨hb4, (⟨q2, ov, rfl, hoi, hg2, hmin2⟩ | ⟨rfl, hno2⟩)⟩
          · obtain rfl : q = q2 := ltl_total q q2 (hmin2 q HGG.out) (HMIN.out q2 hg2)
            have HS := hide (same_any _ _ _ _ w4 (HPI.out.below (hb1A.trans (hb4.mono hs1A))) hoi)
            rw [List.nil_append, decide_eq_true rfl] at HS
            have hB4 := hBA.trans (hb4.mono hsA)
            obtain ⟨op, oc, rfl⟩ := hoi.form
            generalize ([] ++ nI q).length = ol at *
            clear hoi hg2 hmin2 hb4 HRC
            go_wp2_with fail
            refine HS.out.mono ?_
            rintro e w5 ⟨rfl, hb5⟩
            have hB5 := hB4.trans (hb5.mono hB4.size)
            clear hb5
            go_wp2
            go_ret
            exact ⟨rfl, hB5⟩
          · exact absurd HGG.out (hno2 q)
    · have HNO := hide hno
      clear hno
      go_wp2_with fail
      refine (HG.out w1 hb1).mono ?_
      rintro e w2 ⟨rfl, rfl⟩
      go_wp2
      go_loopw [8, 9] (fun f i wr => ∃ k : Nat, k ≤ L.length ∧ i = .int .i64 k ∧ f = .int .i64 0 ∧ Below w1.heap.size w1 wr) (fun _ i _ => L.length - (intOf i).toNat)
      case atStart => exact ⟨0, by omega, rfl, rfl, Below.refl _ _⟩
      case round =>
        obtain ⟨k, hk, rfl, rfl, hbw1⟩ := hrel
        have hbw : Below w.heap.size w wr := hb1.trans (hbw1.mono hb1.size)
        by_cases hlt : k < L.length
        · obtain ⟨b, off, cap, he, hb3, hlc3, hcm3, hcell3⟩ := (HX.out.below hbw).cell (by omega)
          simp only [Value.slice.injEq] at he
          obtain ⟨rfl, _, rfl⟩ := he
          obtain ⟨qq, cc, hce, hint⟩ := hcell3 k hlt
          have hmem : L.getD k [] ∈ L := by rw [List.getD, List.getElem?_eq_getElem hlt]; exact List.getElem_mem hlt
          obtain ⟨r1, r2⟩ := HR.out _ hmem
          have HOR := hide (rorder_ok _ _ wr hint.out r1 (by omega) (by omega))
          have hgt := HO.out _ hmem
          clear hcell3 hint hmem r1 r2
          generalize L.getD k [] = x at *
          generalize x.length = xl at *
          go_wp2_with fail
          refine HOR.out.mono ?_
          rintro e w2 ⟨rfl, hb2⟩
          have hB2 := hbw1.trans (hb2.mono hbw1.size)
          have hgt2 : ¬ ((2 : Int) < ((ord x : Nat) : Int)) := by omega
          clear hb2 HOR hgt
          generalize ord x = z at *
          generalize odd x = z2 at *
          go_wp2
          go_roundw
          case rel => exact ⟨k + 1, by omega, by go_num, rfl, hB2⟩
          case measure => simp [intOf]; omega
        · go_wp2_with fail
          refine (rrounds_ok n wr (by omega)).mono ?_
          rintro e w3 ⟨r0, rfl, hr0, hb3⟩
          have hb13 := hbw1.trans (hb3.mono hbw1.size)
          have hB3 : Below w.heap.size w w3 := hbw.trans (hb3.mono hbw.size)
          have hA : Below w3.heap.size w3 (w3.alloc (.cells #[r0] 23)) := (Below.refl _ _).alloc (Nat.le_refl _) _
          have hRS : IntsAll (w3.alloc (.cells #[r0] 23)) (.slice (some ⟨w3.heap.size, 0, none⟩) 1 1) (RS n [0]) := by
            have h9 := (LL.one (X := rnd n) (by rw [rnd_length]; exact hr0) hb3.size).ints
            rw [show RS n [0] = [rnd n] from by simp [RS, rowAt_zero]]
            exact h9
          have HRC := hide (rcirc_ok n L h1 h4 hl HR.out (fct n - 1) [] 0 [] _ _ (.slice none 0 0) _ (by simp; omega) (by simp) (by intro x hx; simp at hx; omega) rfl ((HX.out.below hB3).below hA) hRS (Ints.nil _))
          have hBA : Below w.heap.size w (w3.alloc (.cells #[r0] 23)) := hB3.alloc hB3.size _
          have hb1A : Below w1.heap.size w1 (w3.alloc (.cells #[r0] 23)) := hb13.alloc hb13.size _
          have hsA := hBA.size
          have hs1A := hb1A.size
          obtain ⟨rp, rc, rfl⟩ := owns_slice hr0
          clear hr0 hRS hA hB3 hb13 hb3 hbw hbw1
          go_wp2_with fail
          refine HRC.out.mono ?_
          generalize w3.alloc (.cells #[.slice rp n rc] 23) = wa at *
          rintro e w4 ⟨hb4, (⟨q2, ov, rfl, hoi, hg2, hmin2⟩ | ⟨rfl, hno2⟩)⟩
          · exact absurd hg2 (HNO.out q2)
          · have HS := hide (same_any _ _ _ _ w4 (Ints.nil w4) (Ints.nil w4))
            rw [decide_eq_true rfl] at HS
            have hB4 := hBA.trans (hb4.mono hsA)
            clear hno2 hb4 HRC
            go_wp2_with fail
            refine HS.out.mono ?_
            rintro e w5 ⟨rfl, hb5⟩
            have hB5 := hB4.trans (hb5.mono hB4.size)
            clear hb5
            go_wp2
            go_ret
            exact ⟨rfl, hB5⟩

theorem extentCircuits_walk (n : Int) (v : Value) (L : List (List Int)) (w : World) (hn : I64 n) (hX : IntsAll w v L) :
    Calls Try.prog 3 #[.int .i64 n, v] w fun e w' => e = .returned (.bool true) ∧ Below w.heap.size w w' := by
  by_cases hr : n < 1 ∨ 4 < n
  · exact ec_count n v L w hX hr
  obtain ⟨m, rfl⟩ := Int.eq_ofNat_of_zero_le (show 0 ≤ n by omega)
  have m1 : 1 ≤ m := by omega
  have m4 : m ≤ 4 := by omega
  by_cases hl : 8 < L.length
  · exact ec_many m v L w m1 m4 hX hl
  by_cases hf : m = 4 ∧ 3 < L.length
  · rw [hf.1]
    exact ec_skip v L w hX hf.2 (by omega)
  have hfew : m = 4 → L.length ≤ 3 := fun h => by
    by_cases h3 : 3 < L.length
    · exact absurd ⟨h, h3⟩ hf
    · omega
  by_cases hg : gchk m L = 0
  · have hR := gchk_zero hg
    by_cases ho : ∃ x, x ∈ L ∧ 2 < ord x
    · exact ec_place m v L w m1 m4 hX (by omega) hfew hR ho
    · exact ec_good m v L w m1 m4 hX (by omega) hfew hR (fun x hx => by
        by_cases h2 : 2 < ord x
        · exact absurd ⟨x, hx, h2⟩ ho
        · omega)
  · exact ec_refused m v L (gchk m L) w m1 m4 hX (by omega) hfew hg
      (circuit_refuses m v L _ w hX hg (checkCircuit_refuses m v L _ w m1 m4 hX hg (gcheck_ok m v L w hX m1 (by omega) (by omega))))
      (fun W hW => gensMay_ok m v L W (hX.below hW) m1 (by omega) (by omega))

end Go.Proofs.Ytnmjgepobcanfaa
