/- Contract: (*reader).take of a rune that is no sign. (Written by mktk2.py.) -/
import Derived.Test.YtgglbafcocbhbaaRd6
namespace Go.Proofs.Ytgglbafcocbhbaa
open Go.RowKit

theorem take_split (n : Int) (st : RS) (c : Nat) : Hid ((st.endSigns n).1 = 0 → st.take n c (-1) = (st.endSigns n).2.other n c) ∧ Hid ((st.endSigns n).1 ≠ 0 → st.take n c (-1) = st.endSigns n) := by
  constructor
  · intro h; unfold RS.take; rw [if_neg (by decide), if_pos h]
  · intro h; unfold RS.take; rw [if_neg (by decide), if_neg h]

set_option maxRecDepth 20000 in
set_option maxHeartbeats 4000000 in
theorem take_x (R : Nat) (n : Int) (k : Nat) (st : RS) (w : World) (h : Rd w R n st) (hf : RS.Fine k st) (hk : k ≤ 5000) (hn1 : 1 ≤ n) (hn2 : n ≤ 12) :
    Calls Try.prog 51 #[.pointer (some ⟨R, 0, none⟩), .int .i32 (120 : Nat)] w fun e w' => Goes w R n (st.take n 120 (-1)) e w' := by
  obtain ⟨HTk, HTb⟩ := take_split n st 120
  have HIX := hide (indexRune_any 120 w (by omega) (by omega))
  rw [show si 120 = -1 from by decide +kernel] at HIX
  have hF1 : (st.endSigns n).1 = 0 → RS.Fine k (st.endSigns n).2 ∧ (st.endSigns n).2.opn = [] := fun h0 => hf.endSigns h0
  have HF1 := hide hF1
  have hRl : R < w.heap.size := by obtain ⟨_, _, _, _, _, _, h'⟩ := h; exact h'.lt
  have HES := hide (fun W (hb : Below w.heap.size w W) => endSigns_any R n st W (by obtain ⟨D, av, bv, ov, avs, bvs, h'⟩ := h; exact ⟨D, av, bv, ov, avs, bvs, h'.later hb⟩) hn1 hn2 (Nat.le_trans hf.block (by omega)) hf.signs (Nat.le_trans hf.opn hk))
  clear h hf hF1
  go_enter Try.func51, Try.ntmps51
  go_wp2_with fail
  refine HIX.out.mono ?_
  rintro e w1 ⟨rfl, hb1⟩
  have hB1 : Bel R w w1 := Bel.of hb1 (by omega)
  have HE1 := hide (HES.out w1 hb1)
  clear HIX HES hb1
  go_wp2_with fail
  refine HE1.out.mono ?_
  rintro e w2 hgo
  have hB2 : Bel R w w2 := hB1.trans hgo.1
  rcases hgo.2 with ⟨h0, he, hR2⟩ | ⟨h0, he⟩
  · subst he
    have HT := hide (HTk.out h0)
    obtain ⟨hFi, hop⟩ := HF1.out h0
    have HFi := hide hFi
    have HOp := hide hop
    have HR2 := hide hR2
    generalize (st.endSigns n).2 = st2 at *
    clear hgo hFi hop HE1 HTk HTb HF1 hR2 hB1
    obtain ⟨D2, av, bv, ov, avs, bvs, h2⟩ := HR2.out
    obtain rfl := h2.nilo HOp.out
    have HAD := hide (add_any R D2 n av bv avs bvs st2 (.slice none 0 0) [] w2 h2 HOp.out hn1 hn2 (by rw [h2.block.len]; exact Nat.le_trans HFi.out.block (by omega)) (World.ownsRow_nil _ _ _ _))
    have hF : Hid (st.take n 120 (-1) = st2.add n []) := by show _ = _; rw [HT.out]; rfl
    clear h2 HR2
    go_wp2_with fail
    refine HAD.out.mono ?_
    rintro e w6 hgo
    have hgo2 : Goes w R n (st.take n 120 (-1)) e w6 := by rw [hF.out]; exact hgo.after hB2
    have HG := hide hgo2
    rcases hgo2.2 with ⟨_, he, _⟩ | ⟨_, he⟩
    · subst he
      clear hgo hgo2
      go_wp2
      first
        | exact bodyPost_end (results_none rfl _ _ _) rfl HG.out
        | exact bodyPost_ret (results_none rfl _ _ _) rfl HG.out
    · subst he
      clear hgo hgo2
      unfold thrown
      go_wp2
      exact ⟨rfl, HG.out⟩
  · subst he
    have HG : Hid (Goes w R n (st.take n 120 (-1)) (thrown (st.endSigns n).1) w2) := Goes.bad (by rw [HTb.out h0]) h0 hB2
    clear hgo HE1
    generalize (st.endSigns n).1 = code at *
    unfold thrown
    go_wp2
    exact ⟨rfl, HG.out⟩

set_option maxRecDepth 20000 in
set_option maxHeartbeats 4000000 in
theorem take_X (R : Nat) (n : Int) (k : Nat) (st : RS) (w : World) (h : Rd w R n st) (hf : RS.Fine k st) (hk : k ≤ 5000) (hn1 : 1 ≤ n) (hn2 : n ≤ 12) :
    Calls Try.prog 51 #[.pointer (some ⟨R, 0, none⟩), .int .i32 (88 : Nat)] w fun e w' => Goes w R n (st.take n 88 (-1)) e w' := by
  obtain ⟨HTk, HTb⟩ := take_split n st 88
  have HIX := hide (indexRune_any 88 w (by omega) (by omega))
  rw [show si 88 = -1 from by decide +kernel] at HIX
  have hF1 : (st.endSigns n).1 = 0 → RS.Fine k (st.endSigns n).2 ∧ (st.endSigns n).2.opn = [] := fun h0 => hf.endSigns h0
  have HF1 := hide hF1
  have hRl : R < w.heap.size := by obtain ⟨_, _, _, _, _, _, h'⟩ := h; exact h'.lt
  have HES := hide (fun W (hb : Below w.heap.size w W) => endSigns_any R n st W (by obtain ⟨D, av, bv, ov, avs, bvs, h'⟩ := h; exact ⟨D, av, bv, ov, avs, bvs, h'.later hb⟩) hn1 hn2 (Nat.le_trans hf.block (by omega)) hf.signs (Nat.le_trans hf.opn hk))
  clear h hf hF1
  go_enter Try.func51, Try.ntmps51
  go_wp2_with fail
  refine HIX.out.mono ?_
  rintro e w1 ⟨rfl, hb1⟩
  have hB1 : Bel R w w1 := Bel.of hb1 (by omega)
  have HE1 := hide (HES.out w1 hb1)
  clear HIX HES hb1
  go_wp2_with fail
  refine HE1.out.mono ?_
  rintro e w2 hgo
  have hB2 : Bel R w w2 := hB1.trans hgo.1
  rcases hgo.2 with ⟨h0, he, hR2⟩ | ⟨h0, he⟩
  · subst he
    have HT := hide (HTk.out h0)
    obtain ⟨hFi, hop⟩ := HF1.out h0
    have HFi := hide hFi
    have HOp := hide hop
    have HR2 := hide hR2
    generalize (st.endSigns n).2 = st2 at *
    clear hgo hFi hop HE1 HTk HTb HF1 hR2 hB1
    obtain ⟨D2, av, bv, ov, avs, bvs, h2⟩ := HR2.out
    obtain rfl := h2.nilo HOp.out
    have HAD := hide (add_any R D2 n av bv avs bvs st2 (.slice none 0 0) [] w2 h2 HOp.out hn1 hn2 (by rw [h2.block.len]; exact Nat.le_trans HFi.out.block (by omega)) (World.ownsRow_nil _ _ _ _))
    have hF : Hid (st.take n 88 (-1) = st2.add n []) := by show _ = _; rw [HT.out]; rfl
    clear h2 HR2
    go_wp2_with fail
    refine HAD.out.mono ?_
    rintro e w6 hgo
    have hgo2 : Goes w R n (st.take n 88 (-1)) e w6 := by rw [hF.out]; exact hgo.after hB2
    have HG := hide hgo2
    rcases hgo2.2 with ⟨_, he, _⟩ | ⟨_, he⟩
    · subst he
      clear hgo hgo2
      go_wp2
      first
        | exact bodyPost_end (results_none rfl _ _ _) rfl HG.out
        | exact bodyPost_ret (results_none rfl _ _ _) rfl HG.out
    · subst he
      clear hgo hgo2
      unfold thrown
      go_wp2
      exact ⟨rfl, HG.out⟩
  · subst he
    have HG : Hid (Goes w R n (st.take n 88 (-1)) (thrown (st.endSigns n).1) w2) := Goes.bad (by rw [HTb.out h0]) h0 hB2
    clear hgo HE1
    generalize (st.endSigns n).1 = code at *
    unfold thrown
    go_wp2
    exact ⟨rfl, HG.out⟩

set_option maxRecDepth 20000 in
set_option maxHeartbeats 4000000 in
theorem take_dash (R : Nat) (n : Int) (k : Nat) (st : RS) (w : World) (h : Rd w R n st) (hf : RS.Fine k st) (hk : k ≤ 5000) (hn1 : 1 ≤ n) (hn2 : n ≤ 12) :
    Calls Try.prog 51 #[.pointer (some ⟨R, 0, none⟩), .int .i32 (45 : Nat)] w fun e w' => Goes w R n (st.take n 45 (-1)) e w' := by
  obtain ⟨HTk, HTb⟩ := take_split n st 45
  have HIX := hide (indexRune_any 45 w (by omega) (by omega))
  rw [show si 45 = -1 from by decide +kernel] at HIX
  have hF1 : (st.endSigns n).1 = 0 → RS.Fine k (st.endSigns n).2 ∧ (st.endSigns n).2.opn = [] := fun h0 => hf.endSigns h0
  have HF1 := hide hF1
  have hRl : R < w.heap.size := by obtain ⟨_, _, _, _, _, _, h'⟩ := h; exact h'.lt
  have HES := hide (fun W (hb : Below w.heap.size w W) => endSigns_any R n st W (by obtain ⟨D, av, bv, ov, avs, bvs, h'⟩ := h; exact ⟨D, av, bv, ov, avs, bvs, h'.later hb⟩) hn1 hn2 (Nat.le_trans hf.block (by omega)) hf.signs (Nat.le_trans hf.opn hk))
  clear h hf hF1
  go_enter Try.func51, Try.ntmps51
  go_wp2_with fail
  refine HIX.out.mono ?_
  rintro e w1 ⟨rfl, hb1⟩
  have hB1 : Bel R w w1 := Bel.of hb1 (by omega)
  have HE1 := hide (HES.out w1 hb1)
  clear HIX HES hb1
  go_wp2_with fail
  refine HE1.out.mono ?_
  rintro e w2 hgo
  have hB2 : Bel R w w2 := hB1.trans hgo.1
  rcases hgo.2 with ⟨h0, he, hR2⟩ | ⟨h0, he⟩
  · subst he
    have HT := hide (HTk.out h0)
    obtain ⟨hFi, hop⟩ := HF1.out h0
    have HFi := hide hFi
    have HOp := hide hop
    have HR2 := hide hR2
    generalize (st.endSigns n).2 = st2 at *
    clear hgo hFi hop HE1 HTk HTb HF1 hR2 hB1
    obtain ⟨D2, av, bv, ov, avs, bvs, h2⟩ := HR2.out
    obtain rfl := h2.nilo HOp.out
    have HAD := hide (add_any R D2 n av bv avs bvs st2 (.slice none 0 0) [] w2 h2 HOp.out hn1 hn2 (by rw [h2.block.len]; exact Nat.le_trans HFi.out.block (by omega)) (World.ownsRow_nil _ _ _ _))
    have hF : Hid (st.take n 45 (-1) = st2.add n []) := by show _ = _; rw [HT.out]; rfl
    clear h2 HR2
    go_wp2_with fail
    refine HAD.out.mono ?_
    rintro e w6 hgo
    have hgo2 : Goes w R n (st.take n 45 (-1)) e w6 := by rw [hF.out]; exact hgo.after hB2
    have HG := hide hgo2
    rcases hgo2.2 with ⟨_, he, _⟩ | ⟨_, he⟩
    · subst he
      clear hgo hgo2
      go_wp2
      first
        | exact bodyPost_end (results_none rfl _ _ _) rfl HG.out
        | exact bodyPost_ret (results_none rfl _ _ _) rfl HG.out
    · subst he
      clear hgo hgo2
      unfold thrown
      go_wp2
      exact ⟨rfl, HG.out⟩
  · subst he
    have HG : Hid (Goes w R n (st.take n 45 (-1)) (thrown (st.endSigns n).1) w2) := Goes.bad (by rw [HTb.out h0]) h0 hB2
    clear hgo HE1
    generalize (st.endSigns n).1 = code at *
    unfold thrown
    go_wp2
    exact ⟨rfl, HG.out⟩

set_option maxRecDepth 20000 in
set_option maxHeartbeats 4000000 in
theorem take_cross (R : Nat) (n : Int) (k : Nat) (st : RS) (w : World) (h : Rd w R n st) (hf : RS.Fine k st) (hk : k ≤ 5000) (hn1 : 1 ≤ n) (hn2 : n ≤ 12) :
    Calls Try.prog 51 #[.pointer (some ⟨R, 0, none⟩), .int .i32 (215 : Nat)] w fun e w' => Goes w R n (st.take n 215 (-1)) e w' := by
  obtain ⟨HTk, HTb⟩ := take_split n st 215
  have HIX := hide (indexRune_any 215 w (by omega) (by omega))
  rw [show si 215 = -1 from by decide +kernel] at HIX
  have hF1 : (st.endSigns n).1 = 0 → RS.Fine k (st.endSigns n).2 ∧ (st.endSigns n).2.opn = [] := fun h0 => hf.endSigns h0
  have HF1 := hide hF1
  have hRl : R < w.heap.size := by obtain ⟨_, _, _, _, _, _, h'⟩ := h; exact h'.lt
  have HES := hide (fun W (hb : Below w.heap.size w W) => endSigns_any R n st W (by obtain ⟨D, av, bv, ov, avs, bvs, h'⟩ := h; exact ⟨D, av, bv, ov, avs, bvs, h'.later hb⟩) hn1 hn2 (Nat.le_trans hf.block (by omega)) hf.signs (Nat.le_trans hf.opn hk))
  clear h hf hF1
  go_enter Try.func51, Try.ntmps51
  go_wp2_with fail
  refine HIX.out.mono ?_
  rintro e w1 ⟨rfl, hb1⟩
  have hB1 : Bel R w w1 := Bel.of hb1 (by omega)
  have HE1 := hide (HES.out w1 hb1)
  clear HIX HES hb1
  go_wp2_with fail
  refine HE1.out.mono ?_
  rintro e w2 hgo
  have hB2 : Bel R w w2 := hB1.trans hgo.1
  rcases hgo.2 with ⟨h0, he, hR2⟩ | ⟨h0, he⟩
  · subst he
    have HT := hide (HTk.out h0)
    obtain ⟨hFi, hop⟩ := HF1.out h0
    have HFi := hide hFi
    have HOp := hide hop
    have HR2 := hide hR2
    generalize (st.endSigns n).2 = st2 at *
    clear hgo hFi hop HE1 HTk HTb HF1 hR2 hB1
    obtain ⟨D2, av, bv, ov, avs, bvs, h2⟩ := HR2.out
    obtain rfl := h2.nilo HOp.out
    have HAD := hide (add_any R D2 n av bv avs bvs st2 (.slice none 0 0) [] w2 h2 HOp.out hn1 hn2 (by rw [h2.block.len]; exact Nat.le_trans HFi.out.block (by omega)) (World.ownsRow_nil _ _ _ _))
    have hF : Hid (st.take n 215 (-1) = st2.add n []) := by show _ = _; rw [HT.out]; rfl
    clear h2 HR2
    go_wp2_with fail
    refine HAD.out.mono ?_
    rintro e w6 hgo
    have hgo2 : Goes w R n (st.take n 215 (-1)) e w6 := by rw [hF.out]; exact hgo.after hB2
    have HG := hide hgo2
    rcases hgo2.2 with ⟨_, he, _⟩ | ⟨_, he⟩
    · subst he
      clear hgo hgo2
      go_wp2
      first
        | exact bodyPost_end (results_none rfl _ _ _) rfl HG.out
        | exact bodyPost_ret (results_none rfl _ _ _) rfl HG.out
    · subst he
      clear hgo hgo2
      unfold thrown
      go_wp2
      exact ⟨rfl, HG.out⟩
  · subst he
    have HG : Hid (Goes w R n (st.take n 215 (-1)) (thrown (st.endSigns n).1) w2) := Goes.bad (by rw [HTb.out h0]) h0 hB2
    clear hgo HE1
    generalize (st.endSigns n).1 = code at *
    unfold thrown
    go_wp2
    exact ⟨rfl, HG.out⟩

set_option maxRecDepth 20000 in
set_option maxHeartbeats 4000000 in
theorem take_dot (R : Nat) (n : Int) (k : Nat) (st : RS) (w : World) (h : Rd w R n st) (hf : RS.Fine k st) (hk : k ≤ 5000) (hn1 : 1 ≤ n) (hn2 : n ≤ 12) :
    Calls Try.prog 51 #[.pointer (some ⟨R, 0, none⟩), .int .i32 (46 : Nat)] w fun e w' => Goes w R n (st.take n 46 (-1)) e w' := by
  obtain ⟨HTk, HTb⟩ := take_split n st 46
  have HIX := hide (indexRune_any 46 w (by omega) (by omega))
  rw [show si 46 = -1 from by decide +kernel] at HIX
  have hF1 : (st.endSigns n).1 = 0 → RS.Fine k (st.endSigns n).2 ∧ (st.endSigns n).2.opn = [] := fun h0 => hf.endSigns h0
  have HF1 := hide hF1
  have hRl : R < w.heap.size := by obtain ⟨_, _, _, _, _, _, h'⟩ := h; exact h'.lt
  have HES := hide (fun W (hb : Below w.heap.size w W) => endSigns_any R n st W (by obtain ⟨D, av, bv, ov, avs, bvs, h'⟩ := h; exact ⟨D, av, bv, ov, avs, bvs, h'.later hb⟩) hn1 hn2 (Nat.le_trans hf.block (by omega)) hf.signs (Nat.le_trans hf.opn hk))
  clear h hf hF1
  go_enter Try.func51, Try.ntmps51
  go_wp2_with fail
  refine HIX.out.mono ?_
  rintro e w1 ⟨rfl, hb1⟩
  have hB1 : Bel R w w1 := Bel.of hb1 (by omega)
  have HE1 := hide (HES.out w1 hb1)
  clear HIX HES hb1
  go_wp2_with fail
  refine HE1.out.mono ?_
  rintro e w2 hgo
  have hB2 : Bel R w w2 := hB1.trans hgo.1
  rcases hgo.2 with ⟨h0, he, hR2⟩ | ⟨h0, he⟩
  · subst he
    have HT := hide (HTk.out h0)
    obtain ⟨hFi, hop⟩ := HF1.out h0
    have HFi := hide hFi
    have HOp := hide hop
    have HR2 := hide hR2
    generalize (st.endSigns n).2 = st2 at *
    clear hgo hFi hop HE1 HTk HTb HF1 hR2 hB1
    have HN := hide (needChange_any R n 4 st2 w2 HR2.out)
    go_wp2_with fail
    refine HN.out.mono ?_
    rintro e w' ⟨rfl, rfl⟩
    by_cases hne : st2.needs = true
    · rw [if_pos hne]
      have hF : Hid ((st.take n 46 (-1)).1 = 4) := by show _ = _; rw [HT.out]; show (RS.other n st2 46).1 = 4; unfold RS.other; simp [hne]
      unfold thrown
      go_wp2
      exact ⟨rfl, Goes.bad hF.out (by decide) hB2⟩
    · rw [if_neg hne]
      have hF : Hid (st.take n 46 (-1) = (0, { st2 with dot := true })) := by show _ = _; rw [HT.out]; show RS.other n st2 46 = _; unfold RS.other; simp [hne]
      obtain ⟨D2, av, bv, ov, avs, bvs, h2⟩ := HR2.out
      have c6 := (cells7 h2.blk).2.2.2.2.2.2
      have f6 := frozen7 h2.blk 6
      have hR3 := h2.flags st2.marked st2.mirrored true 6 (.bool true) rfl
      have HR3 := hide hR3
      have hB3 : Bel R w (w2.setCell ⟨R, 6, none⟩ (.bool true)) := hB2.setCell (p := ⟨R, 6, none⟩) (Nat.le_refl _) _
      clear h2 hR3 HN
      go_wp2
      first
        | exact bodyPost_end (results_none rfl _ _ _) rfl (Goes.ok hF.out hB3 ⟨_, _, _, _, _, _, HR3.out⟩)
        | exact bodyPost_ret (results_none rfl _ _ _) rfl (Goes.ok hF.out hB3 ⟨_, _, _, _, _, _, HR3.out⟩)
  · subst he
    have HG : Hid (Goes w R n (st.take n 46 (-1)) (thrown (st.endSigns n).1) w2) := Goes.bad (by rw [HTb.out h0]) h0 hB2
    clear hgo HE1
    generalize (st.endSigns n).1 = code at *
    unfold thrown
    go_wp2
    exact ⟨rfl, HG.out⟩

set_option maxRecDepth 20000 in
set_option maxHeartbeats 4000000 in
theorem take_comma (R : Nat) (n : Int) (k : Nat) (st : RS) (w : World) (h : Rd w R n st) (hf : RS.Fine k st) (hk : k ≤ 5000) (hn1 : 1 ≤ n) (hn2 : n ≤ 12) :
    Calls Try.prog 51 #[.pointer (some ⟨R, 0, none⟩), .int .i32 (44 : Nat)] w fun e w' => Goes w R n (st.take n 44 (-1)) e w' := by
  obtain ⟨HTk, HTb⟩ := take_split n st 44
  have HIX := hide (indexRune_any 44 w (by omega) (by omega))
  rw [show si 44 = -1 from by decide +kernel] at HIX
  have hF1 : (st.endSigns n).1 = 0 → RS.Fine k (st.endSigns n).2 ∧ (st.endSigns n).2.opn = [] := fun h0 => hf.endSigns h0
  have HF1 := hide hF1
  have hRl : R < w.heap.size := by obtain ⟨_, _, _, _, _, _, h'⟩ := h; exact h'.lt
  have HES := hide (fun W (hb : Below w.heap.size w W) => endSigns_any R n st W (by obtain ⟨D, av, bv, ov, avs, bvs, h'⟩ := h; exact ⟨D, av, bv, ov, avs, bvs, h'.later hb⟩) hn1 hn2 (Nat.le_trans hf.block (by omega)) hf.signs (Nat.le_trans hf.opn hk))
  clear h hf hF1
  go_enter Try.func51, Try.ntmps51
  go_wp2_with fail
  refine HIX.out.mono ?_
  rintro e w1 ⟨rfl, hb1⟩
  have hB1 : Bel R w w1 := Bel.of hb1 (by omega)
  have HE1 := hide (HES.out w1 hb1)
  clear HIX HES hb1
  go_wp2_with fail
  refine HE1.out.mono ?_
  rintro e w2 hgo
  have hB2 : Bel R w w2 := hB1.trans hgo.1
  rcases hgo.2 with ⟨h0, he, hR2⟩ | ⟨h0, he⟩
  · subst he
    have HT := hide (HTk.out h0)
    obtain ⟨hFi, hop⟩ := HF1.out h0
    have HFi := hide hFi
    have HOp := hide hop
    have HR2 := hide hR2
    generalize (st.endSigns n).2 = st2 at *
    clear hgo hFi hop HE1 HTk HTb HF1 hR2 hB1
    have HN := hide (needChange_any R n 4 st2 w2 HR2.out)
    go_wp2_with fail
    refine HN.out.mono ?_
    rintro e w' ⟨rfl, rfl⟩
    by_cases hne : st2.needs = true
    · rw [if_pos hne]
      have hF : Hid ((st.take n 44 (-1)).1 = 4) := by show _ = _; rw [HT.out]; show (RS.other n st2 44).1 = 4; unfold RS.other; simp [hne]
      unfold thrown
      go_wp2
      exact ⟨rfl, Goes.bad hF.out (by decide) hB2⟩
    · rw [if_neg hne]
      have hF : Hid (st.take n 44 (-1) = st2.endBlock) := by show _ = _; rw [HT.out]; show RS.other n st2 44 = _; unfold RS.other; simp [hne]
      have hbn : 1 ≤ st2.block.length := by
        cases hb : st2.block with
        | nil => exfalso; apply hne; unfold RS.needs; rw [hb]; rfl
        | cons a l => simp
      have HAD := hide (endBlock_any R n st2 w2 HR2.out HOp.out ⟨hbn, Nat.le_trans HFi.out.block (by omega)⟩ (Nat.le_trans HFi.out.all (by omega)) (fun j => Nat.le_trans (HFi.out.inner j) (by omega)))
      clear HN HR2 hbn
      go_wp2_with fail
      refine HAD.out.mono ?_
      rintro e w6 hgo
      have hgo2 : Goes w R n (st.take n 44 (-1)) e w6 := by rw [hF.out]; exact hgo.after hB2
      have HG := hide hgo2
      rcases hgo2.2 with ⟨_, he, _⟩ | ⟨_, he⟩
      · subst he
        clear hgo hgo2
        go_wp2
        first
          | exact bodyPost_end (results_none rfl _ _ _) rfl HG.out
          | exact bodyPost_ret (results_none rfl _ _ _) rfl HG.out
      · subst he
        clear hgo hgo2
        unfold thrown
        go_wp2
        exact ⟨rfl, HG.out⟩
  · subst he
    have HG : Hid (Goes w R n (st.take n 44 (-1)) (thrown (st.endSigns n).1) w2) := Goes.bad (by rw [HTb.out h0]) h0 hB2
    clear hgo HE1
    generalize (st.endSigns n).1 = code at *
    unfold thrown
    go_wp2
    exact ⟨rfl, HG.out⟩

set_option maxRecDepth 20000 in
set_option maxHeartbeats 4000000 in
theorem take_and (R : Nat) (n : Int) (k : Nat) (st : RS) (w : World) (h : Rd w R n st) (hf : RS.Fine k st) (hk : k ≤ 5000) (hn1 : 1 ≤ n) (hn2 : n ≤ 12) :
    Calls Try.prog 51 #[.pointer (some ⟨R, 0, none⟩), .int .i32 (38 : Nat)] w fun e w' => Goes w R n (st.take n 38 (-1)) e w' := by
  obtain ⟨HTk, HTb⟩ := take_split n st 38
  have HIX := hide (indexRune_any 38 w (by omega) (by omega))
  rw [show si 38 = -1 from by decide +kernel] at HIX
  have hF1 : (st.endSigns n).1 = 0 → RS.Fine k (st.endSigns n).2 ∧ (st.endSigns n).2.opn = [] := fun h0 => hf.endSigns h0
  have HF1 := hide hF1
  have hRl : R < w.heap.size := by obtain ⟨_, _, _, _, _, _, h'⟩ := h; exact h'.lt
  have HES := hide (fun W (hb : Below w.heap.size w W) => endSigns_any R n st W (by obtain ⟨D, av, bv, ov, avs, bvs, h'⟩ := h; exact ⟨D, av, bv, ov, avs, bvs, h'.later hb⟩) hn1 hn2 (Nat.le_trans hf.block (by omega)) hf.signs (Nat.le_trans hf.opn hk))
  clear h hf hF1
  go_enter Try.func51, Try.ntmps51
  go_wp2_with fail
  refine HIX.out.mono ?_
  rintro e w1 ⟨rfl, hb1⟩
  have hB1 : Bel R w w1 := Bel.of hb1 (by omega)
  have HE1 := hide (HES.out w1 hb1)
  clear HIX HES hb1
  go_wp2_with fail
  refine HE1.out.mono ?_
  rintro e w2 hgo
  have hB2 : Bel R w w2 := hB1.trans hgo.1
  rcases hgo.2 with ⟨h0, he, hR2⟩ | ⟨h0, he⟩
  · subst he
    have HT := hide (HTk.out h0)
    obtain ⟨hFi, hop⟩ := HF1.out h0
    have HFi := hide hFi
    have HOp := hide hop
    have HR2 := hide hR2
    generalize (st.endSigns n).2 = st2 at *
    clear hgo hFi hop HE1 HTk HTb HF1 hR2 hB1
    have HAD := hide (mark_any R n true st2 w2 HR2.out)
    have hF : Hid (st.take n 38 (-1) = st2.mark true) := by show _ = _; rw [HT.out]; rfl
    clear HR2
    go_wp2_with fail
    refine HAD.out.mono ?_
    rintro e w6 hgo
    have hgo2 : Goes w R n (st.take n 38 (-1)) e w6 := by rw [hF.out]; exact hgo.after hB2
    have HG := hide hgo2
    rcases hgo2.2 with ⟨_, he, _⟩ | ⟨_, he⟩
    · subst he
      clear hgo hgo2
      go_wp2
      first
        | exact bodyPost_end (results_none rfl _ _ _) rfl HG.out
        | exact bodyPost_ret (results_none rfl _ _ _) rfl HG.out
    · subst he
      clear hgo hgo2
      unfold thrown
      go_wp2
      exact ⟨rfl, HG.out⟩
  · subst he
    have HG : Hid (Goes w R n (st.take n 38 (-1)) (thrown (st.endSigns n).1) w2) := Goes.bad (by rw [HTb.out h0]) h0 hB2
    clear hgo HE1
    generalize (st.endSigns n).1 = code at *
    unfold thrown
    go_wp2
    exact ⟨rfl, HG.out⟩

set_option maxRecDepth 20000 in
set_option maxHeartbeats 4000000 in
theorem take_plus (R : Nat) (n : Int) (k : Nat) (st : RS) (w : World) (h : Rd w R n st) (hf : RS.Fine k st) (hk : k ≤ 5000) (hn1 : 1 ≤ n) (hn2 : n ≤ 12) :
    Calls Try.prog 51 #[.pointer (some ⟨R, 0, none⟩), .int .i32 (43 : Nat)] w fun e w' => Goes w R n (st.take n 43 (-1)) e w' := by
  obtain ⟨HTk, HTb⟩ := take_split n st 43
  have HIX := hide (indexRune_any 43 w (by omega) (by omega))
  rw [show si 43 = -1 from by decide +kernel] at HIX
  have hF1 : (st.endSigns n).1 = 0 → RS.Fine k (st.endSigns n).2 ∧ (st.endSigns n).2.opn = [] := fun h0 => hf.endSigns h0
  have HF1 := hide hF1
  have hRl : R < w.heap.size := by obtain ⟨_, _, _, _, _, _, h'⟩ := h; exact h'.lt
  have HES := hide (fun W (hb : Below w.heap.size w W) => endSigns_any R n st W (by obtain ⟨D, av, bv, ov, avs, bvs, h'⟩ := h; exact ⟨D, av, bv, ov, avs, bvs, h'.later hb⟩) hn1 hn2 (Nat.le_trans hf.block (by omega)) hf.signs (Nat.le_trans hf.opn hk))
  clear h hf hF1
  go_enter Try.func51, Try.ntmps51
  go_wp2_with fail
  refine HIX.out.mono ?_
  rintro e w1 ⟨rfl, hb1⟩
  have hB1 : Bel R w w1 := Bel.of hb1 (by omega)
  have HE1 := hide (HES.out w1 hb1)
  clear HIX HES hb1
  go_wp2_with fail
  refine HE1.out.mono ?_
  rintro e w2 hgo
  have hB2 : Bel R w w2 := hB1.trans hgo.1
  rcases hgo.2 with ⟨h0, he, hR2⟩ | ⟨h0, he⟩
  · subst he
    have HT := hide (HTk.out h0)
    obtain ⟨hFi, hop⟩ := HF1.out h0
    have HFi := hide hFi
    have HOp := hide hop
    have HR2 := hide hR2
    generalize (st.endSigns n).2 = st2 at *
    clear hgo hFi hop HE1 HTk HTb HF1 hR2 hB1
    have HAD := hide (mark_any R n false st2 w2 HR2.out)
    have hF : Hid (st.take n 43 (-1) = st2.mark false) := by show _ = _; rw [HT.out]; rfl
    clear HR2
    go_wp2_with fail
    refine HAD.out.mono ?_
    rintro e w6 hgo
    have hgo2 : Goes w R n (st.take n 43 (-1)) e w6 := by rw [hF.out]; exact hgo.after hB2
    have HG := hide hgo2
    rcases hgo2.2 with ⟨_, he, _⟩ | ⟨_, he⟩
    · subst he
      clear hgo hgo2
      go_wp2
      first
        | exact bodyPost_end (results_none rfl _ _ _) rfl HG.out
        | exact bodyPost_ret (results_none rfl _ _ _) rfl HG.out
    · subst he
      clear hgo hgo2
      unfold thrown
      go_wp2
      exact ⟨rfl, HG.out⟩
  · subst he
    have HG : Hid (Goes w R n (st.take n 43 (-1)) (thrown (st.endSigns n).1) w2) := Goes.bad (by rw [HTb.out h0]) h0 hB2
    clear hgo HE1
    generalize (st.endSigns n).1 = code at *
    unfold thrown
    go_wp2
    exact ⟨rfl, HG.out⟩

set_option maxRecDepth 20000 in
set_option maxHeartbeats 4000000 in
theorem take_none (R : Nat) (n : Int) (k : Nat) (c : Nat) (st : RS) (w : World) (h : Rd w R n st) (hf : RS.Fine k st) (hk : k ≤ 5000) (hn1 : 1 ≤ n) (hn2 : n ≤ 12) (h2 : c < 55296 ∨ 57343 < c) (h3 : c ≤ 1114111) (hs : si c = -1) (hc : c ≠ 120 ∧ c ≠ 88 ∧ c ≠ 45 ∧ c ≠ 215 ∧ c ≠ 46 ∧ c ≠ 44 ∧ c ≠ 38 ∧ c ≠ 43) :
    Calls Try.prog 51 #[.pointer (some ⟨R, 0, none⟩), .int .i32 (c : Nat)] w fun e w' => Goes w R n (st.take n c (-1)) e w' := by
  have e120 : ((c : Int) == 120) = false := by rw [beq_eq_false_iff_ne]; omega
  have e88 : ((c : Int) == 88) = false := by rw [beq_eq_false_iff_ne]; omega
  have e45 : ((c : Int) == 45) = false := by rw [beq_eq_false_iff_ne]; omega
  have e215 : ((c : Int) == 215) = false := by rw [beq_eq_false_iff_ne]; omega
  have e46 : ((c : Int) == 46) = false := by rw [beq_eq_false_iff_ne]; omega
  have e44 : ((c : Int) == 44) = false := by rw [beq_eq_false_iff_ne]; omega
  have e38 : ((c : Int) == 38) = false := by rw [beq_eq_false_iff_ne]; omega
  have e43 : ((c : Int) == 43) = false := by rw [beq_eq_false_iff_ne]; omega
  obtain ⟨HTk, HTb⟩ := take_split n st c
  have HIX := hide (indexRune_any c w (by omega) (by omega))
  rw [show si c = -1 from hs] at HIX
  have hF1 : (st.endSigns n).1 = 0 → RS.Fine k (st.endSigns n).2 ∧ (st.endSigns n).2.opn = [] := fun h0 => hf.endSigns h0
  have HF1 := hide hF1
  have hRl : R < w.heap.size := by obtain ⟨_, _, _, _, _, _, h'⟩ := h; exact h'.lt
  have HES := hide (fun W (hb : Below w.heap.size w W) => endSigns_any R n st W (by obtain ⟨D, av, bv, ov, avs, bvs, h'⟩ := h; exact ⟨D, av, bv, ov, avs, bvs, h'.later hb⟩) hn1 hn2 (Nat.le_trans hf.block (by omega)) hf.signs (Nat.le_trans hf.opn hk))
  clear h hf hF1
  go_enter Try.func51, Try.ntmps51
  go_wp2_with fail
  refine HIX.out.mono ?_
  rintro e w1 ⟨rfl, hb1⟩
  have hB1 : Bel R w w1 := Bel.of hb1 (by omega)
  have HE1 := hide (HES.out w1 hb1)
  clear HIX HES hb1
  go_wp2_with fail
  refine HE1.out.mono ?_
  rintro e w2 hgo
  have hB2 : Bel R w w2 := hB1.trans hgo.1
  rcases hgo.2 with ⟨h0, he, hR2⟩ | ⟨h0, he⟩
  · subst he
    have HT := hide (HTk.out h0)
    obtain ⟨hFi, hop⟩ := HF1.out h0
    have HFi := hide hFi
    have HOp := hide hop
    have HR2 := hide hR2
    generalize (st.endSigns n).2 = st2 at *
    clear hgo hFi hop HE1 HTk HTb HF1 hR2 hB1
    have hF : Hid ((st.take n c (-1)).1 = 4) := by show _ = _; rw [HT.out]; show (RS.other n st2 c).1 = 4; unfold RS.other; rw [if_neg (by omega), if_neg (by omega), if_neg (by omega), if_neg (by omega), if_neg (by omega)]
    go_wp2
    exact ⟨rfl, Goes.bad hF.out (by decide) hB2⟩
  · subst he
    have HG : Hid (Goes w R n (st.take n c (-1)) (thrown (st.endSigns n).1) w2) := Goes.bad (by rw [HTb.out h0]) h0 hB2
    clear hgo HE1
    generalize (st.endSigns n).1 = code at *
    unfold thrown
    go_wp2
    exact ⟨rfl, HG.out⟩


end Go.Proofs.Ytgglbafcocbhbaa
