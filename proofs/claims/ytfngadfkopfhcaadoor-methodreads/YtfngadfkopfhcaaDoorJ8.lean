/- Joined: Rd7, Rd8, PPl, ChMay, Ended. -/
import Derived.Test.YtfngadfkopfhcaaDoorJ7
import Derived.Test.YtfngadfkopfhcaaDoorJ3
import Derived.Test.YtfngadfkopfhcaaDoorJ5
import Derived.Test.YtfngadfkopfhcaaDoorJ4
import Derived.Test.YtfngadfkopfhcaaDoorJ6
/- Contract: (*reader).take of a rune that is no sign. (Written by mktk2.py.) -/
namespace Go.Proofs.YtfngadfkopfhcaaDoor
open Go.RowKit

theorem take_split (n : Int) (st : RS) (c : Nat) : Hid ((st.endSigns n).1 = 0 → st.take n c (-1) = (st.endSigns n).2.other n c) ∧ Hid ((st.endSigns n).1 ≠ 0 → st.take n c (-1) = st.endSigns n) := by
  constructor
  · intro h; unfold RS.take; rw [if_neg (by decide), if_pos h]
  · intro h; unfold RS.take; rw [if_neg (by decide), if_neg h]

set_option maxRecDepth 20000 in
set_option maxHeartbeats 4000000 in
theorem take_x (R : Nat) (n : Int) (k : Nat) (st : RS) (w : World) (h : Rd w R n st) (hf : RS.Fine k st) (hk : k ≤ 5000) (hn1 : 1 ≤ n) (hn2 : n ≤ 12) :
    Calls Tryd.prog 24 #[.pointer (some ⟨R, 0, none⟩), .int .i32 (120 : Nat)] w fun e w' => Goes w R n (st.take n 120 (-1)) e w' := by
  obtain ⟨HTk, HTb⟩ := take_split n st 120
  have HIX := hide (indexRune_any 120 w (by omega) (by omega))
  rw [show si 120 = -1 from by decide +kernel] at HIX
  have hF1 : (st.endSigns n).1 = 0 → RS.Fine k (st.endSigns n).2 ∧ (st.endSigns n).2.opn = [] := fun h0 => hf.endSigns h0
  have HF1 := hide hF1
  have hRl : R < w.heap.size := by obtain ⟨_, _, _, _, _, _, h'⟩ := h; exact h'.lt
  have HES := hide (fun W (hb : Below w.heap.size w W) => endSigns_any R n st W (by obtain ⟨D, av, bv, ov, avs, bvs, h'⟩ := h; exact ⟨D, av, bv, ov, avs, bvs, h'.later hb⟩) hn1 hn2 (Nat.le_trans hf.block (by omega)) hf.signs (Nat.le_trans hf.opn hk))
  clear h hf hF1
  go_enter Tryd.func24, Tryd.ntmps24
  go_wp2_with fail
  refine HIX.out.mono ?_
  rintro e w1 ⟨rfl, hb1⟩
  have hB1 : Bel R w w1 := Bel.of hb1 (by omega)
  have HE1 := hide (HES.out w1 hb1)
  clear HIX HES hb1
  go_wp2_with fail
  refine HE1.out.mono ?_
  rintro e w2 hgo
  have hB2 : Bel R w w2 := hB1.trans hgo.1
  rcases hgo.2 with ⟨h0, he, hR2⟩ | ⟨h0, he⟩
  · subst he
    have HT := hide (HTk.out h0)
    obtain ⟨hFi, hop⟩ := HF1.out h0
    have HFi := hide hFi
    have HOp := hide hop
    have HR2 := hide hR2
    generalize (st.endSigns n).2 = st2 at *
    clear hgo hFi hop HE1 HTk HTb HF1 hR2 hB1
    obtain ⟨D2, av, bv, ov, avs, bvs, h2⟩ := HR2.out
    obtain rfl := h2.nilo HOp.out
    have HAD := hide (add_any R D2 n av bv avs bvs st2 (.slice none 0 0) [] w2 h2 HOp.out hn1 hn2 (by rw [h2.block.len]; exact Nat.le_trans HFi.out.block (by omega)) (World.ownsRow_nil _ _ _ _))
    have hF : Hid (st.take n 120 (-1) = st2.add n []) := by show _ = _; rw [HT.out]; rfl
    clear h2 HR2
    go_wp2_with fail
    refine HAD.out.mono ?_
    rintro e w6 hgo
    have hgo2 : Goes w R n (st.take n 120 (-1)) e w6 := by rw [hF.out]; exact hgo.after hB2
    have HG := hide hgo2
    rcases hgo2.2 with ⟨_, he, _⟩ | ⟨_, he⟩
    · subst he
      clear hgo hgo2
      go_wp2
      first
        | exact bodyPost_end (results_none rfl _ _ _) rfl HG.out
        | exact bodyPost_ret (results_none rfl _ _ _) rfl HG.out
    · subst he
      clear hgo hgo2
      unfold thrown
      go_wp2
      exact ⟨rfl, HG.out⟩
  · subst he
    have HG : Hid (Goes w R n (st.take n 120 (-1)) (thrown (st.endSigns n).1) w2) := Goes.bad (by rw [HTb.out h0]) h0 hB2
    clear hgo HE1
    generalize (st.endSigns n).1 = code at *
    unfold thrown
    go_wp2
    exact ⟨rfl, HG.out⟩

set_option maxRecDepth 20000 in
set_option maxHeartbeats 4000000 in
theorem take_X (R : Nat) (n : Int) (k : Nat) (st : RS) (w : World) (h : Rd w R n st) (hf : RS.Fine k st) (hk : k ≤ 5000) (hn1 : 1 ≤ n) (hn2 : n ≤ 12) :
    Calls Tryd.prog 24 #[.pointer (some ⟨R, 0, none⟩), .int .i32 (88 : Nat)] w fun e w' => Goes w R n (st.take n 88 (-1)) e w' := by
  obtain ⟨HTk, HTb⟩ := take_split n st 88
  have HIX := hide (indexRune_any 88 w (by omega) (by omega))
  rw [show si 88 = -1 from by decide +kernel] at HIX
  have hF1 : (st.endSigns n).1 = 0 → RS.Fine k (st.endSigns n).2 ∧ (st.endSigns n).2.opn = [] := fun h0 => hf.endSigns h0
  have HF1 := hide hF1
  have hRl : R < w.heap.size := by obtain ⟨_, _, _, _, _, _, h'⟩ := h; exact h'.lt
  have HES := hide (fun W (hb : Below w.heap.size w W) => endSigns_any R n st W (by obtain ⟨D, av, bv, ov, avs, bvs, h'⟩ := h; exact ⟨D, av, bv, ov, avs, bvs, h'.later hb⟩) hn1 hn2 (Nat.le_trans hf.block (by omega)) hf.signs (Nat.le_trans hf.opn hk))
  clear h hf hF1
  go_enter Tryd.func24, Tryd.ntmps24
  go_wp2_with fail
  refine HIX.out.mono ?_
  rintro e w1 ⟨rfl, hb1⟩
  have hB1 : Bel R w w1 := Bel.of hb1 (by omega)
  have HE1 := hide (HES.out w1 hb1)
  clear HIX HES hb1
  go_wp2_with fail
  refine HE1.out.mono ?_
  rintro e w2 hgo
  have hB2 : Bel R w w2 := hB1.trans hgo.1
  rcases hgo.2 with ⟨h0, he, hR2⟩ | ⟨h0, he⟩
  · subst he
    have HT := hide (HTk.out h0)
    obtain ⟨hFi, hop⟩ := HF1.out h0
    have HFi := hide hFi
    have HOp := hide hop
    have HR2 := hide hR2
    generalize (st.endSigns n).2 = st2 at *
    clear hgo hFi hop HE1 HTk HTb HF1 hR2 hB1
    obtain ⟨D2, av, bv, ov, avs, bvs, h2⟩ := HR2.out
    obtain rfl := h2.nilo HOp.out
    have HAD := hide (add_any R D2 n av bv avs bvs st2 (.slice none 0 0) [] w2 h2 HOp.out hn1 hn2 (by rw [h2.block.len]; exact Nat.le_trans HFi.out.block (by omega)) (World.ownsRow_nil _ _ _ _))
    have hF : Hid (st.take n 88 (-1) = st2.add n []) := by show _ = _; rw [HT.out]; rfl
    clear h2 HR2
    go_wp2_with fail
    refine HAD.out.mono ?_
    rintro e w6 hgo
    have hgo2 : Goes w R n (st.take n 88 (-1)) e w6 := by rw [hF.out]; exact hgo.after hB2
    have HG := hide hgo2
    rcases hgo2.2 with ⟨_, he, _⟩ | ⟨_, he⟩
    · subst he
      clear hgo hgo2
      go_wp2
      first
        | exact bodyPost_end (results_none rfl _ _ _) rfl HG.out
        | exact bodyPost_ret (results_none rfl _ _ _) rfl HG.out
    · subst he
      clear hgo hgo2
      unfold thrown
      go_wp2
      exact ⟨rfl, HG.out⟩
  · subst he
    have HG : Hid (Goes w R n (st.take n 88 (-1)) (thrown (st.endSigns n).1) w2) := Goes.bad (by rw [HTb.out h0]) h0 hB2
    clear hgo HE1
    generalize (st.endSigns n).1 = code at *
    unfold thrown
    go_wp2
    exact ⟨rfl, HG.out⟩

set_option maxRecDepth 20000 in
set_option maxHeartbeats 4000000 in
theorem take_dash (R : Nat) (n : Int) (k : Nat) (st : RS) (w : World) (h : Rd w R n st) (hf : RS.Fine k st) (hk : k ≤ 5000) (hn1 : 1 ≤ n) (hn2 : n ≤ 12) :
    Calls Tryd.prog 24 #[.pointer (some ⟨R, 0, none⟩), .int .i32 (45 : Nat)] w fun e w' => Goes w R n (st.take n 45 (-1)) e w' := by
  obtain ⟨HTk, HTb⟩ := take_split n st 45
  have HIX := hide (indexRune_any 45 w (by omega) (by omega))
  rw [show si 45 = -1 from by decide +kernel] at HIX
  have hF1 : (st.endSigns n).1 = 0 → RS.Fine k (st.endSigns n).2 ∧ (st.endSigns n).2.opn = [] := fun h0 => hf.endSigns h0
  have HF1 := hide hF1
  have hRl : R < w.heap.size := by obtain ⟨_, _, _, _, _, _, h'⟩ := h; exact h'.lt
  have HES := hide (fun W (hb : Below w.heap.size w W) => endSigns_any R n st W (by obtain ⟨D, av, bv, ov, avs, bvs, h'⟩ := h; exact ⟨D, av, bv, ov, avs, bvs, h'.later hb⟩) hn1 hn2 (Nat.le_trans hf.block (by omega)) hf.signs (Nat.le_trans hf.opn hk))
  clear h hf hF1
  go_enter Tryd.func24, Tryd.ntmps24
  go_wp2_with fail
  refine HIX.out.mono ?_
  rintro e w1 ⟨rfl, hb1⟩
  have hB1 : Bel R w w1 := Bel.of hb1 (by omega)
  have HE1 := hide (HES.out w1 hb1)
  clear HIX HES hb1
  go_wp2_with fail
  refine HE1.out.mono ?_
  rintro e w2 hgo
  have hB2 : Bel R w w2 := hB1.trans hgo.1
  rcases hgo.2 with ⟨h0, he, hR2⟩ | ⟨h0, he⟩
  · subst he
    have HT := hide (HTk.out h0)
    obtain ⟨hFi, hop⟩ := HF1.out h0
    have HFi := hide hFi
    have HOp := hide hop
    have HR2 := hide hR2
    generalize (st.endSigns n).2 = st2 at *
    clear hgo hFi hop HE1 HTk HTb HF1 hR2 hB1
    obtain ⟨D2, av, bv, ov, avs, bvs, h2⟩ := HR2.out
    obtain rfl := h2.nilo HOp.out
    have HAD := hide (add_any R D2 n av bv avs bvs st2 (.slice none 0 0) [] w2 h2 HOp.out hn1 hn2 (by rw [h2.block.len]; exact Nat.le_trans HFi.out.block (by omega)) (World.ownsRow_nil _ _ _ _))
    have hF : Hid (st.take n 45 (-1) = st2.add n []) := by show _ = _; rw [HT.out]; rfl
    clear h2 HR2
    go_wp2_with fail
    refine HAD.out.mono ?_
    rintro e w6 hgo
    have hgo2 : Goes w R n (st.take n 45 (-1)) e w6 := by rw [hF.out]; exact hgo.after hB2
    have HG := hide hgo2
    rcases hgo2.2 with ⟨_, he, _⟩ | ⟨_, he⟩
    · subst he
      clear hgo hgo2
      go_wp2
      first
        | exact bodyPost_end (results_none rfl _ _ _) rfl HG.out
        | exact bodyPost_ret (results_none rfl _ _ _) rfl HG.out
    · subst he
      clear hgo hgo2
      unfold thrown
      go_wp2
      exact ⟨rfl, HG.out⟩
  · subst he
    have HG : Hid (Goes w R n (st.take n 45 (-1)) (thrown (st.endSigns n).1) w2) := Goes.bad (by rw [HTb.out h0]) h0 hB2
    clear hgo HE1
    generalize (st.endSigns n).1 = code at *
    unfold thrown
    go_wp2
    exact ⟨rfl, HG.out⟩

set_option maxRecDepth 20000 in
set_option maxHeartbeats 4000000 in
theorem take_cross (R : Nat) (n : Int) (k : Nat) (st : RS) (w : World) (h : Rd w R n st) (hf : RS.Fine k st) (hk : k ≤ 5000) (hn1 : 1 ≤ n) (hn2 : n ≤ 12) :
    Calls Tryd.prog 24 #[.pointer (some ⟨R, 0, none⟩), .int .i32 (215 : Nat)] w fun e w' => Goes w R n (st.take n 215 (-1)) e w' := by
  obtain ⟨HTk, HTb⟩ := take_split n st 215
  have HIX := hide (indexRune_any 215 w (by omega) (by omega))
  rw [show si 215 = -1 from by decide +kernel] at HIX
  have hF1 : (st.endSigns n).1 = 0 → RS.Fine k (st.endSigns n).2 ∧ (st.endSigns n).2.opn = [] := fun h0 => hf.endSigns h0
  have HF1 := hide hF1
  have hRl : R < w.heap.size := by obtain ⟨_, _, _, _, _, _, h'⟩ := h; exact h'.lt
  have HES := hide (fun W (hb : Below w.heap.size w W) => endSigns_any R n st W (by obtain ⟨D, av, bv, ov, avs, bvs, h'⟩ := h; exact ⟨D, av, bv, ov, avs, bvs, h'.later hb⟩) hn1 hn2 (Nat.le_trans hf.block (by omega)) hf.signs (Nat.le_trans hf.opn hk))
  clear h hf hF1
  go_enter Tryd.func24, Tryd.ntmps24
  go_wp2_with fail
  refine HIX.out.mono ?_
  rintro e w1 ⟨rfl, hb1⟩
  have hB1 : Bel R w w1 := Bel.of hb1 (by omega)
  have HE1 := hide (HES.out w1 hb1)
  clear HIX HES hb1
  go_wp2_with fail
  refine HE1.out.mono ?_
  rintro e w2 hgo
  have hB2 : Bel R w w2 := hB1.trans hgo.1
  rcases hgo.2 with ⟨h0, he, hR2⟩ | ⟨h0, he⟩
  · subst he
    have HT := hide (HTk.out h0)
    obtain ⟨hFi, hop⟩ := HF1.out h0
    have HFi := hide hFi
    have HOp := hide hop
    have HR2 := hide hR2
    generalize (st.endSigns n).2 = st2 at *
    clear hgo hFi hop HE1 HTk HTb HF1 hR2 hB1
    obtain ⟨D2, av, bv, ov, avs, bvs, h2⟩ := HR2.out
    obtain rfl := h2.nilo HOp.out
    have HAD := hide (add_any R D2 n av bv avs bvs st2 (.slice none 0 0) [] w2 h2 HOp.out hn1 hn2 (by rw [h2.block.len]; exact Nat.le_trans HFi.out.block (by omega)) (World.ownsRow_nil _ _ _ _))
    have hF : Hid (st.take n 215 (-1) = st2.add n []) := by show _ = _; rw [HT.out]; rfl
    clear h2 HR2
    go_wp2_with fail
    refine HAD.out.mono ?_
    rintro e w6 hgo
    have hgo2 : Goes w R n (st.take n 215 (-1)) e w6 := by rw [hF.out]; exact hgo.after hB2
    have HG := hide hgo2
    rcases hgo2.2 with ⟨_, he, _⟩ | ⟨_, he⟩
    · subst he
      clear hgo hgo2
      go_wp2
      first
        | exact bodyPost_end (results_none rfl _ _ _) rfl HG.out
        | exact bodyPost_ret (results_none rfl _ _ _) rfl HG.out
    · subst he
      clear hgo hgo2
      unfold thrown
      go_wp2
      exact ⟨rfl, HG.out⟩
  · subst he
    have HG : Hid (Goes w R n (st.take n 215 (-1)) (thrown (st.endSigns n).1) w2) := Goes.bad (by rw [HTb.out h0]) h0 hB2
    clear hgo HE1
    generalize (st.endSigns n).1 = code at *
    unfold thrown
    go_wp2
    exact ⟨rfl, HG.out⟩

set_option maxRecDepth 20000 in
set_option maxHeartbeats 4000000 in
theorem take_dot (R : Nat) (n : Int) (k : Nat) (st : RS) (w : World) (h : Rd w R n st) (hf : RS.Fine k st) (hk : k ≤ 5000) (hn1 : 1 ≤ n) (hn2 : n ≤ 12) :
    Calls Tryd.prog 24 #[.pointer (some ⟨R, 0, none⟩), .int .i32 (46 : Nat)] w fun e w' => Goes w R n (st.take n 46 (-1)) e w' := by
  obtain ⟨HTk, HTb⟩ := take_split n st 46
  have HIX := hide (indexRune_any 46 w (by omega) (by omega))
  rw [show si 46 = -1 from by decide +kernel] at HIX
  have hF1 : (st.endSigns n).1 = 0 → RS.Fine k (st.endSigns n).2 ∧ (st.endSigns n).2.opn = [] := fun h0 => hf.endSigns h0
  have HF1 := hide hF1
  have hRl : R < w.heap.size := by obtain ⟨_, _, _, _, _, _, h'⟩ := h; exact h'.lt
  have HES := hide (fun W (hb : Below w.heap.size w W) => endSigns_any R n st W (by obtain ⟨D, av, bv, ov, avs, bvs, h'⟩ := h; exact ⟨D, av, bv, ov, avs, bvs, h'.later hb⟩) hn1 hn2 (Nat.le_trans hf.block (by omega)) hf.signs (Nat.le_trans hf.opn hk))
  clear h hf hF1
  go_enter Tryd.func24, Tryd.ntmps24
  go_wp2_with fail
  refine HIX.out.mono ?_
  rintro e w1 ⟨rfl, hb1⟩
  have hB1 : Bel R w w1 := Bel.of hb1 (by omega)
  have HE1 := hide (HES.out w1 hb1)
  clear HIX HES hb1
  go_wp2_with fail
  refine HE1.out.mono ?_
  rintro e w2 hgo
  have hB2 : Bel R w w2 := hB1.trans hgo.1
  rcases hgo.2 with ⟨h0, he, hR2⟩ | ⟨h0, he⟩
  · subst he
    have HT := hide (HTk.out h0)
    obtain ⟨hFi, hop⟩ := HF1.out h0
    have HFi := hide hFi
    have HOp := hide hop
    have HR2 := hide hR2
    generalize (st.endSigns n).2 = st2 at *
    clear hgo hFi hop HE1 HTk HTb HF1 hR2 hB1
    have HN := hide (needChange_any R n 4 st2 w2 HR2.out)
    go_wp2_with fail
    refine HN.out.mono ?_
    rintro e w' ⟨rfl, rfl⟩
    by_cases hne : st2.needs = true
    · rw [if_pos hne]
      have hF : Hid ((st.take n 46 (-1)).1 = 4) := by show _ = _; rw [HT.out]; show (RS.other n st2 46).1 = 4; unfold RS.other; simp [hne]
      unfold thrown
      go_wp2
      exact ⟨rfl, Goes.bad hF.out (by decide) hB2⟩
    · rw [if_neg hne]
      have hF : Hid (st.take n 46 (-1) = (0, { st2 with dot := true })) := by show _ = _; rw [HT.out]; show RS.other n st2 46 = _; unfold RS.other; simp [hne]
      obtain ⟨D2, av, bv, ov, avs, bvs, h2⟩ := HR2.out
      have c6 := (cells7 h2.blk).2.2.2.2.2.2
      have f6 := frozen7 h2.blk 6
      have hR3 := h2.flags st2.marked st2.mirrored true 6 (.bool true) rfl
      have HR3 := hide hR3
      have hB3 : Bel R w (w2.setCell ⟨R, 6, none⟩ (.bool true)) := hB2.setCell (p := ⟨R, 6, none⟩) (Nat.le_refl _) _
      clear h2 hR3 HN
      go_wp2
      first
        | exact bodyPost_end (results_none rfl _ _ _) rfl (Goes.ok hF.out hB3 ⟨_, _, _, _, _, _, HR3.out⟩)
        | exact bodyPost_ret (results_none rfl _ _ _) rfl (Goes.ok hF.out hB3 ⟨_, _, _, _, _, _, HR3.out⟩)
  · subst he
    have HG : Hid (Goes w R n (st.take n 46 (-1)) (thrown (st.endSigns n).1) w2) := Goes.bad (by rw [HTb.out h0]) h0 hB2
    clear hgo HE1
    generalize (st.endSigns n).1 = code at *
    unfold thrown
    go_wp2
    exact ⟨rfl, HG.out⟩

set_option maxRecDepth 20000 in
set_option maxHeartbeats 4000000 in
theorem take_comma (R : Nat) (n : Int) (k : Nat) (st : RS) (w : World) (h : Rd w R n st) (hf : RS.Fine k st) (hk : k ≤ 5000) (hn1 : 1 ≤ n) (hn2 : n ≤ 12) :
    Calls Tryd.prog 24 #[.pointer (some ⟨R, 0, none⟩), .int .i32 (44 : Nat)] w fun e w' => Goes w R n (st.take n 44 (-1)) e w' := by
  obtain ⟨HTk, HTb⟩ := take_split n st 44
  have HIX := hide (indexRune_any 44 w (by omega) (by omega))
  rw [show si 44 = -1 from by decide +kernel] at HIX
  have hF1 : (st.endSigns n).1 = 0 → RS.Fine k (st.endSigns n).2 ∧ (st.endSigns n).2.opn = [] := fun h0 => hf.endSigns h0
  have HF1 := hide hF1
  have hRl : R < w.heap.size := by obtain ⟨_, _, _, _, _, _, h'⟩ := h; exact h'.lt
  have HES := hide (fun W (hb : Below w.heap.size w W) => endSigns_any R n st W (by obtain ⟨D, av, bv, ov, avs, bvs, h'⟩ := h; exact ⟨D, av, bv, ov, avs, bvs, h'.later hb⟩) hn1 hn2 (Nat.le_trans hf.block (by omega)) hf.signs (Nat.le_trans hf.opn hk))
  clear h hf hF1
  go_enter Tryd.func24, Tryd.ntmps24
  go_wp2_with fail
  refine HIX.out.mono ?_
  rintro e w1 ⟨rfl, hb1⟩
  have hB1 : Bel R w w1 := Bel.of hb1 (by omega)
  have HE1 := hide (HES.out w1 hb1)
  clear HIX HES hb1
  go_wp2_with fail
  refine HE1.out.mono ?_
  rintro e w2 hgo
  have hB2 : Bel R w w2 := hB1.trans hgo.1
  rcases hgo.2 with ⟨h0, he, hR2⟩ | ⟨h0, he⟩
  · subst he
    have HT := hide (HTk.out h0)
    obtain ⟨hFi, hop⟩ := HF1.out h0
    have HFi := hide hFi
    have HOp := hide hop
    have HR2 := hide hR2
    generalize (st.endSigns n).2 = st2 at *
    clear hgo hFi hop HE1 HTk HTb HF1 hR2 hB1
    have HN := hide (needChange_any R n 4 st2 w2 HR2.out)
    go_wp2_with fail
    refine HN.out.mono ?_
    rintro e w' ⟨rfl, rfl⟩
    by_cases hne : st2.needs = true
    · rw [if_pos hne]
      have hF : Hid ((st.take n 44 (-1)).1 = 4) := by show _ = _; rw [HT.out]; show (RS.other n st2 44).1 = 4; unfold RS.other; simp [hne]
      unfold thrown
      go_wp2
      exact ⟨rfl, Goes.bad hF.out (by decide) hB2⟩
    · rw [if_neg hne]
      have hF : Hid (st.take n 44 (-1) = st2.endBlock) := by show _ = _; rw [HT.out]; show RS.other n st2 44 = _; unfold RS.other; simp [hne]
      have hbn : 1 ≤ st2.block.length := by
        cases hb : st2.block with
        | nil => exfalso; apply hne; unfold RS.needs; rw [hb]; rfl
        | cons a l => simp
      have HAD := hide (endBlock_any R n st2 w2 HR2.out HOp.out ⟨hbn, Nat.le_trans HFi.out.block (by omega)⟩ (Nat.le_trans HFi.out.all (by omega)) (fun j => Nat.le_trans (HFi.out.inner j) (by omega)))
      clear HN HR2 hbn
      go_wp2_with fail
      refine HAD.out.mono ?_
      rintro e w6 hgo
      have hgo2 : Goes w R n (st.take n 44 (-1)) e w6 := by rw [hF.out]; exact hgo.after hB2
      have HG := hide hgo2
      rcases hgo2.2 with ⟨_, he, _⟩ | ⟨_, he⟩
      · subst he
        clear hgo hgo2
        go_wp2
        first
          | exact bodyPost_end (results_none rfl _ _ _) rfl HG.out
          | exact bodyPost_ret (results_none rfl _ _ _) rfl HG.out
      · subst he
        clear hgo hgo2
        unfold thrown
        go_wp2
        exact ⟨rfl, HG.out⟩
  · subst he
    have HG : Hid (Goes w R n (st.take n 44 (-1)) (thrown (st.endSigns n).1) w2) := Goes.bad (by rw [HTb.out h0]) h0 hB2
    clear hgo HE1
    generalize (st.endSigns n).1 = code at *
    unfold thrown
    go_wp2
    exact ⟨rfl, HG.out⟩

set_option maxRecDepth 20000 in
set_option maxHeartbeats 4000000 in
theorem take_and (R : Nat) (n : Int) (k : Nat) (st : RS) (w : World) (h : Rd w R n st) (hf : RS.Fine k st) (hk : k ≤ 5000) (hn1 : 1 ≤ n) (hn2 : n ≤ 12) :
    Calls Tryd.prog 24 #[.pointer (some ⟨R, 0, none⟩), .int .i32 (38 : Nat)] w fun e w' => Goes w R n (st.take n 38 (-1)) e w' := by
  obtain ⟨HTk, HTb⟩ := take_split n st 38
  have HIX := hide (indexRune_any 38 w (by omega) (by omega))
  rw [show si 38 = -1 from by decide +kernel] at HIX
  have hF1 : (st.endSigns n).1 = 0 → RS.Fine k (st.endSigns n).2 ∧ (st.endSigns n).2.opn = [] := fun h0 => hf.endSigns h0
  have HF1 := hide hF1
  have hRl : R < w.heap.size := by obtain ⟨_, _, _, _, _, _, h'⟩ := h; exact h'.lt
  have HES := hide (fun W (hb : Below w.heap.size w W) => endSigns_any R n st W (by obtain ⟨D, av, bv, ov, avs, bvs, h'⟩ := h; exact ⟨D, av, bv, ov, avs, bvs, h'.later hb⟩) hn1 hn2 (Nat.le_trans hf.block (by omega)) hf.signs (Nat.le_trans hf.opn hk))
  clear h hf hF1
  go_enter Tryd.func24, Tryd.ntmps24
  go_wp2_with fail
  refine HIX.out.mono ?_
  rintro e w1 ⟨rfl, hb1⟩
  have hB1 : Bel R w w1 := Bel.of hb1 (by omega)
  have HE1 := hide (HES.out w1 hb1)
  clear HIX HES hb1
  go_wp2_with fail
  refine HE1.out.mono ?_
  rintro e w2 hgo
  have hB2 : Bel R w w2 := hB1.trans hgo.1
  rcases hgo.2 with ⟨h0, he, hR2⟩ | ⟨h0, he⟩
  · subst he
    have HT := hide (HTk.out h0)
    obtain ⟨hFi, hop⟩ := HF1.out h0
    have HFi := hide hFi
    have HOp := hide hop
    have HR2 := hide hR2
    generalize (st.endSigns n).2 = st2 at *
    clear hgo hFi hop HE1 HTk HTb HF1 hR2 hB1
    have HAD := hide (mark_any R n true st2 w2 HR2.out)
    have hF : Hid (st.take n 38 (-1) = st2.mark true) := by show _ = _; rw [HT.out]; rfl
    clear HR2
    go_wp2_with fail
    refine HAD.out.mono ?_
    rintro e w6 hgo
    have hgo2 : Goes w R n (st.take n 38 (-1)) e w6 := by rw [hF.out]; exact hgo.after hB2
    have HG := hide hgo2
    rcases hgo2.2 with ⟨_, he, _⟩ | ⟨_, he⟩
    · subst he
      clear hgo hgo2
      go_wp2
      first
        | exact bodyPost_end (results_none rfl _ _ _) rfl HG.out
        | exact bodyPost_ret (results_none rfl _ _ _) rfl HG.out
    · subst he
      clear hgo hgo2
      unfold thrown
      go_wp2
      exact ⟨rfl, HG.out⟩
  · subst he
    have HG : Hid (Goes w R n (st.take n 38 (-1)) (thrown (st.endSigns n).1) w2) := Goes.bad (by rw [HTb.out h0]) h0 hB2
    clear hgo HE1
    generalize (st.endSigns n).1 = code at *
    unfold thrown
    go_wp2
    exact ⟨rfl, HG.out⟩

set_option maxRecDepth 20000 in
set_option maxHeartbeats 4000000 in
theorem take_plus (R : Nat) (n : Int) (k : Nat) (st : RS) (w : World) (h : Rd w R n st) (hf : RS.Fine k st) (hk : k ≤ 5000) (hn1 : 1 ≤ n) (hn2 : n ≤ 12) :
    Calls Tryd.prog 24 #[.pointer (some ⟨R, 0, none⟩), .int .i32 (43 : Nat)] w fun e w' => Goes w R n (st.take n 43 (-1)) e w' := by
  obtain ⟨HTk, HTb⟩ := take_split n st 43
  have HIX := hide (indexRune_any 43 w (by omega) (by omega))
  rw [show si 43 = -1 from by decide +kernel] at HIX
  have hF1 : (st.endSigns n).1 = 0 → RS.Fine k (st.endSigns n).2 ∧ (st.endSigns n).2.opn = [] := fun h0 => hf.endSigns h0
  have HF1 := hide hF1
  have hRl : R < w.heap.size := by obtain ⟨_, _, _, _, _, _, h'⟩ := h; exact h'.lt
  have HES := hide (fun W (hb : Below w.heap.size w W) => endSigns_any R n st W (by obtain ⟨D, av, bv, ov, avs, bvs, h'⟩ := h; exact ⟨D, av, bv, ov, avs, bvs, h'.later hb⟩) hn1 hn2 (Nat.le_trans hf.block (by omega)) hf.signs (Nat.le_trans hf.opn hk))
  clear h hf hF1
  go_enter Tryd.func24, Tryd.ntmps24
  go_wp2_with fail
  refine HIX.out.mono ?_
  rintro e w1 ⟨rfl, hb1⟩
  have hB1 : Bel R w w1 := Bel.of hb1 (by omega)
  have HE1 := hide (HES.out w1 hb1)
  clear HIX HES hb1
  go_wp2_with fail
  refine HE1.out.mono ?_
  rintro e w2 hgo
  have hB2 : Bel R w w2 := hB1.trans hgo.1
  rcases hgo.2 with ⟨h0, he, hR2⟩ | ⟨h0, he⟩
  · subst he
    have HT := hide (HTk.out h0)
    obtain ⟨hFi, hop⟩ := HF1.out h0
    have HFi := hide hFi
    have HOp := hide hop
    have HR2 := hide hR2
    generalize (st.endSigns n).2 = st2 at *
    clear hgo hFi hop HE1 HTk HTb HF1 hR2 hB1
    have HAD := hide (mark_any R n false st2 w2 HR2.out)
    have hF : Hid (st.take n 43 (-1) = st2.mark false) := by show _ = _; rw [HT.out]; rfl
    clear HR2
    go_wp2_with fail
    refine HAD.out.mono ?_
    rintro e w6 hgo
    have hgo2 : Goes w R n (st.take n 43 (-1)) e w6 := by rw [hF.out]; exact hgo.after hB2
    have HG := hide hgo2
    rcases hgo2.2 with ⟨_, he, _⟩ | ⟨_, he⟩
    · subst he
      clear hgo hgo2
      go_wp2
      first
        | exact bodyPost_end (results_none rfl _ _ _) rfl HG.out
        | exact bodyPost_ret (results_none rfl _ _ _) rfl HG.out
    · subst he
      clear hgo hgo2
      unfold thrown
      go_wp2
      exact ⟨rfl, HG.out⟩
  · subst he
    have HG : Hid (Goes w R n (st.take n 43 (-1)) (thrown (st.endSigns n).1) w2) := Goes.bad (by rw [HTb.out h0]) h0 hB2
    clear hgo HE1
    generalize (st.endSigns n).1 = code at *
    unfold thrown
    go_wp2
    exact ⟨rfl, HG.out⟩

set_option maxRecDepth 20000 in
set_option maxHeartbeats 4000000 in
theorem take_none (R : Nat) (n : Int) (k : Nat) (c : Nat) (st : RS) (w : World) (h : Rd w R n st) (hf : RS.Fine k st) (hk : k ≤ 5000) (hn1 : 1 ≤ n) (hn2 : n ≤ 12) (h2 : c < 55296 ∨ 57343 < c) (h3 : c ≤ 1114111) (hs : si c = -1) (hc : c ≠ 120 ∧ c ≠ 88 ∧ c ≠ 45 ∧ c ≠ 215 ∧ c ≠ 46 ∧ c ≠ 44 ∧ c ≠ 38 ∧ c ≠ 43) :
    Calls Tryd.prog 24 #[.pointer (some ⟨R, 0, none⟩), .int .i32 (c : Nat)] w fun e w' => Goes w R n (st.take n c (-1)) e w' := by
  have e120 : ((c : Int) == 120) = false := by rw [beq_eq_false_iff_ne]; omega
  have e88 : ((c : Int) == 88) = false := by rw [beq_eq_false_iff_ne]; omega
  have e45 : ((c : Int) == 45) = false := by rw [beq_eq_false_iff_ne]; omega
  have e215 : ((c : Int) == 215) = false := by rw [beq_eq_false_iff_ne]; omega
  have e46 : ((c : Int) == 46) = false := by rw [beq_eq_false_iff_ne]; omega
  have e44 : ((c : Int) == 44) = false := by rw [beq_eq_false_iff_ne]; omega
  have e38 : ((c : Int) == 38) = false := by rw [beq_eq_false_iff_ne]; omega
  have e43 : ((c : Int) == 43) = false := by rw [beq_eq_false_iff_ne]; omega
  obtain ⟨HTk, HTb⟩ := take_split n st c
  have HIX := hide (indexRune_any c w (by omega) (by omega))
  rw [show si c = -1 from hs] at HIX
  have hF1 : (st.endSigns n).1 = 0 → RS.Fine k (st.endSigns n).2 ∧ (st.endSigns n).2.opn = [] := fun h0 => hf.endSigns h0
  have HF1 := hide hF1
  have hRl : R < w.heap.size := by obtain ⟨_, _, _, _, _, _, h'⟩ := h; exact h'.lt
  have HES := hide (fun W (hb : Below w.heap.size w W) => endSigns_any R n st W (by obtain ⟨D, av, bv, ov, avs, bvs, h'⟩ := h; exact ⟨D, av, bv, ov, avs, bvs, h'.later hb⟩) hn1 hn2 (Nat.le_trans hf.block (by omega)) hf.signs (Nat.le_trans hf.opn hk))
  clear h hf hF1
  go_enter Tryd.func24, Tryd.ntmps24
  go_wp2_with fail
  refine HIX.out.mono ?_
  rintro e w1 ⟨rfl, hb1⟩
  have hB1 : Bel R w w1 := Bel.of hb1 (by omega)
  have HE1 := hide (HES.out w1 hb1)
  clear HIX HES hb1
  go_wp2_with fail
  refine HE1.out.mono ?_
  rintro e w2 hgo
  have hB2 : Bel R w w2 := hB1.trans hgo.1
  rcases hgo.2 with ⟨h0, he, hR2⟩ | ⟨h0, he⟩
  · subst he
    have HT := hide (HTk.out h0)
    obtain ⟨hFi, hop⟩ := HF1.out h0
    have HFi := hide hFi
    have HOp := hide hop
    have HR2 := hide hR2
    generalize (st.endSigns n).2 = st2 at *
    clear hgo hFi hop HE1 HTk HTb HF1 hR2 hB1
    have hF : Hid ((st.take n c (-1)).1 = 4) := by show _ = _; rw [HT.out]; show (RS.other n st2 c).1 = 4; unfold RS.other; rw [if_neg (by omega), if_neg (by omega), if_neg (by omega), if_neg (by omega), if_neg (by omega)]
    go_wp2
    exact ⟨rfl, Goes.bad hF.out (by decide) hB2⟩
  · subst he
    have HG : Hid (Goes w R n (st.take n c (-1)) (thrown (st.endSigns n).1) w2) := Goes.bad (by rw [HTb.out h0]) h0 hB2
    clear hgo HE1
    generalize (st.endSigns n).1 = code at *
    unfold thrown
    go_wp2
    exact ⟨rfl, HG.out⟩


end Go.Proofs.YtfngadfkopfhcaaDoor

/- Contracts: (*reader).take of any rune, (*reader).end. -/
namespace Go.Proofs.YtfngadfkopfhcaaDoor
open Go.RowKit

theorem take_any (R : Nat) (n : Int) (k c : Nat) (st : RS) (w : World) (h : Rd w R n st) (hf : RS.Fine k st) (hk : k ≤ 5000) (hn1 : 1 ≤ n) (hn2 : n ≤ 12) (h2 : c < 55296 ∨ 57343 < c) (h3 : c ≤ 1114111) :
    Calls Tryd.prog 24 #[.pointer (some ⟨R, 0, none⟩), .int .i32 c] w fun e w' => Goes w R n (st.take n c (si c)) e w' := by
  by_cases hs : 0 ≤ si c
  · exact take_sign R n k c st w h hf hk h2 h3 hs
  · have hm : si c = -1 := by have := si_range c; omega
    rw [hm]
    by_cases e1 : c = 120
    · subst e1; exact take_x R n k st w h hf hk hn1 hn2
    by_cases e2 : c = 88
    · subst e2; exact take_X R n k st w h hf hk hn1 hn2
    by_cases e3 : c = 45
    · subst e3; exact take_dash R n k st w h hf hk hn1 hn2
    by_cases e4 : c = 215
    · subst e4; exact take_cross R n k st w h hf hk hn1 hn2
    by_cases e5 : c = 46
    · subst e5; exact take_dot R n k st w h hf hk hn1 hn2
    by_cases e6 : c = 44
    · subst e6; exact take_comma R n k st w h hf hk hn1 hn2
    by_cases e7 : c = 38
    · subst e7; exact take_and R n k st w h hf hk hn1 hn2
    by_cases e8 : c = 43
    · subst e8; exact take_plus R n k st w h hf hk hn1 hn2
    exact take_none R n k c st w h hf hk hn1 hn2 h2 h3 hm ⟨e1, e2, e3, e4, e5, e6, e7, e8⟩

set_option maxRecDepth 20000 in
set_option maxHeartbeats 4000000 in
theorem end_any (R : Nat) (n : Int) (k : Nat) (st : RS) (w : World) (h : Rd w R n st) (hf : RS.Fine k st) (hk : k ≤ 5000) (hn1 : 1 ≤ n) (hn2 : n ≤ 12) :
    Calls Tryd.prog 25 #[.pointer (some ⟨R, 0, none⟩)] w fun e w' => Goes w R n (st.fin n) e w' := by
  have HTk : Hid ((st.endSigns n).1 = 0 → st.fin n = if (st.endSigns n).2.needs = true then (5, (st.endSigns n).2) else (st.endSigns n).2.endBlock) := fun h0 => by unfold RS.fin; rw [if_pos h0]
  have HTb : Hid ((st.endSigns n).1 ≠ 0 → st.fin n = st.endSigns n) := fun h0 => by unfold RS.fin; rw [if_neg h0]
  have HF1 : Hid ((st.endSigns n).1 = 0 → RS.Fine k (st.endSigns n).2 ∧ (st.endSigns n).2.opn = []) := fun h0 => hf.endSigns h0
  have HES := hide (endSigns_any R n st w h hn1 hn2 (Nat.le_trans hf.block (by omega)) hf.signs (Nat.le_trans hf.opn hk))
  clear h hf
  go_enter Tryd.func25, Tryd.ntmps25
  go_wp2_with fail
  refine HES.out.mono ?_
  rintro e w2 hgo
  have hB2 : Bel R w w2 := hgo.1
  rcases hgo.2 with ⟨h0, he, hR2⟩ | ⟨h0, he⟩
  · subst he
    have HT := hide (HTk.out h0)
    obtain ⟨hFi, hop⟩ := HF1.out h0
    have HFi := hide hFi
    have HOp := hide hop
    have HR2 := hide hR2
    generalize (st.endSigns n).2 = st2 at *
    clear hgo hFi hop HES HTk HTb HF1 hR2
    have HN := hide (needChange_any R n 5 st2 w2 HR2.out)
    go_wp2_with fail
    refine HN.out.mono ?_
    rintro e w' ⟨rfl, rfl⟩
    by_cases hne : st2.needs = true
    · rw [if_pos hne]
      have hF : Hid ((st.fin n).1 = 5) := by show _ = _; rw [HT.out, if_pos hne]
      unfold thrown
      go_wp2
      exact ⟨rfl, Goes.bad hF.out (by decide) hB2⟩
    · rw [if_neg hne]
      have hF : Hid (st.fin n = st2.endBlock) := by show _ = _; rw [HT.out, if_neg hne]
      have hbn : 1 ≤ st2.block.length := by
        cases hb : st2.block with
        | nil => exfalso; apply hne; unfold RS.needs; rw [hb]; rfl
        | cons a l => simp
      have HAD := hide (endBlock_any R n st2 w2 HR2.out HOp.out ⟨hbn, Nat.le_trans HFi.out.block (by omega)⟩ (Nat.le_trans HFi.out.all (by omega)) (fun j => Nat.le_trans (HFi.out.inner j) (by omega)))
      clear HN HR2 hbn
      go_wp2_with fail
      refine HAD.out.mono ?_
      rintro e w6 hgo
      have hgo2 : Goes w R n (st.fin n) e w6 := by rw [hF.out]; exact hgo.after hB2
      have HG := hide hgo2
      rcases hgo2.2 with ⟨_, he, _⟩ | ⟨_, he⟩
      · subst he
        clear hgo hgo2
        go_wp2
        first
          | exact bodyPost_end (results_none rfl _ _ _) rfl HG.out
          | exact bodyPost_ret (results_none rfl _ _ _) rfl HG.out
      · subst he
        clear hgo hgo2
        unfold thrown
        go_wp2
        exact ⟨rfl, HG.out⟩
  · subst he
    have HG : Hid (Goes w R n (st.fin n) (thrown (st.endSigns n).1) w2) := Goes.bad (by rw [HTb.out h0]) h0 hB2
    clear hgo HES
    generalize (st.endSigns n).1 = code at *
    unfold thrown
    go_wp2
    exact ⟨rfl, HG.out⟩

theorem RS.Fine.take {k c : Nat} {n : Int} {st : RS} (h : RS.Fine k st) (h0 : (st.take n c (si c)).1 = 0) : RS.Fine (k + 1) (st.take n c (si c)).2 := by
  have hsr := si_range c
  unfold RS.take at h0 ⊢
  by_cases hs : 0 ≤ si c
  · rw [if_pos hs]
    refine ⟨h.block, h.all, fun x hx => ?_, ?_, fun j => Nat.le_trans (h.inner j) (by omega)⟩
    · rcases List.mem_append.1 hx with hx | hx
      · exact h.signs x hx
      · rw [List.mem_singleton.1 hx]; omega
    · have := h.opn
      show (st.opn ++ [si c + 1]).length ≤ k + 1
      rw [List.length_append]; simp; omega
  · rw [if_neg hs] at h0 ⊢
    by_cases hz : (st.endSigns n).1 = 0
    · rw [if_pos hz] at h0 ⊢
      have h2 := (h.endSigns hz).1
      refine RS.Fine.mono (k := k) ?_ (by omega)
      generalize (st.endSigns n).2 = st2 at *
      unfold RS.other at h0 ⊢
      split at h0
      · rename_i hc; rw [if_pos hc]; exact h2.add (by simp) h0
      · rename_i hc
        rw [if_neg hc]
        split at h0
        · rename_i hd
          rw [if_pos hd]
          split at h0
          · cases h0
          · rename_i hn; rw [if_neg hn]; exact ⟨h2.block, h2.all, h2.signs, h2.opn, h2.inner⟩
        · rename_i hd
          rw [if_neg hd]
          split at h0
          · rename_i he
            rw [if_pos he]
            split at h0
            · cases h0
            · rename_i hn
              rw [if_neg hn]
              unfold RS.endBlock at h0 ⊢
              refine ⟨Nat.zero_le _, ?_, h2.signs, h2.opn, fun j => by simp⟩
              by_cases hl : 200 < (st2.all ++ st2.block ++ st2.back).length
              · simp only [if_pos hl] at h0; cases h0
              · show (st2.all ++ st2.block ++ st2.back).length ≤ 200; omega
          · rename_i he
            rw [if_neg he]
            have hmk : ∀ m, (st2.mark m).1 = 0 → RS.Fine k (st2.mark m).2 := by
              intro m hm
              unfold RS.mark at hm ⊢
              split at hm
              · cases hm
              · rename_i hx; rw [if_neg hx]; exact ⟨h2.block, h2.all, h2.signs, h2.opn, h2.inner⟩
            split at h0
            · rename_i hf; rw [if_pos hf]; exact hmk true h0
            · rename_i hf
              rw [if_neg hf]
              split at h0
              · rename_i hg; rw [if_pos hg]; exact hmk false h0
              · cases h0
    · rw [if_neg hz] at h0; exact absurd h0 hz

end Go.Proofs.YtfngadfkopfhcaaDoor

/- Plain: how far a text of changes has been read, rune by rune, as the answer does it. -/
namespace Go.Proofs.YtfngadfkopfhcaaDoor
open Go.RowKit

def stp (n : Int) (cs : List Nat) (k : Nat) (st : RS) : Int × RS := if k < cs.length then st.take n (cs.getD k 0) (si (cs.getD k 0)) else st.fin n

/-- Behind k runes (the one behind all is the end). -/
def PR (n : Int) (cs : List Nat) (k : Nat) (st : RS) : Prop :=
  (k ≤ cs.length ∧ RS.run n si RS.new (cs.take k) = (0, st)) ∨ (k = cs.length + 1 ∧ ∃ st0, RS.run n si RS.new cs = (0, st0) ∧ st0.fin n = (0, st))

theorem PR.start (n : Int) (cs : List Nat) : PR n cs 0 RS.new := Or.inl ⟨Nat.zero_le _, rfl⟩

theorem takeN_snoc (cs : List Nat) (k : Nat) (h : k < cs.length) : cs.take (k + 1) = cs.take k ++ [cs.getD k 0] := by
  rw [List.take_add_one, List.getElem?_eq_getElem h]; simp [List.getD, List.getElem?_eq_getElem h]

theorem PR.step {n : Int} {cs : List Nat} {k : Nat} {st st' : RS} (h : PR n cs k st) (hk : k ≤ cs.length) (h0 : stp n cs k st = (0, st')) : PR n cs (k + 1) st' := by
  rcases h with ⟨_, h⟩ | ⟨h, _⟩
  · unfold stp at h0
    by_cases hlt : k < cs.length
    · rw [if_pos hlt] at h0
      exact Or.inl ⟨hlt, by rw [takeN_snoc cs k hlt, RS.run_snoc _ _ _ _ _ (by rw [h]), h]; exact h0⟩
    · rw [if_neg hlt] at h0
      rw [List.take_of_length_le (by omega)] at h
      exact Or.inr ⟨by omega, st, h, h0⟩
  · omega

theorem PR.bad {n : Int} {cs : List Nat} {k : Nat} {st : RS} {c : Int} (h : PR n cs k st) (hk : k ≤ cs.length) (h0 : (stp n cs k st).1 = c) (hc : c ≠ 0) : RS.parse n si cs = (c, []) := by
  rcases h with ⟨_, h⟩ | ⟨h, _⟩
  · unfold stp at h0
    unfold RS.parse
    by_cases hlt : k < cs.length
    · rw [if_pos hlt] at h0
      have h1 : RS.run n si RS.new (cs.take (k + 1)) = st.take n (cs.getD k 0) (si (cs.getD k 0)) := by rw [takeN_snoc cs k hlt, RS.run_snoc _ _ _ _ _ (by rw [h]), h]
      have h2 := RS.run_bad n si (cs.take (k + 1)) (cs.drop (k + 1)) RS.new (by rw [h1, h0]; exact hc)
      rw [List.take_append_drop] at h2
      rw [h2, h1, if_neg (by rw [h0]; exact hc), h0]
    · rw [if_neg hlt] at h0
      rw [List.take_of_length_le (by omega)] at h
      rw [h, if_pos rfl]
      show (if (st.fin n).1 = 0 then _ else _) = _
      rw [if_neg (by rw [h0]; exact hc), h0]
  · omega

theorem PR.done {n : Int} {cs : List Nat} {st : RS} (h : PR n cs (cs.length + 1) st) : RS.parse n si cs = (0, st.all) := by
  rcases h with ⟨h, _⟩ | ⟨_, st0, h1, h2⟩
  · omega
  · unfold RS.parse
    rw [h1, if_pos rfl]
    show (if (st0.fin n).1 = 0 then _ else _) = _
    rw [h2, if_pos rfl]

theorem sa_range (c : Int) : -1 ≤ sa c ∧ sa c ≤ 11 := by
  unfold sa
  split
  · exact si_range _
  · omega

/-- What stands at a place: a rune, or the end, told as a comma. -/
def RU (cs : List Nat) (k : Nat) (c : Int) : Prop := (k < cs.length ∧ (c = ((cs.getD k 0 : Nat) : Int) ∨ (c = -1 ∧ cs.getD k 0 = 65533))) ∨ (k = cs.length ∧ c = 44)

theorem ru_at (s : ByteArray) (k : Nat) (h : k ≤ (runesOf s).length) : RU (runesOf s) k ((arunes s ++ [44]).getD k 0) := by
  have hl := arunes_length s
  by_cases hlt : k < (runesOf s).length
  · refine Or.inl ⟨hlt, ?_⟩
    have := arunes_at s k hlt
    rw [List.getD_eq_getElem?_getD, List.getElem?_append_left (by omega), ← List.getD_eq_getElem?_getD]
    exact this
  · refine Or.inr ⟨by omega, ?_⟩
    rw [List.getD_eq_getElem?_getD, List.getElem?_append_right (by omega), show k - (arunes s).length = 0 by omega]
    rfl

/-- What a rune does that is no sign, behind the signs' end; e: it is the end. -/
def rest (n : Int) (st : RS) (c : Int) (e : Bool) : Int × RS :=
  if c = 120 ∨ c = 88 ∨ c = 45 ∨ c = 215 then st.add n []
  else if c = 46 then (if st.needs = true then (4, st) else (0, { st with dot := true }))
  else if c = 44 then (if st.needs = true then (if e = true then 5 else 4, st) else st.endBlock)
  else if c = 38 then st.mark true
  else if c = 43 then st.mark false
  else (4, st)

theorem stp_sign {n : Int} {cs : List Nat} {k : Nat} {st : RS} {c : Int} (hr : RU cs k c) (hs : 0 ≤ sa c) : stp n cs k st = (0, { st with opn := st.opn ++ [sa c + 1] }) := by
  have s44 : sa 44 = -1 := by decide
  rcases hr with ⟨hlt, rfl | ⟨rfl, _⟩⟩ | ⟨_, rfl⟩
  · unfold stp RS.take
    rw [if_pos hlt]
    have he : sa ((cs.getD k 0 : Nat) : Int) = si (cs.getD k 0) := by unfold sa; rw [if_pos (by omega)]; rfl
    rw [he] at hs ⊢
    rw [if_pos hs]
  · exact absurd hs (by decide)
  · omega

theorem stp_no {n : Int} {cs : List Nat} {k : Nat} {st : RS} {c : Int} (hr : RU cs k c) (hs : sa c < 0) :
    stp n cs k st = if (st.endSigns n).1 = 0 then rest n (st.endSigns n).2 c (decide (k = cs.length)) else st.endSigns n := by
  rcases hr with ⟨hlt, hc⟩ | ⟨hk, rfl⟩
  · unfold stp RS.take
    rw [if_pos hlt]
    have hsi : ¬ 0 ≤ si (cs.getD k 0) := by
      rcases hc with rfl | ⟨_, h2⟩
      · have he : sa ((cs.getD k 0 : Nat) : Int) = si (cs.getD k 0) := by unfold sa; rw [if_pos (by omega)]; rfl
        omega
      · rw [h2]; decide
    rw [if_neg hsi, decide_eq_false (by omega)]
    have hE : ∀ st1 : RS, st1.other n (cs.getD k 0) = rest n st1 c false := by
      intro st1
      unfold RS.other rest
      generalize cs.getD k 0 = r at *
      rcases hc with rfl | ⟨rfl, rfl⟩
      · have e1 : (r = 120 ∨ r = 88 ∨ r = 45 ∨ r = 215) ↔ ((r : Int) = 120 ∨ (r : Int) = 88 ∨ (r : Int) = 45 ∨ (r : Int) = 215) := by omega
        have e2 : r = 46 ↔ (r : Int) = 46 := by omega
        have e3 : r = 44 ↔ (r : Int) = 44 := by omega
        have e4 : r = 38 ↔ (r : Int) = 38 := by omega
        have e5 : r = 43 ↔ (r : Int) = 43 := by omega
        simp only [e1, e2, e3, e4, e5, Bool.false_eq_true, if_false]
      · rfl
    rw [hE]
  · unfold stp RS.fin
    rw [if_neg (by omega), decide_eq_true hk]
    rfl

/-- Does a block begin? -/
def bg (st : RS) : Bool := !st.marked && decide (st.block = []) && decide (st.opn = [])
/-- Was a dot the last? -/
def dt (st : RS) : Bool := st.dot && decide (st.opn = [])

theorem endSigns_flags {n : Int} {st : RS} (h : (st.endSigns n).1 = 0) : bg (st.endSigns n).2 = bg st ∧ dt (st.endSigns n).2 = dt st ∧ (st.endSigns n).2.mirrored = st.mirrored ∧ (st.endSigns n).2.opn = [] ∧ (st.endSigns n).2.all = st.all ∧ (st.endSigns n).2.block = st.block ++ (if st.opn = [] then [] else [fill2 n (fill1 st.opn)]) := by
  unfold RS.endSigns at *
  by_cases ho : st.opn = []
  · rw [if_pos ho]; simp [ho]
  · rw [if_neg ho] at h ⊢
    unfold RS.add at *
    by_cases hk : okc n 0 (fill2 n (fill1 st.opn)) = true
    · rw [if_pos hk] at h ⊢
      simp [bg, dt, ho]
    · rw [if_neg hk] at h
      exact absurd h (by simp)

end Go.Proofs.YtfngadfkopfhcaaDoor

/- Contract: the answer's ChangeMay. -/
namespace Go.Proofs.YtfngadfkopfhcaaDoor
open Go.RowKit

set_option maxRecDepth 20000 in
set_option maxHeartbeats 2000000 in
theorem changeMay_any (n : Int) (v : Value) (ps : List Int) (w : World) (h1 : 1 ≤ n) (h2 : n ≤ 12) (i1 : Ints w v ps) :
    Calls Tryd.prog 29 #[.int .i64 n, v] w fun e w' => e = .returned (.int .i64 (pck n ps)) ∧ w = w' := by
  rcases i1 with ⟨rfl, p, c, rfl⟩ | ⟨b, off, cap, rfl, h0, hc, hm, hb, hcell⟩
  · go_enter Tryd.func29, Tryd.ntmps29
    go_wp2
    go_loop [5, 6] (fun l i => l = .int .i64 0 ∧ i = .int .i64 0) (fun _ _ => 0)
    case atStart => exact ⟨rfl, rfl⟩
    case round =>
      obtain ⟨rfl, rfl⟩ := hrel
      by_cases he : n % 2 = 0
      · have hp : Hid (pck n [] = 0) := by show _ = _; unfold pck okc; rw [if_pos (by simp; omega)]
        have ht : (n % 2 == 1) = false := by rw [beq_eq_false_iff_ne]; omega
        clear he
        go_wp2
        go_ret
        exact ⟨ret_int hp.out.symm, rfl⟩
      · have hp : Hid (pck n [] = 6) := by show _ = _; unfold pck okc; rw [if_neg (by simp; omega)]
        have ht : n % 2 = 1 := by omega
        clear he
        go_wp2
        go_ret
        exact ⟨ret_int hp.out.symm, rfl⟩
  · go_enter Tryd.func29, Tryd.ntmps29
    go_wp2
    go_loop [5, 6] (fun l i => ∃ (k : Nat) (L : Int), k ≤ ps.length ∧ i = .int .i64 k ∧ l = .int .i64 L ∧ 0 ≤ L ∧ L ≤ n ∧ Hid (okc n 0 ps = okc n L (ps.drop k))) (fun _ i => ps.length - (intOf i).toNat)
    case atStart => exact ⟨0, 0, by omega, rfl, rfl, by omega, by omega, rfl⟩
    case round =>
      obtain ⟨k, L, hk, rfl, rfl, hL0, hLn, hok⟩ := hrel
      by_cases hlt : k < ps.length
      · obtain ⟨y, hy, hcx⟩ := cellAt hcell hlt
        have HD : Hid (okc n 0 ps = (decide (L < y ∧ y ≤ n ∧ (y - L - 1) % 2 = 0) && okc n y (ps.drop (k + 1)))) := by
          show _ = _; rw [hok.out, drop_cons ps hlt, hy.out]; rfl
        clear hcell hok
        by_cases c1 : y ≤ L
        · have hp : Hid (pck n ps = 6) := by show _ = _; unfold pck; rw [HD.out, decide_eq_false (by omega)]; rfl
          go_wp2
          go_ret
          exact ⟨ret_int hp.out.symm, rfl⟩
        · by_cases c2 : n < y
          · have hp : Hid (pck n ps = 6) := by show _ = _; unfold pck; rw [HD.out, decide_eq_false (by omega)]; rfl
            have c3 : L < y := by omega
            clear c1
            go_wp2
            go_ret
            exact ⟨ret_int hp.out.symm, rfl⟩
          · have c3 : L < y := by omega
            have c4 : y ≤ n := by omega
            clear c1 c2
            by_cases c5 : (y - L) % 2 = 1
            · have HN : Hid (okc n 0 ps = okc n y (ps.drop (k + 1))) := by show _ = _; rw [HD.out, decide_eq_true (by omega)]; rfl
              have D5 : ((y - L) % 2 == 0) = false := by rw [beq_eq_false_iff_ne]; omega
              clear c5
              go_wp2
              go_round
              case rel => exact ⟨k + 1, y, by omega, by go_num, rfl, by omega, by omega, HN⟩
              case measure => simp [intOf]; omega
            · have hp : Hid (pck n ps = 6) := by show _ = _; unfold pck; rw [HD.out, decide_eq_false (by omega)]; rfl
              have D5 : (y - L) % 2 = 0 := by omega
              clear c5
              go_wp2
              go_ret
              exact ⟨ret_int hp.out.symm, rfl⟩
      · have HE : Hid (okc n 0 ps = decide ((n - L) % 2 = 0)) := by show _ = _; rw [hok.out, List.drop_of_length_le (by omega)]; rfl
        clear hcell hok
        by_cases c5 : (n - L) % 2 = 0
        · have hp : Hid (pck n ps = 0) := by show _ = _; unfold pck; rw [HE.out, decide_eq_true c5]; rfl
          have D5 : ((n - L) % 2 == 1) = false := by rw [beq_eq_false_iff_ne]; omega
          clear c5
          go_wp2
          go_ret
          exact ⟨ret_int hp.out.symm, rfl⟩
        · have hp : Hid (pck n ps = 6) := by show _ = _; unfold pck; rw [HE.out, decide_eq_false c5]; rfl
          have D5 : (n - L) % 2 = 1 := by omega
          clear c5
          go_wp2
          go_ret
          exact ⟨ret_int hp.out.symm, rfl⟩

end Go.Proofs.YtfngadfkopfhcaaDoor

/- Contract: the answer's ended. (Written by mkended.py.) -/
namespace Go.Proofs.YtfngadfkopfhcaaDoor
open Go.RowKit

/-- Each greater than the one ahead. -/
def rises (l : List Int) : Prop := ∀ j, j + 1 < l.length → l.getD j 0 < l.getD (j + 1) 0

theorem okc_rises (n : Int) : ∀ (ps : List Int) (last : Int), okc n last ps = true → (∀ x, ps.head? = some x → last < x) ∧ rises ps
  | [], _, _ => ⟨fun _ h => by simp at h, fun j h => by simp at h⟩
  | p :: ps, last, h => by
    unfold okc at h
    rw [Bool.and_eq_true, decide_eq_true_iff] at h
    obtain ⟨⟨h1, _, _⟩, h2⟩ := h
    obtain ⟨ih1, ih2⟩ := okc_rises n ps p h2
    refine ⟨fun x hx => by simp at hx; omega, fun j hj => ?_⟩
    match j with
    | 0 =>
      cases ps with
      | nil => simp at hj
      | cons q qs => exact ih1 q rfl
    | j + 1 => exact ih2 j (by simpa using hj)

theorem rises_tail {a : Int} {l : List Int} (h : rises (a :: l)) : rises l := fun j hj => h (j + 1) (by simpa using hj)

theorem rises_init {a : Int} {l : List Int} (h : rises (l ++ [a])) : rises l := fun j hj => by
  have := h j (by simp; omega)
  simpa [List.getElem?_append_left (show j < l.length by omega), List.getElem?_append_left (show j + 1 < l.length by omega), List.getD_eq_getElem?_getD] using this

theorem fill_rises {n : Int} {l : List Int} (h : okc n 0 (fill2 n (fill1 l)) = true) : rises l := by
  have h1 := (okc_rises n _ _ h).2
  have h2 : rises (fill1 l) := by
    unfold fill2 at h1
    split at h1
    · exact rises_init h1
    · exact h1
  unfold fill1 at h2
  split at h2
  · exact rises_tail h2
  · exact h2

theorem fill_falls {n : Int} {l : List Int} {j : Nat} {p q : Int} (hj : j + 1 < l.length) (hp : l.getD j 0 = p) (hq : l.getD (j + 1) 0 = q) (h : q ≤ p) : pck n (fill2 n (fill1 l)) = 6 := by
  unfold pck
  rw [if_neg]
  intro hok
  have := fill_rises hok j hj
  omega

def EndedPost (n : Int) (D : Nat) (l : List Int) (w : World) (e : Ending) (w' : World) : Prop :=
  Below D w w' ∧ ∃ x, e = .returned (.tuple #[x, .int .i64 (pck n (fill2 n (fill1 l)))]) ∧ (pck n (fill2 n (fill1 l)) = 0 → w'.ownsRow D 3 1 x (fill2 n (fill1 l)).length ((fill2 n (fill1 l)).map (Value.int .i64)))

set_option maxRecDepth 20000 in
set_option maxHeartbeats 8000000 in
theorem ended_any (n : Int) (D : Nat) (l : List Int) (v : Value) (w : World) (hn1 : 1 ≤ n) (hn2 : n ≤ 12) (hown : w.ownsRow D 3 1 v l.length (l.map (Value.int .i64))) (hD : D ≤ w.heap.size) (hpos : 1 ≤ l.length) (hl : l.length ≤ 5000) (hop : ∀ x ∈ l, 1 ≤ x ∧ x ≤ 12) :
    Calls Tryd.prog 28 #[.int .i64 n, v] w fun e w' => EndedPost n D l w e w' := by
  obtain ⟨j0, hj, hq0, hq1, hq2⟩ := info_parts Tryd.info3
  obtain ⟨g, cap, rfl, hg1, hg2, hcap1, hcap2⟩ := owns_form hown hpos
  have HO := hide hown
  have HOP := hide hop
  clear hown hop
  go_enter Tryd.func28, Tryd.ntmps28
  go_wp2
  go_loopw [6] (fun i wr => ∃ j : Nat, j + 1 ≤ l.length ∧ i = .int .i64 ((j : Int) + 1) ∧ Below w.heap.size w wr) (fun i _ => l.length - (intOf i).toNat)
  case atStart => exact ⟨0, by omega, rfl, Below.refl _ _⟩
  case round =>
    obtain ⟨j, hjl, rfl, hbw⟩ := hrel
    have hbs := hbw.size
    have hown := owns_below HO.out hbw (Nat.le_refl _)
    by_cases hlt : j + 1 < l.length
    · obtain ⟨p, hp, hcp, _⟩ := owns_cellAt hown (show j < l.length by omega)
      obtain ⟨q, hq, hcq, _⟩ := owns_cellAt hown hlt
      have hi1 : ((j : Int) + 1).toNat = j + 1 := by omega
      by_cases hqp : q ≤ p
      · have HZ : Hid (pck n (fill2 n (fill1 l)) = 6) := fill_falls hlt hp.out hq.out hqp
        clear hown hp hq
        go_wp2
        go_region
        all_goals
          go_wp2
          go_ret2
          exact ⟨by first | exact hbw.mono hD | exact hbw.drew.mono hD | exact hbw.drew.drew.mono hD, _, by rw [HZ.out]; rfl, fun h => by rw [HZ.out] at h; exact absurd h (by decide)⟩
      · clear hown hp hq
        go_wp2
        go_region
        all_goals
          go_wp2
          go_roundw
          case rel => exact ⟨j + 1, by omega, by first | rfl | go_num, by first | exact hbw | exact hbw.drew | exact hbw.drew.drew⟩
          case measure => simp [intOf]; omega
    · obtain ⟨y0, hy0, hc0, _⟩ := owns_cellAt hown hpos
      have ⟨hyr0, hyr1⟩ : 1 ≤ y0 ∧ y0 ≤ 12 := by
        rw [← hy0.out]
        refine HOP.out _ ?_
        rw [List.getElem?_eq_getElem (by omega : 0 < l.length)]
        exact List.getElem_mem _
      have hhd : l.headD 0 = y0 := by rw [head_get l hpos]; exact hy0.out
      have hB0 : Below D w wr := hbw.mono hD
      have HOW := hide hown
      have hDr : D ≤ wr.heap.size := by omega
      clear hy0 hbw hown
      by_cases hev : y0 % 2 = 0
      · have hf1 : Hid (fill1 l = 1 :: l) := by show _ = _; unfold fill1; rw [hhd, if_pos hev]
        have hd0 : (y0 % 2 == 0) = true := by simpa using hev
        have HFR := hide (fill1_range HOP.out)
        rw [hf1.out] at HFR
        clear hev hhd
        have hnew : (wr.alloc (.cells #[.int .i64 1] 3)).ownsRow D 3 1 (.slice (some ⟨wr.heap.size, 0, none⟩) 1 1) 1 ([(1 : Int)].map (Value.int .i64)) := World.ownsRow_lit wr #[.int .i64 1] 1 hDr (by unfold maxLen; omega) rfl
        have hsrc := HOW.out.alloc (.cells #[.int .i64 1] 3)
        have h1c : ∀ u ∈ l.map (Value.int .i64), u.oneCell' = true := by
          intro u hu
          obtain ⟨z, _, rfl⟩ := List.mem_map.1 hu
          rfl
        go_wp2_with (at_builtin; refine wpList_append_more rfl _ _ 47 rfl D D 3 j0 (.int .i64 0) 8 Tryd.underlying47 hj hq0 hq1 hq2 rfl _ _ _ rfl hnew _ _ _ rfl hsrc h1c ?c3 ?c4 ?c5 ?_)
        case c3 => unfold maxLen; omega
        case c4 => omega
        case c5 => simp; omega
        intro v1 w1 hown1 hgr1
        have hB1 : Below D w w1 := (hB0.alloc hDr _).grown hgr1 (by simp; omega) (fun k hk => by have : wr.heap.size = k := Option.some.inj hk; omega)
        have hD1 : D ≤ w1.heap.size := by have := hgr1.size; simp at this; omega
        have hown1 : w1.ownsRow D 3 1 v1 (l.length + 1) (((1 : Int) :: l).map (Value.int .i64)) := by rw [Nat.add_comm]; exact hown1
        generalize hl1 : (1 : Int) :: l = l1 at *
        have hlen : l1.length = l.length + 1 := by rw [← hl1]; rfl
        rw [← hlen] at hown1
        have hM1 : 1 ≤ l1.length := by omega
        have hM5 : l1.length ≤ 5001 := by omega
        obtain ⟨g1, cap1, rfl, hga, hgb, hgc, hgd⟩ := owns_form hown1 hM1
        clear hlen hl1 hgr1 hnew hsrc h1c hc0 HOW HO HOP hB0 hDr
        obtain ⟨y, hy, hcy, _⟩ := owns_cellAt hown1 (show l1.length - 1 < l1.length by omega)
        have hyr : 1 ≤ y ∧ y ≤ 12 := by
          rw [← hy.out]
          refine HFR.out _ ?_
          rw [List.getElem?_eq_getElem (by omega)]
          exact List.getElem_mem _
        have hyl : l1.getLastD 0 = y := by rw [last_get l1 hM1]; exact hy.out
        have hmi : ((l1.length : Nat) : Int) - 1 = ((l1.length - 1 : Nat) : Int) := by omega
        clear hy
        generalize hmq : l1.length - 1 = mq at *
        have hmq2 : mq < l1.length := by omega
        clear hmq
        have HOW1 := hide hown1
        by_cases hc : y < n ∧ (n - y) % 2 = 1
        · obtain ⟨hlt1, hodd⟩ := hc
          have HF2 : Hid (fill2 n l1 = l1 ++ [n]) := by show _ = _; unfold fill2; rw [hyl, if_pos ⟨hlt1, hodd⟩]
          have hcell1 : ∀ j u, [Value.int .i64 n][j]? = some u → (w1.alloc (.cells #[.int .i64 n] 3)).cell? ((⟨w1.heap.size, 0, none⟩ : Addr).add j) = some u := cell_one_new _ _ _
          clear hyl
          go_wp2_with (at_builtin; refine wpList_append_own _ rfl _ _ 47 rfl D 3 j0 (.int .i64 0) 1 8 Tryd.underlying47 hj hq0 hq1 hq2 rfl (by decide) _ _ _ rfl (hown1.alloc _) ⟨w1.heap.size, 0, none⟩ 1 1 [.int .i64 n] rfl rfl ?d1 ?d2 ?d3 ?d4 ?d5 ?_)
          case d1 => exact hcell1
          case d2 => intro u hu; simp at hu; subst hu; rfl
          case d3 => unfold maxLen; omega
          case d4 => omega
          case d5 => simp; omega
          intro v5 w5 hown5 hgr5 _
          have hB5 : Below D w w5 := (hB1.alloc hD1 _).grown hgr5 (by simp; omega) (fun k hk => (hown1.lt k hk).1)
          have hown6 : w5.ownsRow D 3 1 v5 (l1 ++ [n]).length ((l1 ++ [n]).map (Value.int .i64)) := by
            rw [List.length_append, List.map_append]; exact hown5
          clear hown5 hgr5
          obtain ⟨vp, vc, hve⟩ := owns_slice hown6
          have HEQ : Hid (fill2 n (fill1 l) = l1 ++ [n]) := by show _ = _; rw [hf1.out, HF2.out]
          have HC := hide (changeMay_any n _ _ w5 hn1 hn2 (Ints.own hown6))
          have HPOST : Hid (∀ e, e = Ending.returned (.tuple #[v5, .int .i64 (pck n (l1 ++ [n]))]) → EndedPost n D l w e w5) := by
            intro e he
            subst he
            refine ⟨hB5, _, by rw [HEQ.out], fun _ => ?_⟩
            rw [HEQ.out]
            exact hown6
          have HVE : Hid True := trivial
          clear hown6 hB5 HF2 HEQ hown1 HOW1 HVE
          generalize pck n (l1 ++ [n]) = z at *
          generalize (l1 ++ [n]).length = ln at *
          subst hve
          go_wp2_with fail
          refine HC.out.mono ?_
          rintro e w' ⟨rfl, rfl⟩
          go_wp2
          go_ret2
          exact HPOST.out _ rfl
        · have HF2 : Hid (fill2 n l1 = l1) := by show _ = _; unfold fill2; rw [hyl, if_neg hc]
          clear hyl
          have HEQ : Hid (fill2 n (fill1 l) = l1) := by show _ = _; rw [hf1.out, HF2.out]
          have HC := hide (changeMay_any n _ _ w1 hn1 hn2 (Ints.own HOW1.out))
          have HPOST : Hid (∀ e, e = Ending.returned (.tuple #[Value.slice (some ⟨g1, 0, none⟩) l1.length cap1, .int .i64 (pck n (l1))]) → EndedPost n D l w e w1) := by
            intro e he
            subst he
            refine ⟨hB1, _, by rw [HEQ.out], fun _ => ?_⟩
            rw [HEQ.out]
            exact HOW1.out
          clear HF2 HEQ hown1 HOW1
          generalize pck n l1 = z at *
          by_cases hlt1 : y < n
          · have hodd : ((n - y) % 2 == 1) = false := by rw [beq_eq_false_iff_ne]; omega
            clear hc
            go_wp2_with fail
            refine HC.out.mono ?_
            rintro e w' ⟨rfl, rfl⟩
            go_wp2
            go_ret2
            exact HPOST.out _ rfl
          · clear hc
            go_wp2_with fail
            refine HC.out.mono ?_
            rintro e w' ⟨rfl, rfl⟩
            go_wp2
            go_ret2
            exact HPOST.out _ rfl
      · have hf1 : Hid (fill1 l = l) := by show _ = _; unfold fill1; rw [hhd, if_neg hev]
        have hd0 : (y0 % 2 == 0) = false := by simpa using hev
        have HFR := hide (fill1_range HOP.out)
        rw [hf1.out] at HFR
        clear hev hhd
        have hown1 := HOW.out
        have hB1 := hB0
        have hD1 := hDr
        have hM5 : l.length ≤ 5001 := by omega
        have hM1 := hpos
        obtain ⟨y, hy, hcy, _⟩ := owns_cellAt hown1 (show l.length - 1 < l.length by omega)
        have hyr : 1 ≤ y ∧ y ≤ 12 := by
          rw [← hy.out]
          refine HFR.out _ ?_
          rw [List.getElem?_eq_getElem (by omega)]
          exact List.getElem_mem _
        have hyl : l.getLastD 0 = y := by rw [last_get l hM1]; exact hy.out
        have hmi : ((l.length : Nat) : Int) - 1 = ((l.length - 1 : Nat) : Int) := by omega
        clear hy
        generalize hmq : l.length - 1 = mq at *
        have hmq2 : mq < l.length := by omega
        clear hmq
        have HOW1 := hide hown1
        by_cases hc : y < n ∧ (n - y) % 2 = 1
        · obtain ⟨hlt1, hodd⟩ := hc
          have HF2 : Hid (fill2 n l = l ++ [n]) := by show _ = _; unfold fill2; rw [hyl, if_pos ⟨hlt1, hodd⟩]
          have hcell1 : ∀ j u, [Value.int .i64 n][j]? = some u → (wr.alloc (.cells #[.int .i64 n] 3)).cell? ((⟨wr.heap.size, 0, none⟩ : Addr).add j) = some u := cell_one_new _ _ _
          clear hyl
          go_wp2_with (at_builtin; refine wpList_append_own _ rfl _ _ 47 rfl D 3 j0 (.int .i64 0) 1 8 Tryd.underlying47 hj hq0 hq1 hq2 rfl (by decide) _ _ _ rfl (hown1.alloc _) ⟨wr.heap.size, 0, none⟩ 1 1 [.int .i64 n] rfl rfl ?d1 ?d2 ?d3 ?d4 ?d5 ?_)
          case d1 => exact hcell1
          case d2 => intro u hu; simp at hu; subst hu; rfl
          case d3 => unfold maxLen; omega
          case d4 => omega
          case d5 => simp; omega
          intro v5 w5 hown5 hgr5 _
          have hB5 : Below D w w5 := (hB1.alloc hD1 _).grown hgr5 (by simp; omega) (fun k hk => (hown1.lt k hk).1)
          have hown6 : w5.ownsRow D 3 1 v5 (l ++ [n]).length ((l ++ [n]).map (Value.int .i64)) := by
            rw [List.length_append, List.map_append]; exact hown5
          clear hown5 hgr5
          obtain ⟨vp, vc, hve⟩ := owns_slice hown6
          have HEQ : Hid (fill2 n (fill1 l) = l ++ [n]) := by show _ = _; rw [hf1.out, HF2.out]
          have HC := hide (changeMay_any n _ _ w5 hn1 hn2 (Ints.own hown6))
          have HPOST : Hid (∀ e, e = Ending.returned (.tuple #[v5, .int .i64 (pck n (l ++ [n]))]) → EndedPost n D l w e w5) := by
            intro e he
            subst he
            refine ⟨hB5, _, by rw [HEQ.out], fun _ => ?_⟩
            rw [HEQ.out]
            exact hown6
          have HVE : Hid True := trivial
          clear hown6 hB5 HF2 HEQ hown1 HOW1 HVE
          generalize pck n (l ++ [n]) = z at *
          generalize (l ++ [n]).length = ln at *
          subst hve
          go_wp2_with fail
          refine HC.out.mono ?_
          rintro e w' ⟨rfl, rfl⟩
          go_wp2
          go_ret2
          exact HPOST.out _ rfl
        · have HF2 : Hid (fill2 n l = l) := by show _ = _; unfold fill2; rw [hyl, if_neg hc]
          clear hyl
          have HEQ : Hid (fill2 n (fill1 l) = l) := by show _ = _; rw [hf1.out, HF2.out]
          have HC := hide (changeMay_any n _ _ wr hn1 hn2 (Ints.own HOW1.out))
          have HPOST : Hid (∀ e, e = Ending.returned (.tuple #[Value.slice (some ⟨g, 0, none⟩) l.length cap, .int .i64 (pck n (l))]) → EndedPost n D l w e wr) := by
            intro e he
            subst he
            refine ⟨hB1, _, by rw [HEQ.out], fun _ => ?_⟩
            rw [HEQ.out]
            exact HOW1.out
          clear HF2 HEQ hown1 HOW1
          generalize pck n l = z at *
          by_cases hlt1 : y < n
          · have hodd : ((n - y) % 2 == 1) = false := by rw [beq_eq_false_iff_ne]; omega
            clear hc
            go_wp2_with fail
            refine HC.out.mono ?_
            rintro e w' ⟨rfl, rfl⟩
            go_wp2
            go_ret2
            exact HPOST.out _ rfl
          · clear hc
            go_wp2_with fail
            refine HC.out.mono ?_
            rintro e w' ⟨rfl, rfl⟩
            go_wp2
            go_ret2
            exact HPOST.out _ rfl

end Go.Proofs.YtfngadfkopfhcaaDoor
