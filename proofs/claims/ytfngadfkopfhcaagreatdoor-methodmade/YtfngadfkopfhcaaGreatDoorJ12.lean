/- Joined: Rd7, Rd8, PPl, Ended, PPm, PrsA, ItA, PrsB, PrsC. -/
import Derived.Test.YtfngadfkopfhcaaGreatDoorJ11
import Derived.Test.YtfngadfkopfhcaaGreatDoorJ2
import Derived.Test.YtfngadfkopfhcaaGreatDoorJ3
import Derived.Test.YtfngadfkopfhcaaGreatDoorJ7
import Derived.Test.YtfngadfkopfhcaaGreatDoorJ4
import Derived.Defers
import Derived.Recover
import Derived.Test.YtfngadfkopfhcaaGreatDoorJ1
/- Contract: (*reader).take of a rune that is no sign. (Written by mktk2.py.) -/
namespace Go.Proofs.YtfngadfkopfhcaaGreatDoor
open Go.RowKit

theorem take_split (n : Int) (st : RS) (c : Nat) : Hid ((st.endSigns n).1 = 0 → st.take n c (-1) = (st.endSigns n).2.other n c) ∧ Hid ((st.endSigns n).1 ≠ 0 → st.take n c (-1) = st.endSigns n) := by
  constructor
  · intro h; unfold RS.take; rw [if_neg (by decide), if_pos h]
  · intro h; unfold RS.take; rw [if_neg (by decide), if_neg h]

set_option maxRecDepth 20000 in
set_option maxHeartbeats 4000000 in
theorem take_x (R : Nat) (n : Int) (k : Nat) (st : RS) (w : World) (h : Rd w R n st) (hf : RS.Fine k st) (hk : k ≤ 5000) (hn1 : 1 ≤ n) (hn2 : n ≤ 12) :
    Calls Tryz.prog 79 #[.pointer (some ⟨R, 0, none⟩), .int .i32 (120 : Nat)] w fun e w' => Goes w R n (st.take n 120 (-1)) e w' := by
  obtain ⟨HTk, HTb⟩ := take_split n st 120
  have HIX := hide (indexRune_any 120 w (by omega) (by omega))
  rw [show si 120 = -1 from by decide +kernel] at HIX
  have hF1 : (st.endSigns n).1 = 0 → RS.Fine k (st.endSigns n).2 ∧ (st.endSigns n).2.opn = [] := fun h0 => hf.endSigns h0
  have HF1 := hide hF1
  have hRl : R < w.heap.size := by obtain ⟨_, _, _, _, _, _, h'⟩ := h; exact h'.lt
  have HES := hide (fun W (hb : Below w.heap.size w W) => endSigns_any R n st W (by obtain ⟨D, av, bv, ov, avs, bvs, h'⟩ := h; exact ⟨D, av, bv, ov, avs, bvs, h'.later hb⟩) hn1 hn2 (Nat.le_trans hf.block (by omega)) hf.signs (Nat.le_trans hf.opn hk))
  clear h hf hF1
  go_enter Tryz.func79, Tryz.ntmps79
  go_wp2_with fail
  refine HIX.out.mono ?_
  rintro e w1 ⟨rfl, hb1⟩
  have hB1 : Bel R w w1 := Bel.of hb1 (by omega)
  have HE1 := hide (HES.out w1 hb1)
  clear HIX HES hb1
  go_wp2_with fail
  refine HE1.out.mono ?_
  rintro e w2 hgo
  have hB2 : Bel R w w2 := hB1.trans hgo.1
  rcases hgo.2 with ⟨h0, he, hR2⟩ | ⟨h0, he⟩
  · subst he
    have HT := hide (HTk.out h0)
    obtain ⟨hFi, hop⟩ := HF1.out h0
    have HFi := hide hFi
    have HOp := hide hop
    have HR2 := hide hR2
    generalize (st.endSigns n).2 = st2 at *
    clear hgo hFi hop HE1 HTk HTb HF1 hR2 hB1
    obtain ⟨D2, av, bv, ov, avs, bvs, h2⟩ := HR2.out
    obtain rfl := h2.nilo HOp.out
    have HAD := hide (add_any R D2 n av bv avs bvs st2 (.slice none 0 0) [] w2 h2 HOp.out hn1 hn2 (by rw [h2.block.len]; exact Nat.le_trans HFi.out.block (by omega)) (World.ownsRow_nil _ _ _ _))
    have hF : Hid (st.take n 120 (-1) = st2.add n []) := by show _ = _; rw [HT.out]; rfl
    clear h2 HR2
    go_wp2_with fail
    refine HAD.out.mono ?_
    rintro e w6 hgo
    have hgo2 : Goes w R n (st.take n 120 (-1)) e w6 := by rw [hF.out]; exact hgo.after hB2
    have HG := hide hgo2
    rcases hgo2.2 with ⟨_, he, _⟩ | ⟨_, he⟩
    · subst he
      clear hgo hgo2
      go_wp2
      first
        | exact bodyPost_end (results_none rfl _ _ _) rfl HG.out
        | exact bodyPost_ret (results_none rfl _ _ _) rfl HG.out
    · subst he
      clear hgo hgo2
      unfold thrown
      go_wp2
      exact ⟨rfl, HG.out⟩
  · subst he
    have HG : Hid (Goes w R n (st.take n 120 (-1)) (thrown (st.endSigns n).1) w2) := Goes.bad (by rw [HTb.out h0]) h0 hB2
    clear hgo HE1
    generalize (st.endSigns n).1 = code at *
    unfold thrown
    go_wp2
    exact ⟨rfl, HG.out⟩

set_option maxRecDepth 20000 in
set_option maxHeartbeats 4000000 in
theorem take_X (R : Nat) (n : Int) (k : Nat) (st : RS) (w : World) (h : Rd w R n st) (hf : RS.Fine k st) (hk : k ≤ 5000) (hn1 : 1 ≤ n) (hn2 : n ≤ 12) :
    Calls Tryz.prog 79 #[.pointer (some ⟨R, 0, none⟩), .int .i32 (88 : Nat)] w fun e w' => Goes w R n (st.take n 88 (-1)) e w' := by
  obtain ⟨HTk, HTb⟩ := take_split n st 88
  have HIX := hide (indexRune_any 88 w (by omega) (by omega))
  rw [show si 88 = -1 from by decide +kernel] at HIX
  have hF1 : (st.endSigns n).1 = 0 → RS.Fine k (st.endSigns n).2 ∧ (st.endSigns n).2.opn = [] := fun h0 => hf.endSigns h0
  have HF1 := hide hF1
  have hRl : R < w.heap.size := by obtain ⟨_, _, _, _, _, _, h'⟩ := h; exact h'.lt
  have HES := hide (fun W (hb : Below w.heap.size w W) => endSigns_any R n st W (by obtain ⟨D, av, bv, ov, avs, bvs, h'⟩ := h; exact ⟨D, av, bv, ov, avs, bvs, h'.later hb⟩) hn1 hn2 (Nat.le_trans hf.block (by omega)) hf.signs (Nat.le_trans hf.opn hk))
  clear h hf hF1
  go_enter Tryz.func79, Tryz.ntmps79
  go_wp2_with fail
  refine HIX.out.mono ?_
  rintro e w1 ⟨rfl, hb1⟩
  have hB1 : Bel R w w1 := Bel.of hb1 (by omega)
  have HE1 := hide (HES.out w1 hb1)
  clear HIX HES hb1
  go_wp2_with fail
  refine HE1.out.mono ?_
  rintro e w2 hgo
  have hB2 : Bel R w w2 := hB1.trans hgo.1
  rcases hgo.2 with ⟨h0, he, hR2⟩ | ⟨h0, he⟩
  · subst he
    have HT := hide (HTk.out h0)
    obtain ⟨hFi, hop⟩ := HF1.out h0
    have HFi := hide hFi
    have HOp := hide hop
    have HR2 := hide hR2
    generalize (st.endSigns n).2 = st2 at *
    clear hgo hFi hop HE1 HTk HTb HF1 hR2 hB1
    obtain ⟨D2, av, bv, ov, avs, bvs, h2⟩ := HR2.out
    obtain rfl := h2.nilo HOp.out
    have HAD := hide (add_any R D2 n av bv avs bvs st2 (.slice none 0 0) [] w2 h2 HOp.out hn1 hn2 (by rw [h2.block.len]; exact Nat.le_trans HFi.out.block (by omega)) (World.ownsRow_nil _ _ _ _))
    have hF : Hid (st.take n 88 (-1) = st2.add n []) := by show _ = _; rw [HT.out]; rfl
    clear h2 HR2
    go_wp2_with fail
    refine HAD.out.mono ?_
    rintro e w6 hgo
    have hgo2 : Goes w R n (st.take n 88 (-1)) e w6 := by rw [hF.out]; exact hgo.after hB2
    have HG := hide hgo2
    rcases hgo2.2 with ⟨_, he, _⟩ | ⟨_, he⟩
    · subst he
      clear hgo hgo2
      go_wp2
      first
        | exact bodyPost_end (results_none rfl _ _ _) rfl HG.out
        | exact bodyPost_ret (results_none rfl _ _ _) rfl HG.out
    · subst he
      clear hgo hgo2
      unfold thrown
      go_wp2
      exact ⟨rfl, HG.out⟩
  · subst he
    have HG : Hid (Goes w R n (st.take n 88 (-1)) (thrown (st.endSigns n).1) w2) := Goes.bad (by rw [HTb.out h0]) h0 hB2
    clear hgo HE1
    generalize (st.endSigns n).1 = code at *
    unfold thrown
    go_wp2
    exact ⟨rfl, HG.out⟩

set_option maxRecDepth 20000 in
set_option maxHeartbeats 4000000 in
theorem take_dash (R : Nat) (n : Int) (k : Nat) (st : RS) (w : World) (h : Rd w R n st) (hf : RS.Fine k st) (hk : k ≤ 5000) (hn1 : 1 ≤ n) (hn2 : n ≤ 12) :
    Calls Tryz.prog 79 #[.pointer (some ⟨R, 0, none⟩), .int .i32 (45 : Nat)] w fun e w' => Goes w R n (st.take n 45 (-1)) e w' := by
  obtain ⟨HTk, HTb⟩ := take_split n st 45
  have HIX := hide (indexRune_any 45 w (by omega) (by omega))
  rw [show si 45 = -1 from by decide +kernel] at HIX
  have hF1 : (st.endSigns n).1 = 0 → RS.Fine k (st.endSigns n).2 ∧ (st.endSigns n).2.opn = [] := fun h0 => hf.endSigns h0
  have HF1 := hide hF1
  have hRl : R < w.heap.size := by obtain ⟨_, _, _, _, _, _, h'⟩ := h; exact h'.lt
  have HES := hide (fun W (hb : Below w.heap.size w W) => endSigns_any R n st W (by obtain ⟨D, av, bv, ov, avs, bvs, h'⟩ := h; exact ⟨D, av, bv, ov, avs, bvs, h'.later hb⟩) hn1 hn2 (Nat.le_trans hf.block (by omega)) hf.signs (Nat.le_trans hf.opn hk))
  clear h hf hF1
  go_enter Tryz.func79, Tryz.ntmps79
  go_wp2_with fail
  refine HIX.out.mono ?_
  rintro e w1 ⟨rfl, hb1⟩
  have hB1 : Bel R w w1 := Bel.of hb1 (by omega)
  have HE1 := hide (HES.out w1 hb1)
  clear HIX HES hb1
  go_wp2_with fail
  refine HE1.out.mono ?_
  rintro e w2 hgo
  have hB2 : Bel R w w2 := hB1.trans hgo.1
  rcases hgo.2 with ⟨h0, he, hR2⟩ | ⟨h0, he⟩
  · subst he
    have HT := hide (HTk.out h0)
    obtain ⟨hFi, hop⟩ := HF1.out h0
    have HFi := hide hFi
    have HOp := hide hop
    have HR2 := hide hR2
    generalize (st.endSigns n).2 = st2 at *
    clear hgo hFi hop HE1 HTk HTb HF1 hR2 hB1
    obtain ⟨D2, av, bv, ov, avs, bvs, h2⟩ := HR2.out
    obtain rfl := h2.nilo HOp.out
    have HAD := hide (add_any R D2 n av bv avs bvs st2 (.slice none 0 0) [] w2 h2 HOp.out hn1 hn2 (by rw [h2.block.len]; exact Nat.le_trans HFi.out.block (by omega)) (World.ownsRow_nil _ _ _ _))
    have hF : Hid (st.take n 45 (-1) = st2.add n []) := by show _ = _; rw [HT.out]; rfl
    clear h2 HR2
    go_wp2_with fail
    refine HAD.out.mono ?_
    rintro e w6 hgo
    have hgo2 : Goes w R n (st.take n 45 (-1)) e w6 := by rw [hF.out]; exact hgo.after hB2
    have HG := hide hgo2
    rcases hgo2.2 with ⟨_, he, _⟩ | ⟨_, he⟩
    · subst he
      clear hgo hgo2
      go_wp2
      first
        | exact bodyPost_end (results_none rfl _ _ _) rfl HG.out
        | exact bodyPost_ret (results_none rfl _ _ _) rfl HG.out
    · subst he
      clear hgo hgo2
      unfold thrown
      go_wp2
      exact ⟨rfl, HG.out⟩
  · subst he
    have HG : Hid (Goes w R n (st.take n 45 (-1)) (thrown (st.endSigns n).1) w2) := Goes.bad (by rw [HTb.out h0]) h0 hB2
    clear hgo HE1
    generalize (st.endSigns n).1 = code at *
    unfold thrown
    go_wp2
    exact ⟨rfl, HG.out⟩

set_option maxRecDepth 20000 in
set_option maxHeartbeats 4000000 in
theorem take_cross (R : Nat) (n : Int) (k : Nat) (st : RS) (w : World) (h : Rd w R n st) (hf : RS.Fine k st) (hk : k ≤ 5000) (hn1 : 1 ≤ n) (hn2 : n ≤ 12) :
    Calls Tryz.prog 79 #[.pointer (some ⟨R, 0, none⟩), .int .i32 (215 : Nat)] w fun e w' => Goes w R n (st.take n 215 (-1)) e w' := by
  obtain ⟨HTk, HTb⟩ := take_split n st 215
  have HIX := hide (indexRune_any 215 w (by omega) (by omega))
  rw [show si 215 = -1 from by decide +kernel] at HIX
  have hF1 : (st.endSigns n).1 = 0 → RS.Fine k (st.endSigns n).2 ∧ (st.endSigns n).2.opn = [] := fun h0 => hf.endSigns h0
  have HF1 := hide hF1
  have hRl : R < w.heap.size := by obtain ⟨_, _, _, _, _, _, h'⟩ := h; exact h'.lt
  have HES := hide (fun W (hb : Below w.heap.size w W) => endSigns_any R n st W (by obtain ⟨D, av, bv, ov, avs, bvs, h'⟩ := h; exact ⟨D, av, bv, ov, avs, bvs, h'.later hb⟩) hn1 hn2 (Nat.le_trans hf.block (by omega)) hf.signs (Nat.le_trans hf.opn hk))
  clear h hf hF1
  go_enter Tryz.func79, Tryz.ntmps79
  go_wp2_with fail
  refine HIX.out.mono ?_
  rintro e w1 ⟨rfl, hb1⟩
  have hB1 : Bel R w w1 := Bel.of hb1 (by omega)
  have HE1 := hide (HES.out w1 hb1)
  clear HIX HES hb1
  go_wp2_with fail
  refine HE1.out.mono ?_
  rintro e w2 hgo
  have hB2 : Bel R w w2 := hB1.trans hgo.1
  rcases hgo.2 with ⟨h0, he, hR2⟩ | ⟨h0, he⟩
  · subst he
    have HT := hide (HTk.out h0)
    obtain ⟨hFi, hop⟩ := HF1.out h0
    have HFi := hide hFi
    have HOp := hide hop
    have HR2 := hide hR2
    generalize (st.endSigns n).2 = st2 at *
    clear hgo hFi hop HE1 HTk HTb HF1 hR2 hB1
    obtain ⟨D2, av, bv, ov, avs, bvs, h2⟩ := HR2.out
    obtain rfl := h2.nilo HOp.out
    have HAD := hide (add_any R D2 n av bv avs bvs st2 (.slice none 0 0) [] w2 h2 HOp.out hn1 hn2 (by rw [h2.block.len]; exact Nat.le_trans HFi.out.block (by omega)) (World.ownsRow_nil _ _ _ _))
    have hF : Hid (st.take n 215 (-1) = st2.add n []) := by show _ = _; rw [HT.out]; rfl
    clear h2 HR2
    go_wp2_with fail
    refine HAD.out.mono ?_
    rintro e w6 hgo
    have hgo2 : Goes w R n (st.take n 215 (-1)) e w6 := by rw [hF.out]; exact hgo.after hB2
    have HG := hide hgo2
    rcases hgo2.2 with ⟨_, he, _⟩ | ⟨_, he⟩
    · subst he
      clear hgo hgo2
      go_wp2
      first
        | exact bodyPost_end (results_none rfl _ _ _) rfl HG.out
        | exact bodyPost_ret (results_none rfl _ _ _) rfl HG.out
    · subst he
      clear hgo hgo2
      unfold thrown
      go_wp2
      exact ⟨rfl, HG.out⟩
  · subst he
    have HG : Hid (Goes w R n (st.take n 215 (-1)) (thrown (st.endSigns n).1) w2) := Goes.bad (by rw [HTb.out h0]) h0 hB2
    clear hgo HE1
    generalize (st.endSigns n).1 = code at *
    unfold thrown
    go_wp2
    exact ⟨rfl, HG.out⟩

set_option maxRecDepth 20000 in
set_option maxHeartbeats 4000000 in
theorem take_dot (R : Nat) (n : Int) (k : Nat) (st : RS) (w : World) (h : Rd w R n st) (hf : RS.Fine k st) (hk : k ≤ 5000) (hn1 : 1 ≤ n) (hn2 : n ≤ 12) :
    Calls Tryz.prog 79 #[.pointer (some ⟨R, 0, none⟩), .int .i32 (46 : Nat)] w fun e w' => Goes w R n (st.take n 46 (-1)) e w' := by
  obtain ⟨HTk, HTb⟩ := take_split n st 46
  have HIX := hide (indexRune_any 46 w (by omega) (by omega))
  rw [show si 46 = -1 from by decide +kernel] at HIX
  have hF1 : (st.endSigns n).1 = 0 → RS.Fine k (st.endSigns n).2 ∧ (st.endSigns n).2.opn = [] := fun h0 => hf.endSigns h0
  have HF1 := hide hF1
  have hRl : R < w.heap.size := by obtain ⟨_, _, _, _, _, _, h'⟩ := h; exact h'.lt
  have HES := hide (fun W (hb : Below w.heap.size w W) => endSigns_any R n st W (by obtain ⟨D, av, bv, ov, avs, bvs, h'⟩ := h; exact ⟨D, av, bv, ov, avs, bvs, h'.later hb⟩) hn1 hn2 (Nat.le_trans hf.block (by omega)) hf.signs (Nat.le_trans hf.opn hk))
  clear h hf hF1
  go_enter Tryz.func79, Tryz.ntmps79
  go_wp2_with fail
  refine HIX.out.mono ?_
  rintro e w1 ⟨rfl, hb1⟩
  have hB1 : Bel R w w1 := Bel.of hb1 (by omega)
  have HE1 := hide (HES.out w1 hb1)
  clear HIX HES hb1
  go_wp2_with fail
  refine HE1.out.mono ?_
  rintro e w2 hgo
  have hB2 : Bel R w w2 := hB1.trans hgo.1
  rcases hgo.2 with ⟨h0, he, hR2⟩ | ⟨h0, he⟩
  · subst he
    have HT := hide (HTk.out h0)
    obtain ⟨hFi, hop⟩ := HF1.out h0
    have HFi := hide hFi
    have HOp := hide hop
    have HR2 := hide hR2
    generalize (st.endSigns n).2 = st2 at *
    clear hgo hFi hop HE1 HTk HTb HF1 hR2 hB1
    have HN := hide (needChange_any R n 4 st2 w2 HR2.out)
    go_wp2_with fail
    refine HN.out.mono ?_
    rintro e w' ⟨rfl, rfl⟩
    by_cases hne : st2.needs = true
    · rw [if_pos hne]
      have hF : Hid ((st.take n 46 (-1)).1 = 4) := by show _ = _; rw [HT.out]; show (RS.other n st2 46).1 = 4; unfold RS.other; simp [hne]
      unfold thrown
      go_wp2
      exact ⟨rfl, Goes.bad hF.out (by decide) hB2⟩
    · rw [if_neg hne]
      have hF : Hid (st.take n 46 (-1) = (0, { st2 with dot := true })) := by show _ = _; rw [HT.out]; show RS.other n st2 46 = _; unfold RS.other; simp [hne]
      obtain ⟨D2, av, bv, ov, avs, bvs, h2⟩ := HR2.out
      have c6 := (cells7 h2.blk).2.2.2.2.2.2
      have f6 := frozen7 h2.blk 6
      have hR3 := h2.flags st2.marked st2.mirrored true 6 (.bool true) rfl
      have HR3 := hide hR3
      have hB3 : Bel R w (w2.setCell ⟨R, 6, none⟩ (.bool true)) := hB2.setCell (p := ⟨R, 6, none⟩) (Nat.le_refl _) _
      clear h2 hR3 HN
      go_wp2
      first
        | exact bodyPost_end (results_none rfl _ _ _) rfl (Goes.ok hF.out hB3 ⟨_, _, _, _, _, _, HR3.out⟩)
        | exact bodyPost_ret (results_none rfl _ _ _) rfl (Goes.ok hF.out hB3 ⟨_, _, _, _, _, _, HR3.out⟩)
  · subst he
    have HG : Hid (Goes w R n (st.take n 46 (-1)) (thrown (st.endSigns n).1) w2) := Goes.bad (by rw [HTb.out h0]) h0 hB2
    clear hgo HE1
    generalize (st.endSigns n).1 = code at *
    unfold thrown
    go_wp2
    exact ⟨rfl, HG.out⟩

set_option maxRecDepth 20000 in
set_option maxHeartbeats 4000000 in
theorem take_comma (R : Nat) (n : Int) (k : Nat) (st : RS) (w : World) (h : Rd w R n st) (hf : RS.Fine k st) (hk : k ≤ 5000) (hn1 : 1 ≤ n) (hn2 : n ≤ 12) :
    Calls Tryz.prog 79 #[.pointer (some ⟨R, 0, none⟩), .int .i32 (44 : Nat)] w fun e w' => Goes w R n (st.take n 44 (-1)) e w' := by
  obtain ⟨HTk, HTb⟩ := take_split n st 44
  have HIX := hide (indexRune_any 44 w (by omega) (by omega))
  rw [show si 44 = -1 from by decide +kernel] at HIX
  have hF1 : (st.endSigns n).1 = 0 → RS.Fine k (st.endSigns n).2 ∧ (st.endSigns n).2.opn = [] := fun h0 => hf.endSigns h0
  have HF1 := hide hF1
  have hRl : R < w.heap.size := by obtain ⟨_, _, _, _, _, _, h'⟩ := h; exact h'.lt
  have HES := hide (fun W (hb : Below w.heap.size w W) => endSigns_any R n st W (by obtain ⟨D, av, bv, ov, avs, bvs, h'⟩ := h; exact ⟨D, av, bv, ov, avs, bvs, h'.later hb⟩) hn1 hn2 (Nat.le_trans hf.block (by omega)) hf.signs (Nat.le_trans hf.opn hk))
  clear h hf hF1
  go_enter Tryz.func79, Tryz.ntmps79
  go_wp2_with fail
  refine HIX.out.mono ?_
  rintro e w1 ⟨rfl, hb1⟩
  have hB1 : Bel R w w1 := Bel.of hb1 (by omega)
  have HE1 := hide (HES.out w1 hb1)
  clear HIX HES hb1
  go_wp2_with fail
  refine HE1.out.mono ?_
  rintro e w2 hgo
  have hB2 : Bel R w w2 := hB1.trans hgo.1
  rcases hgo.2 with ⟨h0, he, hR2⟩ | ⟨h0, he⟩
  · subst he
    have HT := hide (HTk.out h0)
    obtain ⟨hFi, hop⟩ := HF1.out h0
    have HFi := hide hFi
    have HOp := hide hop
    have HR2 := hide hR2
    generalize (st.endSigns n).2 = st2 at *
    clear hgo hFi hop HE1 HTk HTb HF1 hR2 hB1
    have HN := hide (needChange_any R n 4 st2 w2 HR2.out)
    go_wp2_with fail
    refine HN.out.mono ?_
    rintro e w' ⟨rfl, rfl⟩
    by_cases hne : st2.needs = true
    · rw [if_pos hne]
      have hF : Hid ((st.take n 44 (-1)).1 = 4) := by show _ = _; rw [HT.out]; show (RS.other n st2 44).1 = 4; unfold RS.other; simp [hne]
      unfold thrown
      go_wp2
      exact ⟨rfl, Goes.bad hF.out (by decide) hB2⟩
    · rw [if_neg hne]
      have hF : Hid (st.take n 44 (-1) = st2.endBlock) := by show _ = _; rw [HT.out]; show RS.other n st2 44 = _; unfold RS.other; simp [hne]
      have hbn : 1 ≤ st2.block.length := by
        cases hb : st2.block with
        | nil => exfalso; apply hne; unfold RS.needs; rw [hb]; rfl
        | cons a l => simp
      have HAD := hide (endBlock_any R n st2 w2 HR2.out HOp.out ⟨hbn, Nat.le_trans HFi.out.block (by omega)⟩ (Nat.le_trans HFi.out.all (by omega)) (fun j => Nat.le_trans (HFi.out.inner j) (by omega)))
      clear HN HR2 hbn
      go_wp2_with fail
      refine HAD.out.mono ?_
      rintro e w6 hgo
      have hgo2 : Goes w R n (st.take n 44 (-1)) e w6 := by rw [hF.out]; exact hgo.after hB2
      have HG := hide hgo2
      rcases hgo2.2 with ⟨_, he, _⟩ | ⟨_, he⟩
      · subst he
        clear hgo hgo2
        go_wp2
        first
          | exact bodyPost_end (results_none rfl _ _ _) rfl HG.out
          | exact bodyPost_ret (results_none rfl _ _ _) rfl HG.out
      · subst he
        clear hgo hgo2
        unfold thrown
        go_wp2
        exact ⟨rfl, HG.out⟩
  · subst he
    have HG : Hid (Goes w R n (st.take n 44 (-1)) (thrown (st.endSigns n).1) w2) := Goes.bad (by rw [HTb.out h0]) h0 hB2
    clear hgo HE1
    generalize (st.endSigns n).1 = code at *
    unfold thrown
    go_wp2
    exact ⟨rfl, HG.out⟩

set_option maxRecDepth 20000 in
set_option maxHeartbeats 4000000 in
theorem take_and (R : Nat) (n : Int) (k : Nat) (st : RS) (w : World) (h : Rd w R n st) (hf : RS.Fine k st) (hk : k ≤ 5000) (hn1 : 1 ≤ n) (hn2 : n ≤ 12) :
    Calls Tryz.prog 79 #[.pointer (some ⟨R, 0, none⟩), .int .i32 (38 : Nat)] w fun e w' => Goes w R n (st.take n 38 (-1)) e w' := by
  obtain ⟨HTk, HTb⟩ := take_split n st 38
  have HIX := hide (indexRune_any 38 w (by omega) (by omega))
  rw [show si 38 = -1 from by decide +kernel] at HIX
  have hF1 : (st.endSigns n).1 = 0 → RS.Fine k (st.endSigns n).2 ∧ (st.endSigns n).2.opn = [] := fun h0 => hf.endSigns h0
  have HF1 := hide hF1
  have hRl : R < w.heap.size := by obtain ⟨_, _, _, _, _, _, h'⟩ := h; exact h'.lt
  have HES := hide (fun W (hb : Below w.heap.size w W) => endSigns_any R n st W (by obtain ⟨D, av, bv, ov, avs, bvs, h'⟩ := h; exact ⟨D, av, bv, ov, avs, bvs, h'.later hb⟩) hn1 hn2 (Nat.le_trans hf.block (by omega)) hf.signs (Nat.le_trans hf.opn hk))
  clear h hf hF1
  go_enter Tryz.func79, Tryz.ntmps79
  go_wp2_with fail
  refine HIX.out.mono ?_
  rintro e w1 ⟨rfl, hb1⟩
  have hB1 : Bel R w w1 := Bel.of hb1 (by omega)
  have HE1 := hide (HES.out w1 hb1)
  clear HIX HES hb1
  go_wp2_with fail
  refine HE1.out.mono ?_
  rintro e w2 hgo
  have hB2 : Bel R w w2 := hB1.trans hgo.1
  rcases hgo.2 with ⟨h0, he, hR2⟩ | ⟨h0, he⟩
  · subst he
    have HT := hide (HTk.out h0)
    obtain ⟨hFi, hop⟩ := HF1.out h0
    have HFi := hide hFi
    have HOp := hide hop
    have HR2 := hide hR2
    generalize (st.endSigns n).2 = st2 at *
    clear hgo hFi hop HE1 HTk HTb HF1 hR2 hB1
    have HAD := hide (mark_any R n true st2 w2 HR2.out)
    have hF : Hid (st.take n 38 (-1) = st2.mark true) := by show _ = _; rw [HT.out]; rfl
    clear HR2
    go_wp2_with fail
    refine HAD.out.mono ?_
    rintro e w6 hgo
    have hgo2 : Goes w R n (st.take n 38 (-1)) e w6 := by rw [hF.out]; exact hgo.after hB2
    have HG := hide hgo2
    rcases hgo2.2 with ⟨_, he, _⟩ | ⟨_, he⟩
    · subst he
      clear hgo hgo2
      go_wp2
      first
        | exact bodyPost_end (results_none rfl _ _ _) rfl HG.out
        | exact bodyPost_ret (results_none rfl _ _ _) rfl HG.out
    · subst he
      clear hgo hgo2
      unfold thrown
      go_wp2
      exact ⟨rfl, HG.out⟩
  · subst he
    have HG : Hid (Goes w R n (st.take n 38 (-1)) (thrown (st.endSigns n).1) w2) := Goes.bad (by rw [HTb.out h0]) h0 hB2
    clear hgo HE1
    generalize (st.endSigns n).1 = code at *
    unfold thrown
    go_wp2
    exact ⟨rfl, HG.out⟩

set_option maxRecDepth 20000 in
set_option maxHeartbeats 4000000 in
theorem take_plus (R : Nat) (n : Int) (k : Nat) (st : RS) (w : World) (h : Rd w R n st) (hf : RS.Fine k st) (hk : k ≤ 5000) (hn1 : 1 ≤ n) (hn2 : n ≤ 12) :
    Calls Tryz.prog 79 #[.pointer (some ⟨R, 0, none⟩), .int .i32 (43 : Nat)] w fun e w' => Goes w R n (st.take n 43 (-1)) e w' := by
  obtain ⟨HTk, HTb⟩ := take_split n st 43
  have HIX := hide (indexRune_any 43 w (by omega) (by omega))
  rw [show si 43 = -1 from by decide +kernel] at HIX
  have hF1 : (st.endSigns n).1 = 0 → RS.Fine k (st.endSigns n).2 ∧ (st.endSigns n).2.opn = [] := fun h0 => hf.endSigns h0
  have HF1 := hide hF1
  have hRl : R < w.heap.size := by obtain ⟨_, _, _, _, _, _, h'⟩ := h; exact h'.lt
  have HES := hide (fun W (hb : Below w.heap.size w W) => endSigns_any R n st W (by obtain ⟨D, av, bv, ov, avs, bvs, h'⟩ := h; exact ⟨D, av, bv, ov, avs, bvs, h'.later hb⟩) hn1 hn2 (Nat.le_trans hf.block (by omega)) hf.signs (Nat.le_trans hf.opn hk))
  clear h hf hF1
  go_enter Tryz.func79, Tryz.ntmps79
  go_wp2_with fail
  refine HIX.out.mono ?_
  rintro e w1 ⟨rfl, hb1⟩
  have hB1 : Bel R w w1 := Bel.of hb1 (by omega)
  have HE1 := hide (HES.out w1 hb1)
  clear HIX HES hb1
  go_wp2_with fail
  refine HE1.out.mono ?_
  rintro e w2 hgo
  have hB2 : Bel R w w2 := hB1.trans hgo.1
  rcases hgo.2 with ⟨h0, he, hR2⟩ | ⟨h0, he⟩
  · subst he
    have HT := hide (HTk.out h0)
    obtain ⟨hFi, hop⟩ := HF1.out h0
    have HFi := hide hFi
    have HOp := hide hop
    have HR2 := hide hR2
    generalize (st.endSigns n).2 = st2 at *
    clear hgo hFi hop HE1 HTk HTb HF1 hR2 hB1
    have HAD := hide (mark_any R n false st2 w2 HR2.out)
    have hF : Hid (st.take n 43 (-1) = st2.mark false) := by show _ = _; rw [HT.out]; rfl
    clear HR2
    go_wp2_with fail
    refine HAD.out.mono ?_
    rintro e w6 hgo
    have hgo2 : Goes w R n (st.take n 43 (-1)) e w6 := by rw [hF.out]; exact hgo.after hB2
    have HG := hide hgo2
    rcases hgo2.2 with ⟨_, he, _⟩ | ⟨_, he⟩
    · subst he
      clear hgo hgo2
      go_wp2
      first
        | exact bodyPost_end (results_none rfl _ _ _) rfl HG.out
        | exact bodyPost_ret (results_none rfl _ _ _) rfl HG.out
    · subst he
      clear hgo hgo2
      unfold thrown
      go_wp2
      exact ⟨rfl, HG.out⟩
  · subst he
    have HG : Hid (Goes w R n (st.take n 43 (-1)) (thrown (st.endSigns n).1) w2) := Goes.bad (by rw [HTb.out h0]) h0 hB2
    clear hgo HE1
    generalize (st.endSigns n).1 = code at *
    unfold thrown
    go_wp2
    exact ⟨rfl, HG.out⟩

set_option maxRecDepth 20000 in
set_option maxHeartbeats 4000000 in
theorem take_none (R : Nat) (n : Int) (k : Nat) (c : Nat) (st : RS) (w : World) (h : Rd w R n st) (hf : RS.Fine k st) (hk : k ≤ 5000) (hn1 : 1 ≤ n) (hn2 : n ≤ 12) (h2 : c < 55296 ∨ 57343 < c) (h3 : c ≤ 1114111) (hs : si c = -1) (hc : c ≠ 120 ∧ c ≠ 88 ∧ c ≠ 45 ∧ c ≠ 215 ∧ c ≠ 46 ∧ c ≠ 44 ∧ c ≠ 38 ∧ c ≠ 43) :
    Calls Tryz.prog 79 #[.pointer (some ⟨R, 0, none⟩), .int .i32 (c : Nat)] w fun e w' => Goes w R n (st.take n c (-1)) e w' := by
  have e120 : ((c : Int) == 120) = false := by rw [beq_eq_false_iff_ne]; omega
  have e88 : ((c : Int) == 88) = false := by rw [beq_eq_false_iff_ne]; omega
  have e45 : ((c : Int) == 45) = false := by rw [beq_eq_false_iff_ne]; omega
  have e215 : ((c : Int) == 215) = false := by rw [beq_eq_false_iff_ne]; omega
  have e46 : ((c : Int) == 46) = false := by rw [beq_eq_false_iff_ne]; omega
  have e44 : ((c : Int) == 44) = false := by rw [beq_eq_false_iff_ne]; omega
  have e38 : ((c : Int) == 38) = false := by rw [beq_eq_false_iff_ne]; omega
  have e43 : ((c : Int) == 43) = false := by rw [beq_eq_false_iff_ne]; omega
  obtain ⟨HTk, HTb⟩ := take_split n st c
  have HIX := hide (indexRune_any c w (by omega) (by omega))
  rw [show si c = -1 from hs] at HIX
  have hF1 : (st.endSigns n).1 = 0 → RS.Fine k (st.endSigns n).2 ∧ (st.endSigns n).2.opn = [] := fun h0 => hf.endSigns h0
  have HF1 := hide hF1
  have hRl : R < w.heap.size := by obtain ⟨_, _, _, _, _, _, h'⟩ := h; exact h'.lt
  have HES := hide (fun W (hb : Below w.heap.size w W) => endSigns_any R n st W (by obtain ⟨D, av, bv, ov, avs, bvs, h'⟩ := h; exact ⟨D, av, bv, ov, avs, bvs, h'.later hb⟩) hn1 hn2 (Nat.le_trans hf.block (by omega)) hf.signs (Nat.le_trans hf.opn hk))
  clear h hf hF1
  go_enter Tryz.func79, Tryz.ntmps79
  go_wp2_with fail
  refine HIX.out.mono ?_
  rintro e w1 ⟨rfl, hb1⟩
  have hB1 : Bel R w w1 := Bel.of hb1 (by omega)
  have HE1 := hide (HES.out w1 hb1)
  clear HIX HES hb1
  go_wp2_with fail
  refine HE1.out.mono ?_
  rintro e w2 hgo
  have hB2 : Bel R w w2 := hB1.trans hgo.1
  rcases hgo.2 with ⟨h0, he, hR2⟩ | ⟨h0, he⟩
  · subst he
    have HT := hide (HTk.out h0)
    obtain ⟨hFi, hop⟩ := HF1.out h0
    have HFi := hide hFi
    have HOp := hide hop
    have HR2 := hide hR2
    generalize (st.endSigns n).2 = st2 at *
    clear hgo hFi hop HE1 HTk HTb HF1 hR2 hB1
    have hF : Hid ((st.take n c (-1)).1 = 4) := by show _ = _; rw [HT.out]; show (RS.other n st2 c).1 = 4; unfold RS.other; rw [if_neg (by omega), if_neg (by omega), if_neg (by omega), if_neg (by omega), if_neg (by omega)]
    go_wp2
    exact ⟨rfl, Goes.bad hF.out (by decide) hB2⟩
  · subst he
    have HG : Hid (Goes w R n (st.take n c (-1)) (thrown (st.endSigns n).1) w2) := Goes.bad (by rw [HTb.out h0]) h0 hB2
    clear hgo HE1
    generalize (st.endSigns n).1 = code at *
    unfold thrown
    go_wp2
    exact ⟨rfl, HG.out⟩


end Go.Proofs.YtfngadfkopfhcaaGreatDoor

/- Contracts: (*reader).take of any rune, (*reader).end. -/
namespace Go.Proofs.YtfngadfkopfhcaaGreatDoor
open Go.RowKit

theorem take_any (R : Nat) (n : Int) (k c : Nat) (st : RS) (w : World) (h : Rd w R n st) (hf : RS.Fine k st) (hk : k ≤ 5000) (hn1 : 1 ≤ n) (hn2 : n ≤ 12) (h2 : c < 55296 ∨ 57343 < c) (h3 : c ≤ 1114111) :
    Calls Tryz.prog 79 #[.pointer (some ⟨R, 0, none⟩), .int .i32 c] w fun e w' => Goes w R n (st.take n c (si c)) e w' := by
  by_cases hs : 0 ≤ si c
  · exact take_sign R n k c st w h hf hk h2 h3 hs
  · have hm : si c = -1 := by have := si_range c; omega
    rw [hm]
    by_cases e1 : c = 120
    · subst e1; exact take_x R n k st w h hf hk hn1 hn2
    by_cases e2 : c = 88
    · subst e2; exact take_X R n k st w h hf hk hn1 hn2
    by_cases e3 : c = 45
    · subst e3; exact take_dash R n k st w h hf hk hn1 hn2
    by_cases e4 : c = 215
    · subst e4; exact take_cross R n k st w h hf hk hn1 hn2
    by_cases e5 : c = 46
    · subst e5; exact take_dot R n k st w h hf hk hn1 hn2
    by_cases e6 : c = 44
    · subst e6; exact take_comma R n k st w h hf hk hn1 hn2
    by_cases e7 : c = 38
    · subst e7; exact take_and R n k st w h hf hk hn1 hn2
    by_cases e8 : c = 43
    · subst e8; exact take_plus R n k st w h hf hk hn1 hn2
    exact take_none R n k c st w h hf hk hn1 hn2 h2 h3 hm ⟨e1, e2, e3, e4, e5, e6, e7, e8⟩

set_option maxRecDepth 20000 in
set_option maxHeartbeats 4000000 in
theorem end_any (R : Nat) (n : Int) (k : Nat) (st : RS) (w : World) (h : Rd w R n st) (hf : RS.Fine k st) (hk : k ≤ 5000) (hn1 : 1 ≤ n) (hn2 : n ≤ 12) :
    Calls Tryz.prog 80 #[.pointer (some ⟨R, 0, none⟩)] w fun e w' => Goes w R n (st.fin n) e w' := by
  have HTk : Hid ((st.endSigns n).1 = 0 → st.fin n = if (st.endSigns n).2.needs = true then (5, (st.endSigns n).2) else (st.endSigns n).2.endBlock) := fun h0 => by unfold RS.fin; rw [if_pos h0]
  have HTb : Hid ((st.endSigns n).1 ≠ 0 → st.fin n = st.endSigns n) := fun h0 => by unfold RS.fin; rw [if_neg h0]
  have HF1 : Hid ((st.endSigns n).1 = 0 → RS.Fine k (st.endSigns n).2 ∧ (st.endSigns n).2.opn = []) := fun h0 => hf.endSigns h0
  have HES := hide (endSigns_any R n st w h hn1 hn2 (Nat.le_trans hf.block (by omega)) hf.signs (Nat.le_trans hf.opn hk))
  clear h hf
  go_enter Tryz.func80, Tryz.ntmps80
  go_wp2_with fail
  refine HES.out.mono ?_
  rintro e w2 hgo
  have hB2 : Bel R w w2 := hgo.1
  rcases hgo.2 with ⟨h0, he, hR2⟩ | ⟨h0, he⟩
  · subst he
    have HT := hide (HTk.out h0)
    obtain ⟨hFi, hop⟩ := HF1.out h0
    have HFi := hide hFi
    have HOp := hide hop
    have HR2 := hide hR2
    generalize (st.endSigns n).2 = st2 at *
    clear hgo hFi hop HES HTk HTb HF1 hR2
    have HN := hide (needChange_any R n 5 st2 w2 HR2.out)
    go_wp2_with fail
    refine HN.out.mono ?_
    rintro e w' ⟨rfl, rfl⟩
    by_cases hne : st2.needs = true
    · rw [if_pos hne]
      have hF : Hid ((st.fin n).1 = 5) := by show _ = _; rw [HT.out, if_pos hne]
      unfold thrown
      go_wp2
      exact ⟨rfl, Goes.bad hF.out (by decide) hB2⟩
    · rw [if_neg hne]
      have hF : Hid (st.fin n = st2.endBlock) := by show _ = _; rw [HT.out, if_neg hne]
      have hbn : 1 ≤ st2.block.length := by
        cases hb : st2.block with
        | nil => exfalso; apply hne; unfold RS.needs; rw [hb]; rfl
        | cons a l => simp
      have HAD := hide (endBlock_any R n st2 w2 HR2.out HOp.out ⟨hbn, Nat.le_trans HFi.out.block (by omega)⟩ (Nat.le_trans HFi.out.all (by omega)) (fun j => Nat.le_trans (HFi.out.inner j) (by omega)))
      clear HN HR2 hbn
      go_wp2_with fail
      refine HAD.out.mono ?_
      rintro e w6 hgo
      have hgo2 : Goes w R n (st.fin n) e w6 := by rw [hF.out]; exact hgo.after hB2
      have HG := hide hgo2
      rcases hgo2.2 with ⟨_, he, _⟩ | ⟨_, he⟩
      · subst he
        clear hgo hgo2
        go_wp2
        first
          | exact bodyPost_end (results_none rfl _ _ _) rfl HG.out
          | exact bodyPost_ret (results_none rfl _ _ _) rfl HG.out
      · subst he
        clear hgo hgo2
        unfold thrown
        go_wp2
        exact ⟨rfl, HG.out⟩
  · subst he
    have HG : Hid (Goes w R n (st.fin n) (thrown (st.endSigns n).1) w2) := Goes.bad (by rw [HTb.out h0]) h0 hB2
    clear hgo HES
    generalize (st.endSigns n).1 = code at *
    unfold thrown
    go_wp2
    exact ⟨rfl, HG.out⟩

theorem RS.Fine.take {k c : Nat} {n : Int} {st : RS} (h : RS.Fine k st) (h0 : (st.take n c (si c)).1 = 0) : RS.Fine (k + 1) (st.take n c (si c)).2 := by
  have hsr := si_range c
  unfold RS.take at h0 ⊢
  by_cases hs : 0 ≤ si c
  · rw [if_pos hs]
    refine ⟨h.block, h.all, fun x hx => ?_, ?_, fun j => Nat.le_trans (h.inner j) (by omega)⟩
    · rcases List.mem_append.1 hx with hx | hx
      · exact h.signs x hx
      · rw [List.mem_singleton.1 hx]; omega
    · have := h.opn
      show (st.opn ++ [si c + 1]).length ≤ k + 1
      rw [List.length_append]; simp; omega
  · rw [if_neg hs] at h0 ⊢
    by_cases hz : (st.endSigns n).1 = 0
    · rw [if_pos hz] at h0 ⊢
      have h2 := (h.endSigns hz).1
      refine RS.Fine.mono (k := k) ?_ (by omega)
      generalize (st.endSigns n).2 = st2 at *
      unfold RS.other at h0 ⊢
      split at h0
      · rename_i hc; rw [if_pos hc]; exact h2.add (by simp) h0
      · rename_i hc
        rw [if_neg hc]
        split at h0
        · rename_i hd
          rw [if_pos hd]
          split at h0
          · cases h0
          · rename_i hn; rw [if_neg hn]; exact ⟨h2.block, h2.all, h2.signs, h2.opn, h2.inner⟩
        · rename_i hd
          rw [if_neg hd]
          split at h0
          · rename_i he
            rw [if_pos he]
            split at h0
            · cases h0
            · rename_i hn
              rw [if_neg hn]
              unfold RS.endBlock at h0 ⊢
              refine ⟨Nat.zero_le _, ?_, h2.signs, h2.opn, fun j => by simp⟩
              by_cases hl : 200 < (st2.all ++ st2.block ++ st2.back).length
              · simp only [if_pos hl] at h0; cases h0
              · show (st2.all ++ st2.block ++ st2.back).length ≤ 200; omega
          · rename_i he
            rw [if_neg he]
            have hmk : ∀ m, (st2.mark m).1 = 0 → RS.Fine k (st2.mark m).2 := by
              intro m hm
              unfold RS.mark at hm ⊢
              split at hm
              · cases hm
              · rename_i hx; rw [if_neg hx]; exact ⟨h2.block, h2.all, h2.signs, h2.opn, h2.inner⟩
            split at h0
            · rename_i hf; rw [if_pos hf]; exact hmk true h0
            · rename_i hf
              rw [if_neg hf]
              split at h0
              · rename_i hg; rw [if_pos hg]; exact hmk false h0
              · cases h0
    · rw [if_neg hz] at h0; exact absurd h0 hz

end Go.Proofs.YtfngadfkopfhcaaGreatDoor

/- Plain: how far a text of changes has been read, rune by rune, as the answer does it. -/
namespace Go.Proofs.YtfngadfkopfhcaaGreatDoor
open Go.RowKit

def stp (n : Int) (cs : List Nat) (k : Nat) (st : RS) : Int × RS := if k < cs.length then st.take n (cs.getD k 0) (si (cs.getD k 0)) else st.fin n

/-- Behind k runes (the one behind all is the end). -/
def PR (n : Int) (cs : List Nat) (k : Nat) (st : RS) : Prop :=
  (k ≤ cs.length ∧ RS.run n si RS.new (cs.take k) = (0, st)) ∨ (k = cs.length + 1 ∧ ∃ st0, RS.run n si RS.new cs = (0, st0) ∧ st0.fin n = (0, st))

theorem PR.start (n : Int) (cs : List Nat) : PR n cs 0 RS.new := Or.inl ⟨Nat.zero_le _, rfl⟩

theorem takeN_snoc (cs : List Nat) (k : Nat) (h : k < cs.length) : cs.take (k + 1) = cs.take k ++ [cs.getD k 0] := by
  rw [List.take_add_one, List.getElem?_eq_getElem h]; simp [List.getD, List.getElem?_eq_getElem h]

theorem PR.step {n : Int} {cs : List Nat} {k : Nat} {st st' : RS} (h : PR n cs k st) (hk : k ≤ cs.length) (h0 : stp n cs k st = (0, st')) : PR n cs (k + 1) st' := by
  rcases h with ⟨_, h⟩ | ⟨h, _⟩
  · unfold stp at h0
    by_cases hlt : k < cs.length
    · rw [if_pos hlt] at h0
      exact Or.inl ⟨hlt, by rw [takeN_snoc cs k hlt, RS.run_snoc _ _ _ _ _ (by rw [h]), h]; exact h0⟩
    · rw [if_neg hlt] at h0
      rw [List.take_of_length_le (by omega)] at h
      exact Or.inr ⟨by omega, st, h, h0⟩
  · omega

theorem PR.bad {n : Int} {cs : List Nat} {k : Nat} {st : RS} {c : Int} (h : PR n cs k st) (hk : k ≤ cs.length) (h0 : (stp n cs k st).1 = c) (hc : c ≠ 0) : RS.parse n si cs = (c, []) := by
  rcases h with ⟨_, h⟩ | ⟨h, _⟩
  · unfold stp at h0
    unfold RS.parse
    by_cases hlt : k < cs.length
    · rw [if_pos hlt] at h0
      have h1 : RS.run n si RS.new (cs.take (k + 1)) = st.take n (cs.getD k 0) (si (cs.getD k 0)) := by rw [takeN_snoc cs k hlt, RS.run_snoc _ _ _ _ _ (by rw [h]), h]
      have h2 := RS.run_bad n si (cs.take (k + 1)) (cs.drop (k + 1)) RS.new (by rw [h1, h0]; exact hc)
      rw [List.take_append_drop] at h2
      rw [h2, h1, if_neg (by rw [h0]; exact hc), h0]
    · rw [if_neg hlt] at h0
      rw [List.take_of_length_le (by omega)] at h
      rw [h, if_pos rfl]
      show (if (st.fin n).1 = 0 then _ else _) = _
      rw [if_neg (by rw [h0]; exact hc), h0]
  · omega

theorem PR.done {n : Int} {cs : List Nat} {st : RS} (h : PR n cs (cs.length + 1) st) : RS.parse n si cs = (0, st.all) := by
  rcases h with ⟨h, _⟩ | ⟨_, st0, h1, h2⟩
  · omega
  · unfold RS.parse
    rw [h1, if_pos rfl]
    show (if (st0.fin n).1 = 0 then _ else _) = _
    rw [h2, if_pos rfl]

theorem sa_range (c : Int) : -1 ≤ sa c ∧ sa c ≤ 11 := by
  unfold sa
  split
  · exact si_range _
  · omega

/-- What stands at a place: a rune, or the end, told as a comma. -/
def RU (cs : List Nat) (k : Nat) (c : Int) : Prop := (k < cs.length ∧ (c = ((cs.getD k 0 : Nat) : Int) ∨ (c = -1 ∧ cs.getD k 0 = 65533))) ∨ (k = cs.length ∧ c = 44)

theorem ru_at (s : ByteArray) (k : Nat) (h : k ≤ (runesOf s).length) : RU (runesOf s) k ((arunes s ++ [44]).getD k 0) := by
  have hl := arunes_length s
  by_cases hlt : k < (runesOf s).length
  · refine Or.inl ⟨hlt, ?_⟩
    have := arunes_at s k hlt
    rw [List.getD_eq_getElem?_getD, List.getElem?_append_left (by omega), ← List.getD_eq_getElem?_getD]
    exact this
  · refine Or.inr ⟨by omega, ?_⟩
    rw [List.getD_eq_getElem?_getD, List.getElem?_append_right (by omega), show k - (arunes s).length = 0 by omega]
    rfl

/-- What a rune does that is no sign, behind the signs' end; e: it is the end. -/
def rest (n : Int) (st : RS) (c : Int) (e : Bool) : Int × RS :=
  if c = 120 ∨ c = 88 ∨ c = 45 ∨ c = 215 then st.add n []
  else if c = 46 then (if st.needs = true then (4, st) else (0, { st with dot := true }))
  else if c = 44 then (if st.needs = true then (if e = true then 5 else 4, st) else st.endBlock)
  else if c = 38 then st.mark true
  else if c = 43 then st.mark false
  else (4, st)

theorem stp_sign {n : Int} {cs : List Nat} {k : Nat} {st : RS} {c : Int} (hr : RU cs k c) (hs : 0 ≤ sa c) : stp n cs k st = (0, { st with opn := st.opn ++ [sa c + 1] }) := by
  have s44 : sa 44 = -1 := by decide
  rcases hr with ⟨hlt, rfl | ⟨rfl, _⟩⟩ | ⟨_, rfl⟩
  · unfold stp RS.take
    rw [if_pos hlt]
    have he : sa ((cs.getD k 0 : Nat) : Int) = si (cs.getD k 0) := by unfold sa; rw [if_pos (by omega)]; rfl
    rw [he] at hs ⊢
    rw [if_pos hs]
  · exact absurd hs (by decide)
  · omega

theorem stp_no {n : Int} {cs : List Nat} {k : Nat} {st : RS} {c : Int} (hr : RU cs k c) (hs : sa c < 0) :
    stp n cs k st = if (st.endSigns n).1 = 0 then rest n (st.endSigns n).2 c (decide (k = cs.length)) else st.endSigns n := by
  rcases hr with ⟨hlt, hc⟩ | ⟨hk, rfl⟩
  · unfold stp RS.take
    rw [if_pos hlt]
    have hsi : ¬ 0 ≤ si (cs.getD k 0) := by
      rcases hc with rfl | ⟨_, h2⟩
      · have he : sa ((cs.getD k 0 : Nat) : Int) = si (cs.getD k 0) := by unfold sa; rw [if_pos (by omega)]; rfl
        omega
      · rw [h2]; decide
    rw [if_neg hsi, decide_eq_false (by omega)]
    have hE : ∀ st1 : RS, st1.other n (cs.getD k 0) = rest n st1 c false := by
      intro st1
      unfold RS.other rest
      generalize cs.getD k 0 = r at *
      rcases hc with rfl | ⟨rfl, rfl⟩
      · have e1 : (r = 120 ∨ r = 88 ∨ r = 45 ∨ r = 215) ↔ ((r : Int) = 120 ∨ (r : Int) = 88 ∨ (r : Int) = 45 ∨ (r : Int) = 215) := by omega
        have e2 : r = 46 ↔ (r : Int) = 46 := by omega
        have e3 : r = 44 ↔ (r : Int) = 44 := by omega
        have e4 : r = 38 ↔ (r : Int) = 38 := by omega
        have e5 : r = 43 ↔ (r : Int) = 43 := by omega
        simp only [e1, e2, e3, e4, e5, Bool.false_eq_true, if_false]
      · rfl
    rw [hE]
  · unfold stp RS.fin
    rw [if_neg (by omega), decide_eq_true hk]
    rfl

/-- Does a block begin? -/
def bg (st : RS) : Bool := !st.marked && decide (st.block = []) && decide (st.opn = [])
/-- Was a dot the last? -/
def dt (st : RS) : Bool := st.dot && decide (st.opn = [])

theorem endSigns_flags {n : Int} {st : RS} (h : (st.endSigns n).1 = 0) : bg (st.endSigns n).2 = bg st ∧ dt (st.endSigns n).2 = dt st ∧ (st.endSigns n).2.mirrored = st.mirrored ∧ (st.endSigns n).2.opn = [] ∧ (st.endSigns n).2.all = st.all ∧ (st.endSigns n).2.block = st.block ++ (if st.opn = [] then [] else [fill2 n (fill1 st.opn)]) := by
  unfold RS.endSigns at *
  by_cases ho : st.opn = []
  · rw [if_pos ho]; simp [ho]
  · rw [if_neg ho] at h ⊢
    unfold RS.add at *
    by_cases hk : okc n 0 (fill2 n (fill1 st.opn)) = true
    · rw [if_pos hk] at h ⊢
      simp [bg, dt, ho]
    · rw [if_neg hk] at h
      exact absurd h (by simp)

end Go.Proofs.YtfngadfkopfhcaaGreatDoor

/- Contract: the answer's ended. (Written by mkended.py.) -/
namespace Go.Proofs.YtfngadfkopfhcaaGreatDoor
open Go.RowKit

/-- Each greater than the one ahead. -/
def rises (l : List Int) : Prop := ∀ j, j + 1 < l.length → l.getD j 0 < l.getD (j + 1) 0

theorem okc_rises (n : Int) : ∀ (ps : List Int) (last : Int), okc n last ps = true → (∀ x, ps.head? = some x → last < x) ∧ rises ps
  | [], _, _ => ⟨fun _ h => by simp at h, fun j h => by simp at h⟩
  | p :: ps, last, h => by
    unfold okc at h
    rw [Bool.and_eq_true, decide_eq_true_iff] at h
    obtain ⟨⟨h1, _, _⟩, h2⟩ := h
    obtain ⟨ih1, ih2⟩ := okc_rises n ps p h2
    refine ⟨fun x hx => by simp at hx; omega, fun j hj => ?_⟩
    match j with
    | 0 =>
      cases ps with
      | nil => simp at hj
      | cons q qs => exact ih1 q rfl
    | j + 1 => exact ih2 j (by simpa using hj)

theorem rises_tail {a : Int} {l : List Int} (h : rises (a :: l)) : rises l := fun j hj => h (j + 1) (by simpa using hj)

theorem rises_init {a : Int} {l : List Int} (h : rises (l ++ [a])) : rises l := fun j hj => by
  have := h j (by simp; omega)
  simpa [List.getElem?_append_left (show j < l.length by omega), List.getElem?_append_left (show j + 1 < l.length by omega), List.getD_eq_getElem?_getD] using this

theorem fill_rises {n : Int} {l : List Int} (h : okc n 0 (fill2 n (fill1 l)) = true) : rises l := by
  have h1 := (okc_rises n _ _ h).2
  have h2 : rises (fill1 l) := by
    unfold fill2 at h1
    split at h1
    · exact rises_init h1
    · exact h1
  unfold fill1 at h2
  split at h2
  · exact rises_tail h2
  · exact h2

theorem fill_falls {n : Int} {l : List Int} {j : Nat} {p q : Int} (hj : j + 1 < l.length) (hp : l.getD j 0 = p) (hq : l.getD (j + 1) 0 = q) (h : q ≤ p) : pck n (fill2 n (fill1 l)) = 6 := by
  unfold pck
  rw [if_neg]
  intro hok
  have := fill_rises hok j hj
  omega

def EndedPost (n : Int) (D : Nat) (l : List Int) (w : World) (e : Ending) (w' : World) : Prop :=
  Below D w w' ∧ ∃ x, e = .returned (.tuple #[x, .int .i64 (pck n (fill2 n (fill1 l)))]) ∧ (pck n (fill2 n (fill1 l)) = 0 → w'.ownsRow D 3 1 x (fill2 n (fill1 l)).length ((fill2 n (fill1 l)).map (Value.int .i64)))

end Go.Proofs.YtfngadfkopfhcaaGreatDoor

/- The answer's reader of changes in memory. -/
namespace Go.Proofs.YtfngadfkopfhcaaGreatDoor
open Go.RowKit

/-- A slice's block lies ahead of D. -/
def Lo (D : Nat) (v : Value) : Prop := ∀ b, v.ownBlock = some b → b < D

theorem Lo.nil (D : Nat) : Lo D (.slice none 0 0) := fun _ h => by cases h

theorem own_lo {w w' : World} {base e n D : Nat} {v : Value} {xs : List Value} (h : w.ownsRow base e 1 v n xs) (hl : Lo D v) (hb : Below D w w') : w'.ownsRow base e 1 v n xs := by
  obtain ⟨h1, h2⟩ := h
  refine ⟨h1, ?_⟩
  rcases h2 with h2 | ⟨g, cap, cur, hv, hg, hh, r⟩
  · exact Or.inl h2
  · exact Or.inr ⟨g, cap, cur, hv, hg, by rw [hb.block g (hl g (by rw [hv]; rfl))]; exact hh, r⟩

theorem LL.lo {w w' : World} {base D : Nat} {v : Value} {vs : List Value} {xss : List (List Int)} (h : LL w base v vs xss) (hl : Lo D v) (hi : ∀ u, u ∈ vs → Lo D u) (hb : Below D w w') : LL w' base v vs xss :=
  ⟨own_lo h.row hl hb, h.all.memw (fun u _ _ hu h' => own_lo h' (hi u hu) hb)⟩

structure PA (w : World) (B D : Nat) (rv av bv ov : Value) (L : List Int) (avs bvs : List Value) (al bl : List (List Int)) (op : List Int) : Prop where
  runes : w.ownsRow B 3 1 rv L.length (L.map (Value.int .i64))
  rlo : Lo D rv
  all : LL w B av avs al
  alo : Lo D av
  block : LL w B bv bvs bl
  blo : Lo D bv
  inner : ∀ u, u ∈ avs ++ bvs → Lo D u
  opn : w.ownsRow D 3 1 ov op.length (op.map (Value.int .i64))
  sep : av.ownBlock = none ∨ av.ownBlock ≠ bv.ownBlock
  low : B ≤ D
  high : D ≤ w.heap.size

section
variable {w w' : World} {B D : Nat} {rv av bv ov ov' : Value} {L : List Int} {avs bvs : List Value} {al bl : List (List Int)} {op op' : List Int}

/-- The signs go on. -/
theorem PA.signs (h : PA w B D rv av bv ov L avs bvs al bl op) (hb : Below D w w') (ho : w'.ownsRow D 3 1 ov' op'.length (op'.map (Value.int .i64))) : PA w' B D rv av bv ov' L avs bvs al bl op' :=
  ⟨own_lo h.runes h.rlo hb, h.rlo, h.all.lo h.alo (fun u hu => h.inner u (List.mem_append.2 (Or.inl hu))) hb, h.alo, h.block.lo h.blo (fun u hu => h.inner u (List.mem_append.2 (Or.inr hu))) hb, h.blo, h.inner, ho, h.sep, h.low, Nat.le_trans h.high hb.size⟩

/-- The world goes on. -/
theorem PA.later (h : PA w B D rv av bv ov L avs bvs al bl op) (hb : Below w.heap.size w w') : PA w' B D rv av bv ov L avs bvs al bl op := h.signs (hb.mono h.high) (owns_below h.opn hb (Nat.le_refl _))

/-- No sign is open: all lies behind. -/
theorem PA.fresh (h : PA w B D rv av bv ov L avs bvs al bl op) : PA w B w.heap.size rv av bv (.slice none 0 0) L avs bvs al bl [] := by
  refine ⟨h.runes, fun b hb => (h.runes.lt b hb).2, h.all, fun b hb => (h.all.row.lt b hb).2, h.block, fun b hb => (h.block.row.lt b hb).2, ?_, World.ownsRow_nil _ _ _ _, h.sep, Nat.le_trans h.low h.high, Nat.le_refl _⟩
  intro u hu b hb
  rcases List.mem_append.1 hu with hu | hu
  · exact h.all.lt u hu b hb
  · exact h.block.lt u hu b hb

/-- One more change of the block. -/
theorem PA.push {w5 : World} {v' pv : Value} {ps : List Int} (h : PA w B D rv av bv ov L avs bvs al bl op) (hp : w.ownsRow B 3 1 pv ps.length (ps.map (Value.int .i64)))
    (hown : w5.ownsRow B 30 1 v' (bvs.length + 1) (bvs ++ [pv])) (hg : w.grownBy w5 bv.ownBlock) (hk : v'.ownBlock = bv.ownBlock ∨ (v'.ownBlock = some w.heap.size ∧ w.grownBy w5 none)) :
    PA w5 B w5.heap.size rv av v' (.slice none 0 0) L avs (bvs ++ [pv]) al (bl ++ [ps]) [] ∧ Below B w w5 := by
  have hall : LL w5 B av avs al := h.all.kept_row h.block.row hg h.sep
  have hbl : LL w5 B v' (bvs ++ [pv]) (bl ++ [ps]) := ⟨by rw [List.length_append]; exact hown, OwnAll.snoc (owns_kept_ty hp h.block.row hg) (h.block.all.mono (fun _ _ _ h' => owns_kept_ty h' h.block.row hg))⟩
  have hru := h.runes.kept hg (own_ty_ne h.runes h.block.row (by decide))
  refine ⟨⟨hru, fun b hb => (hru.lt b hb).2, hall, fun b hb => (hall.row.lt b hb).2, hbl, fun b hb => (hbl.row.lt b hb).2, ?_, World.ownsRow_nil _ _ _ _, ?_, ?_, Nat.le_refl _⟩, ?_⟩
  · intro u hu b hb
    rcases List.mem_append.1 hu with hu | hu
    · exact hall.lt u hu b hb
    · exact hbl.lt u hu b hb
  · rcases hk with hk | ⟨hk, _⟩
    · rw [hk]; exact h.sep
    · rw [hk]
      cases hav : av.ownBlock with
      | none => exact Or.inl rfl
      | some b =>
        refine Or.inr (fun e => ?_)
        have h1 := (h.all.row.lt b hav).2
        have h2 : b = w.heap.size := Option.some.inj e
        omega
  · have := h.low; have := h.high; have := hg.size; omega
  · exact (Below.refl B w).grown hg (by have := h.low; have := h.high; omega) (fun g hg' => (h.block.row.lt g hg').1)

/-- More changes behind all. -/
theorem PA.more {w5 : World} {v' : Value} {us : List Value} {xss : List (List Int)} (h : PA w B D rv av bv ov L avs bvs al bl op) (hu : OwnAll w B us xss)
    (hown : w5.ownsRow B 30 1 v' (avs.length + us.length) (avs ++ us)) (hg : w.grownBy w5 av.ownBlock) (hk : v'.ownBlock = av.ownBlock ∨ (v'.ownBlock = some w.heap.size ∧ w.grownBy w5 none)) :
    PA w5 B w5.heap.size rv v' bv (.slice none 0 0) L (avs ++ us) bvs (al ++ xss) bl [] ∧ Below B w w5 := by
  have hne : bv.ownBlock = none ∨ bv.ownBlock ≠ av.ownBlock := by
    rcases h.sep with hs | hs
    · cases hb : bv.ownBlock with
      | none => exact Or.inl rfl
      | some b => exact Or.inr (by rw [hs]; exact fun e => by cases e)
    · exact Or.inr (fun e => hs e.symm)
  have hbl : LL w5 B bv bvs bl := h.block.kept_row h.all.row hg hne
  have hall : LL w5 B v' (avs ++ us) (al ++ xss) := ⟨by rw [List.length_append]; exact hown, OwnAll.join (hu.mono (fun _ _ _ h' => owns_kept_ty h' h.all.row hg)) (h.all.all.mono (fun _ _ _ h' => owns_kept_ty h' h.all.row hg))⟩
  have hru := h.runes.kept hg (own_ty_ne h.runes h.all.row (by decide))
  refine ⟨⟨hru, fun b hb => (hru.lt b hb).2, hall, fun b hb => (hall.row.lt b hb).2, hbl, fun b hb => (hbl.row.lt b hb).2, ?_, World.ownsRow_nil _ _ _ _, ?_, ?_, Nat.le_refl _⟩, ?_⟩
  · intro u hu b hb
    rcases List.mem_append.1 hu with hu | hu
    · exact hall.lt u hu b hb
    · exact hbl.lt u hu b hb
  · rcases hk with hk | ⟨hk, _⟩
    · rw [hk]; exact h.sep
    · rw [hk]
      refine Or.inr (fun e => ?_)
      have := (h.block.row.lt w.heap.size e.symm).2
      omega
  · have := h.low; have := h.high; have := hg.size; omega
  · exact (Below.refl B w).grown hg (by have := h.low; have := h.high; omega) (fun g hg' => (h.all.row.lt g hg').1)

/-- The block's end. -/
theorem PA.shut (h : PA w B D rv av bv ov L avs bvs al bl op) : PA w B D rv av (.slice none 0 0) ov L avs [] al [] op := by
  refine ⟨h.runes, h.rlo, h.all, h.alo, LL.nil _ _, Lo.nil _, ?_, h.opn, ?_, h.low, h.high⟩
  · intro u hu
    exact h.inner u (List.mem_append.2 (Or.inl (by simpa using hu)))
  · cases hb : av.ownBlock with
    | none => exact Or.inl rfl
    | some b => exact Or.inr (fun e => by cases e)

end

/-- The loop's relation: k runes are read. -/
def PInv (n : Int) (cs : List Nat) (L : List Int) (w wr : World) (rv av bv ov : Value) (k : Nat) (st : RS) : Prop :=
  PR n cs k st ∧ (k ≤ cs.length → RS.Fine k st) ∧ (st.opn = [] → ov = .slice none 0 0) ∧ Below w.heap.size w wr ∧ ∃ D avs bvs, PA wr w.heap.size D rv av bv ov L avs bvs st.all st.block st.opn

end Go.Proofs.YtfngadfkopfhcaaGreatDoor

/- Contracts: the closure that catches what a reader throws. -/
namespace Go.Proofs.YtfngadfkopfhcaaGreatDoor
open Go.RowKit
set_option maxRecDepth 20000

set_option maxHeartbeats 2000000 in
theorem catch_panicking (p q : Addr) (x y : Value) (k : Int) (older : List PanicEntry) (w : World) (hp : w.cell? p = some x) (hfp : w.frozen? p = false) (hq : w.cell? q = some y) (hfq : w.frozen? q = false) (hpq : p ≠ q) :
    CallsD Tryz.prog 78 #[.pointer (some p), .pointer (some q)] (.panicking ({ v := .iface 102 (.int .i64 k), recovered := false } :: older)) w fun e u' w' =>
      e = .returned (.tuple #[]) ∧ u' = .panicking ({ v := .iface 102 (.int .i64 k), recovered := true } :: older) ∧ w' = (w.setCell p (.slice none 0 0)).setCell q (.int .i64 k) := by
  have hq2 : (w.setCell p (.slice none 0 0)).cell? q = some y := by rw [World.cell?_setCell_other _ _ _ _ hpq]; exact hq
  have hta : ∀ w : World, (Instr.typeAssert (.iface 102 (.int .i64 k)) 20 102 true).run Tryz.prog w = .ok (.tuple #[.int .i64 k, .bool true]) w := fun w => by kernel_rfl
  refine callsD_of_wpS Tryz.func78 rfl fun c₀ cs hu => ?_
  apply wpS_seq
  apply wpS_region
  simp [wpOpsS, go_sem, recoverD, hu, hta, Tryz.ntmps78, Exit.thenS]
  apply wpS_seq
  apply wpS_region
  simp [wpOpsS, go_sem, Exit.thenS]
  refine wpS_cond (t := true) (by simp [Act.eval, Array.replicate]) ?_
  simp only [if_true]
  apply wpS_region
  simp [wpOpsS, go_sem, hp, hfp, hq2, hfq, bodyPostS, results, Tryz.results78]

set_option maxHeartbeats 2000000 in
theorem catch_idle (p q : Addr) (w : World) :
    CallsD Tryz.prog 78 #[.pointer (some p), .pointer (some q)] .returning w fun e u' w' => e = .returned (.tuple #[]) ∧ u' = .returning ∧ w' = w := by
  have hta : ∀ w : World, (Instr.typeAssert .nilIface 20 102 true).run Tryz.prog w = .ok (.tuple #[.int .i64 0, .bool false]) w := fun w => by kernel_rfl
  refine callsD_of_wpS Tryz.func78 rfl fun c₀ cs hu => ?_
  apply wpS_seq
  apply wpS_region
  simp [wpOpsS, go_sem, recoverD, hu, hta, Tryz.ntmps78, Exit.thenS]
  apply wpS_seq
  apply wpS_region
  simp [wpOpsS, go_sem, Exit.thenS]
  refine wpS_cond (t := false) (by simp [Act.eval, Array.replicate]) ?_
  simp only [Bool.false_eq_true, if_false]
  refine wpS_of_wp (wp_skip ?_)
  cases c₀
  simp_all [bodyPostS, results, Tryz.results78]

end Go.Proofs.YtfngadfkopfhcaaGreatDoor

/- Runes as they are decoded; rows of the call's own beside an iterator. -/
namespace Go.Proofs.YtfngadfkopfhcaaGreatDoor
open Go.RowKit Go.Lib
set_option maxRecDepth 20000

theorem decode_ok (s : ByteArray) (pos : Nat) : (Utf8.decode s pos).1 < 55296 ∨ 57343 < (Utf8.decode s pos).1 := by
  rw [decode_at]
  have h0 : (s.get! pos).toNat < 256 := UInt8.toNat_lt _
  unfold decodeN
  repeat' split
  all_goals simp only
  all_goals omega

theorem owns_iter {w : World} {base e n b : Nat} {v : Value} {xs : List Value} {s : ByteArray} {p : Nat} (h : w.ownsRow base e 1 v n xs) (hb : w.heap[b]? = some (.stringIter s p)) (s' : ByteArray) (pos : Nat) : (w.iterAt b s' pos).ownsRow base e 1 v n xs := by
  refine ⟨h.1, ?_⟩
  rcases h.2 with h2 | ⟨g, cap, cur, rfl, hg, hh, r⟩
  · exact Or.inl h2
  · refine Or.inr ⟨g, cap, cur, rfl, hg, ?_, r⟩
    rw [iterAt_other _ _ _ _ _ (fun e => by subst e; rw [hb] at hh; cases hh)]
    exact hh

end Go.Proofs.YtfngadfkopfhcaaGreatDoor

/- Contract: place.Parse, where the count may be and the text is not too long. -/
namespace Go.Proofs.YtfngadfkopfhcaaGreatDoor
open Go.RowKit Go.Lib
set_option maxRecDepth 20000

theorem Rd.iter {w : World} {R b : Nat} {n : Int} {st : RS} {s : ByteArray} {p : Nat} (h : Rd w R n st) (hb : w.heap[b]? = some (.stringIter s p)) (s' : ByteArray) (pos : Nat) : Rd (w.iterAt b s' pos) R n st := by
  obtain ⟨D, av, bv, ov, avs, bvs, h⟩ := h
  refine ⟨D, av, bv, ov, avs, bvs, ?_, ⟨owns_iter h.all.row hb _ _, h.all.all.mono (fun _ _ _ h' => owns_iter h' hb _ _)⟩, ⟨owns_iter h.block.row hb _ _, h.block.all.mono (fun _ _ _ h' => owns_iter h' hb _ _)⟩, owns_iter h.opn hb _ _, h.inner, h.sep, h.low, by rw [iterAt_size]; exact h.high, h.nilo⟩
  rw [iterAt_other _ _ _ _ _ (fun e => by subst e; have := h.blk; rw [hb] at this; cases this)]
  exact h.blk

theorem Rd.lt {w : World} {R : Nat} {n : Int} {st : RS} (h : Rd w R n st) : R < w.heap.size := by obtain ⟨_, _, _, _, _, _, h'⟩ := h; exact h'.lt

/-- What Parse answers. -/
def ParsePost (n : Int) (s : ByteArray) (w : World) (e : Ending) (w' : World) : Prop :=
  Below w.heap.size w w' ∧ ∃ v, e = .returned (.tuple #[v, .int .i64 (RS.parse n si (runesOf s)).1]) ∧ IntsAll w' v (RS.parse n si (runesOf s)).2

/-- .. and that it owns the changes. -/
def ParseOwn (n : Int) (s : ByteArray) (w : World) (e : Ending) (w' : World) : Prop :=
  Below w.heap.size w w' ∧ ∃ v vs, e = .returned (.tuple #[v, .int .i64 (RS.parse n si (runesOf s)).1]) ∧ LL w' w.heap.size v vs (RS.parse n si (runesOf s)).2

theorem ParseOwn.post {n : Int} {s : ByteArray} {w w' : World} {e : Ending} (h : ParseOwn n s w e w') : ParsePost n s w e w' := by
  obtain ⟨h1, v, vs, h2, h3⟩ := h
  exact ⟨h1, v, h2, h3.ints⟩

/-- What the loop of Parse knows. -/
structure PrsRel (W0 wr : World) (R : Nat) (n : Int) (s : ByteArray) (pre : List Nat) (pos : Nat) (st : RS) : Prop where
  iter : wr.heap[R + 1]? = some (.stringIter s pos)
  upt : RunesTo s pre pos
  rd : Rd wr R n st
  run : RS.run n si RS.new pre = (0, st)
  fine : RS.Fine pre.length st
  below : Below R W0 wr

set_option maxHeartbeats 8000000 in
theorem parse_own (n : Int) (s : ByteArray) (w : World) (hn1 : 1 ≤ n) (hn2 : n ≤ 12) (hs : s.size ≤ 4000) :
    Calls Tryz.prog 68 #[.int .i64 n, .string s] w fun e w' => ParseOwn n s w e w' := by
  have hmf : ∀ (fn : Fn) (first cap : Array Value) (w : World), (Instr.makeFunc fn first cap).run Tryz.prog w = .ok (.func fn first cap) w := fun _ _ _ _ => rfl
  go_enter_defers Tryz.func68, Tryz.ntmps68
  go_wp2_with fail
  refine (pmay_yes _ _ hn1 hn2).mono ?_
  rintro e w' ⟨rfl, rfl⟩
  go_wp2_with fail
  generalize hR : w.heap.size + 1 + 1 = R
  have hA : (((w.alloc (.cells #[.slice none 0 0] 22)).alloc (.cells #[.int .i64 0] 26)).alloc (.cells #[.int .i64 n, .slice none 0 0, .slice none 0 0, .bool false, .bool false, .slice none 0 0, .bool false] 105)).heap.size = R + 1 := by simp; omega
  have hRR : (((w.alloc (.cells #[.slice none 0 0] 22)).alloc (.cells #[.int .i64 0] 26)).alloc (.cells #[.int .i64 n, .slice none 0 0, .slice none 0 0, .bool false, .bool false, .slice none 0 0, .bool false] 105)).heap[R]? = some (.cells #[.int .i64 n, .slice none 0 0, .slice none 0 0, .bool false, .bool false, .slice none 0 0, .bool false] 105) := by
    have h9 := heap_alloc_new ((w.alloc (.cells #[.slice none 0 0] 22)).alloc (.cells #[.int .i64 0] 26)) (.cells #[.int .i64 n, .slice none 0 0, .slice none 0 0, .bool false, .bool false, .slice none 0 0, .bool false] 105)
    rwa [show ((w.alloc (.cells #[.slice none 0 0] 22)).alloc (.cells #[.int .i64 0] 26)).heap.size = R from by simp; omega] at h9
  have hc1 : (((w.alloc (.cells #[.slice none 0 0] 22)).alloc (.cells #[.int .i64 0] 26)).alloc (.cells #[.int .i64 n, .slice none 0 0, .slice none 0 0, .bool false, .bool false, .slice none 0 0, .bool false] 105)).heap[w.heap.size]? = some (.cells #[.slice none 0 0] 22) := by
    rw [Below.heap_alloc _ _ _ (by simp; omega), Below.heap_alloc _ _ _ (by simp)]
    exact heap_alloc_new w _
  have hc2 : (((w.alloc (.cells #[.slice none 0 0] 22)).alloc (.cells #[.int .i64 0] 26)).alloc (.cells #[.int .i64 n, .slice none 0 0, .slice none 0 0, .bool false, .bool false, .slice none 0 0, .bool false] 105)).heap[w.heap.size + 1]? = some (.cells #[.int .i64 0] 26) := by
    rw [Below.heap_alloc _ _ _ (by simp)]
    have h9 := heap_alloc_new (w.alloc (.cells #[.slice none 0 0] 22)) (.cells #[.int .i64 0] 26)
    rwa [show (w.alloc (.cells #[.slice none 0 0] 22)).heap.size = w.heap.size + 1 from by simp] at h9
  have hBw : Below w.heap.size w (((w.alloc (.cells #[.slice none 0 0] 22)).alloc (.cells #[.int .i64 0] 26)).alloc (.cells #[.int .i64 n, .slice none 0 0, .slice none 0 0, .bool false, .bool false, .slice none 0 0, .bool false] 105)) := (((Below.refl _ _).alloc (Nat.le_refl _) _).alloc (by simp) _).alloc (by simp; omega) _
  have hRw : w.heap.size + 2 = R := by omega
  clear hR
  generalize (((w.alloc (.cells #[.slice none 0 0] 22)).alloc (.cells #[.int .i64 0] 26)).alloc (.cells #[.int .i64 n, .slice none 0 0, .slice none 0 0, .bool false, .bool false, .slice none 0 0, .bool false] 105)) = W3 at *
  have hBi : Below W3.heap.size W3 (W3.iter s 0) := below_iter W3 s 0
  have hiw : (W3.iter s 0).heap[R + 1]? = some (.stringIter s 0) := by have h9 := World.iter_heap W3 s 0; rwa [hA] at h9
  have hi1 := (hBi.block w.heap.size (by omega)).trans hc1
  have hi2 := (hBi.block (w.heap.size + 1) (by omega)).trans hc2
  have hiR := (hBi.block R (by omega)).trans hRR
  have hBw2 : Below w.heap.size w (W3.iter s 0) := hBw.trans (hBi.mono (by omega))
  have hsz : (W3.iter s 0).heap.size = R + 2 := by have h9 : (W3.iter s 0).heap.size = W3.heap.size + 1 := by simp [World.iter]
                                                   omega
  generalize W3.iter s 0 = W0 at *
  clear hBi hc1 hc2 hRR hBw hA
  have HR0 : Hid (PrsRel W0 W0 R n s [] 0 RS.new) := ⟨hiw, runesTo_start s, ⟨R + 1, .slice none 0 0, .slice none 0 0, .slice none 0 0, [], [], hiR, LL.nil _ _, LL.nil _ _, World.ownsRow_nil _ _ _ _, (fun u hu => by cases hu), Or.inl rfl, Nat.le_refl _, by omega, fun _ => rfl⟩, rfl, RS.Fine.new, Below.refl _ _⟩
  clear hiw hiR hsz
  go_loopw [8] (fun _ wr => ∃ (pos : Nat) (pre : List Nat) (st : RS), Hid (PrsRel W0 wr R n s pre pos st)) (fun _ wr => s.size - wr.iterPos (R + 1))
  case atStart => exact ⟨0, [], RS.new, HR0⟩
  case round =>
    obtain ⟨pos, pre, st, hP⟩ := hrel
    clear HR0
    have hP' := hP.out
    have HI := hide (iterPos_of hP'.iter)
    by_cases hp : pos < s.size
    · have hnx : ∀ ty, (Instr.next (.pointer (some ⟨R + 1, 0, none⟩)) true ty).run Tryz.prog wr = .ok (.tuple #[.bool true, .int .i64 (pos : Int), .int .i32 (((Utf8.decode s pos).1 : Nat) : Int)]) (wr.iterAt (R + 1) s (pos + (Utf8.decode s pos).2)) := by
        intro ty
        exact run_next_any_at wr (R + 1) s pos ty hP'.iter hp
      have hmem := hP'.upt.mem hp
      have HTA := hide (take_any R n pre.length (Utf8.decode s pos).1 st (wr.iterAt (R + 1) s (pos + (Utf8.decode s pos).2)) (hP'.rd.iter hP'.iter _ _) hP'.fine (by omega) hn1 hn2 (decode_ok s pos) (decode_le s pos))
      have HIt := hide (iterAt_heap wr (R + 1) s pos (pos + (Utf8.decode s pos).2) hP'.iter)
      have HTo := hide (hP'.upt.next hp)
      have HBi : Hid (Below R W0 (wr.iterAt (R + 1) s (pos + (Utf8.decode s pos).2))) := below_iterAt hP'.below (by omega) s _
      have HW := hide (decode_width_pos s pos hp)
      have HRu := hide (fun h0 => (RS.run_snoc n si pre RS.new (Utf8.decode s pos).1 h0))
      have HR1 := hide hP'.run
      have HFi := hide hP'.fine
      clear hmem hP hP'
      generalize (Utf8.decode s pos).1 = c at *
      generalize (Utf8.decode s pos).2 = nw at *
      go_wp2_with fail
      refine HTA.out.mono ?_
      rintro e w2 hgo
      have hB2 := HBi.out.trans hgo.1.below
      have hit2 := hgo.1.iters _ _ _ HIt.out
      have hru : RS.run n si RS.new (pre ++ [c]) = st.take n c (si c) := by rw [HRu.out (by rw [HR1.out]), HR1.out]
      rcases hgo.2 with ⟨h0, he, hR2⟩ | ⟨h0, he⟩
      · subst he
        have HP2 : Hid (PrsRel W0 w2 R n s (pre ++ [c]) (pos + nw) (st.take n c (si c)).2) := ⟨hit2, HTo.out, hR2, by rw [hru, ← h0], by rw [List.length_append]; exact HFi.out.take h0, hB2⟩
        have hit := hide hit2
        clear hgo hR2 hB2 hit2 hru HTA HIt HTo HBi HRu HR1 HFi
        go_wp2
        go_roundw
        case rel => exact ⟨pos + nw, pre ++ [c], _, HP2⟩
        case measure => rw [HI.out, iterPos_of hit.out]; have := HW.out; omega
      · subst he
        have HPA : Hid (RS.parse n si (runesOf s) = ((st.take n c (si c)).1, [])) := by
          obtain ⟨f, _, e⟩ := HTo.out
          have hb : RS.run n si RS.new (runesOf s) = st.take n c (si c) := by rw [e, RS.run_bad n si _ _ _ (by rw [hru]; exact h0), hru]
          show _ = _
          unfold RS.parse
          rw [hb, if_neg h0]
        clear hgo hit2 hru HTA HIt HTo HBi HRu HR1 HFi h0
        have hk1 := (hB2.block w.heap.size (by omega)).trans hi1
        have hk2 := (hB2.block (w.heap.size + 1) (by omega)).trans hi2
        generalize (st.take n c (si c)).1 = code at *
        have hx1 : w2.cell? ⟨w.heap.size, 0, none⟩ = some (.slice none 0 0) := by simp [World.cell?, hk1]
        have hx2 : w2.cell? ⟨w.heap.size + 1, 0, none⟩ = some (.int .i64 0) := by simp [World.cell?, hk2]
        have hne : (⟨w.heap.size, 0, none⟩ : Addr) ≠ ⟨w.heap.size + 1, 0, none⟩ := by intro e; simp only [Addr.mk.injEq] at e; omega
        have hy1 : ((w2.setCell ⟨w.heap.size, 0, none⟩ (.slice none 0 0)).setCell ⟨w.heap.size + 1, 0, none⟩ (.int .i64 code)).cell? ⟨w.heap.size, 0, none⟩ = some (.slice none 0 0) := by
          rw [World.cell?_setCell_other _ _ _ _ (fun e => hne e.symm), World.cell?_setCell_same _ _ _ hx1]
        have hy2 : ((w2.setCell ⟨w.heap.size, 0, none⟩ (.slice none 0 0)).setCell ⟨w.heap.size + 1, 0, none⟩ (.int .i64 code)).cell? ⟨w.heap.size + 1, 0, none⟩ = some (.int .i64 code) := by
          rw [World.cell?_setCell_same _ _ _ (by rw [World.cell?_setCell_other _ _ _ _ hne]; exact hx2)]
        have hBf : Below w.heap.size w ((w2.setCell ⟨w.heap.size, 0, none⟩ (.slice none 0 0)).setCell ⟨w.heap.size + 1, 0, none⟩ (.int .i64 code)) := ((hBw2.trans (hB2.mono (by omega))).setCell (p := ⟨w.heap.size, 0, none⟩) (Nat.le_refl _) _).setCell (p := ⟨w.heap.size + 1, 0, none⟩) (Nat.le_succ _) _
        unfold thrown
        go_wp2
        refine leaves_cons (f := 78) (args := #[.pointer (some ⟨w.heap.size, 0, none⟩), .pointer (some ⟨w.heap.size + 1, 0, none⟩)]) (by simp) (by simp [go_sem]) ?_
        refine (catch_panicking ⟨w.heap.size, 0, none⟩ ⟨w.heap.size + 1, 0, none⟩ (.slice none 0 0) (.int .i64 0) code [] w2 hx1 (by simp [World.frozen?, hk1]) hx2 (by simp [World.frozen?, hk2]) hne).mono ?_
        rintro e u' w'' ⟨rfl, rfl, rfl⟩
        have HF : Hid (ParseOwn n s w (.returned (.tuple #[.slice none 0 0, .int .i64 code])) ((w2.setCell ⟨w.heap.size, 0, none⟩ (.slice none 0 0)).setCell ⟨w.heap.size + 1, 0, none⟩ (.int .i64 code))) := by
          refine ⟨hBf, _, [], by rw [HPA.out], ?_⟩
          rw [HPA.out]
          exact LL.nil _ _
        simp [Leaves, settle, results, Tryz.results68, go_sem, hy1, hy2]
        exact HF.out
    · have hnx := fun ty => run_next_end_at (P := Tryz.prog) wr (R + 1) s pos ty hP'.iter hp
      have HE := hide (hP'.upt.done hp)
      have hrun : RS.run n si RS.new (runesOf s) = (0, st) := by rw [HE.out]; exact hP'.run
      have hkl : pre.length ≤ 4000 := by have := runesOf_length s; rw [HE.out] at this; omega
      have HEA := hide (end_any R n pre.length st wr hP'.rd hP'.fine (by omega) hn1 hn2)
      have HBr := hide hP'.below
      have HRun := hide hrun
      clear hP hP' hrun hkl
      go_wp2_with fail
      refine HEA.out.mono ?_
      rintro e w2 hgo
      have hB2 := HBr.out.trans hgo.1.below
      have hk1 := (hB2.block w.heap.size (by omega)).trans hi1
      have hk2 := (hB2.block (w.heap.size + 1) (by omega)).trans hi2
      rcases hgo.2 with ⟨h0, he, hR2⟩ | ⟨h0, he⟩
      · subst he
        have HPA : Hid (RS.parse n si (runesOf s) = (0, (st.fin n).2.all)) := by
          show _ = _
          unfold RS.parse
          rw [HRun.out, if_pos rfl, if_pos h0]
        generalize (st.fin n).2 = st2 at *
        obtain ⟨D, av, bv, ov, avs, bvs, hR⟩ := hR2
        have c1 := (cells7 hR.blk).2.1
        have hx1 : w2.cell? ⟨w.heap.size, 0, none⟩ = some (.slice none 0 0) := by simp [World.cell?, hk1]
        have hx2 : w2.cell? ⟨w.heap.size + 1, 0, none⟩ = some (.int .i64 0) := by simp [World.cell?, hk2]
        have hz1 : w2.frozen? ⟨w.heap.size, 0, none⟩ = false := by simp [World.frozen?, hk1]
        have hz2 : w2.frozen? ⟨w.heap.size + 1, 0, none⟩ = false := by simp [World.frozen?, hk2]
        obtain ⟨ap, ac, hae⟩ := owns_slice hR.all.row
        rw [hae] at c1
        have hne : (⟨w.heap.size, 0, none⟩ : Addr) ≠ ⟨w.heap.size + 1, 0, none⟩ := by intro e; simp only [Addr.mk.injEq] at e; omega
        have hx3 : (w2.setCell ⟨w.heap.size, 0, none⟩ (.slice ap avs.length ac)).cell? ⟨w.heap.size + 1, 0, none⟩ = some (.int .i64 0) := by rw [World.cell?_setCell_other _ _ _ _ hne]; exact hx2
        have hy1 : ((w2.setCell ⟨w.heap.size, 0, none⟩ (.slice ap avs.length ac)).setCell ⟨w.heap.size + 1, 0, none⟩ (.int .i64 0)).cell? ⟨w.heap.size, 0, none⟩ = some (.slice ap avs.length ac) := by
          rw [World.cell?_setCell_other _ _ _ _ (fun e => hne e.symm), World.cell?_setCell_same _ _ _ hx1]
        have hy2 : ((w2.setCell ⟨w.heap.size, 0, none⟩ (.slice ap avs.length ac)).setCell ⟨w.heap.size + 1, 0, none⟩ (.int .i64 0)).cell? ⟨w.heap.size + 1, 0, none⟩ = some (.int .i64 0) := by
          rw [World.cell?_setCell_same _ _ _ hx3]
        have hBf : Below w.heap.size w ((w2.setCell ⟨w.heap.size, 0, none⟩ (.slice ap avs.length ac)).setCell ⟨w.heap.size + 1, 0, none⟩ (.int .i64 0)) := ((hBw2.trans (hB2.mono (by omega))).setCell (p := ⟨w.heap.size, 0, none⟩) (Nat.le_refl _) _).setCell (p := ⟨w.heap.size + 1, 0, none⟩) (Nat.le_succ _) _
        have hL : LL ((w2.setCell ⟨w.heap.size, 0, none⟩ (.slice ap avs.length ac)).setCell ⟨w.heap.size + 1, 0, none⟩ (.int .i64 0)) (R + 1) (.slice ap avs.length ac) avs st2.all := by
          have h9 := hR.all
          rw [hae] at h9
          exact ⟨ownsRow_setCell_below (ownsRow_setCell_below h9.row (by show w.heap.size < R + 1; omega) _) (by show w.heap.size + 1 < R + 1; omega) _, h9.all.mono (fun _ _ _ h' => ownsRow_setCell_below (ownsRow_setCell_below h' (by show w.heap.size < R + 1; omega) _) (by show w.heap.size + 1 < R + 1; omega) _)⟩
        have HF : Hid (ParseOwn n s w (.returned (.tuple #[.slice ap avs.length ac, .int .i64 0])) ((w2.setCell ⟨w.heap.size, 0, none⟩ (.slice ap avs.length ac)).setCell ⟨w.heap.size + 1, 0, none⟩ (.int .i64 0))) := by
          refine ⟨hBf, _, avs, by rw [HPA.out], ?_⟩
          rw [HPA.out]
          exact hL.low (by omega)
        clear hgo hR hL hae hBf hk1 hk2 HEA HBr hB2
        go_wp2
        refine leaves_cons (f := 78) (args := #[.pointer (some ⟨w.heap.size, 0, none⟩), .pointer (some ⟨w.heap.size + 1, 0, none⟩)]) (by simp) (by simp [go_sem]) ?_
        refine (catch_idle ⟨w.heap.size, 0, none⟩ ⟨w.heap.size + 1, 0, none⟩ _).mono ?_
        rintro e u' w'' ⟨rfl, rfl, rfl⟩
        simp [Leaves, settle, results, Tryz.results68, go_sem, hy1, hy2]
        exact HF.out
      · subst he
        have HPA : Hid (RS.parse n si (runesOf s) = ((st.fin n).1, [])) := by
          show _ = _
          unfold RS.parse
          rw [HRun.out, if_pos rfl, if_neg h0]
        clear hgo HEA HBr h0
        generalize (st.fin n).1 = code at *
        have hx1 : w2.cell? ⟨w.heap.size, 0, none⟩ = some (.slice none 0 0) := by simp [World.cell?, hk1]
        have hx2 : w2.cell? ⟨w.heap.size + 1, 0, none⟩ = some (.int .i64 0) := by simp [World.cell?, hk2]
        have hne : (⟨w.heap.size, 0, none⟩ : Addr) ≠ ⟨w.heap.size + 1, 0, none⟩ := by intro e; simp only [Addr.mk.injEq] at e; omega
        have hy1 : ((w2.setCell ⟨w.heap.size, 0, none⟩ (.slice none 0 0)).setCell ⟨w.heap.size + 1, 0, none⟩ (.int .i64 code)).cell? ⟨w.heap.size, 0, none⟩ = some (.slice none 0 0) := by
          rw [World.cell?_setCell_other _ _ _ _ (fun e => hne e.symm), World.cell?_setCell_same _ _ _ hx1]
        have hy2 : ((w2.setCell ⟨w.heap.size, 0, none⟩ (.slice none 0 0)).setCell ⟨w.heap.size + 1, 0, none⟩ (.int .i64 code)).cell? ⟨w.heap.size + 1, 0, none⟩ = some (.int .i64 code) := by
          rw [World.cell?_setCell_same _ _ _ (by rw [World.cell?_setCell_other _ _ _ _ hne]; exact hx2)]
        have hBf : Below w.heap.size w ((w2.setCell ⟨w.heap.size, 0, none⟩ (.slice none 0 0)).setCell ⟨w.heap.size + 1, 0, none⟩ (.int .i64 code)) := ((hBw2.trans (hB2.mono (by omega))).setCell (p := ⟨w.heap.size, 0, none⟩) (Nat.le_refl _) _).setCell (p := ⟨w.heap.size + 1, 0, none⟩) (Nat.le_succ _) _
        unfold thrown
        go_wp2
        refine leaves_cons (f := 78) (args := #[.pointer (some ⟨w.heap.size, 0, none⟩), .pointer (some ⟨w.heap.size + 1, 0, none⟩)]) (by simp) (by simp [go_sem]) ?_
        refine (catch_panicking ⟨w.heap.size, 0, none⟩ ⟨w.heap.size + 1, 0, none⟩ (.slice none 0 0) (.int .i64 0) code [] w2 hx1 (by simp [World.frozen?, hk1]) hx2 (by simp [World.frozen?, hk2]) hne).mono ?_
        rintro e u' w'' ⟨rfl, rfl, rfl⟩
        have HF : Hid (ParseOwn n s w (.returned (.tuple #[.slice none 0 0, .int .i64 code])) ((w2.setCell ⟨w.heap.size, 0, none⟩ (.slice none 0 0)).setCell ⟨w.heap.size + 1, 0, none⟩ (.int .i64 code))) := by
          refine ⟨hBf, _, [], by rw [HPA.out], ?_⟩
          rw [HPA.out]
          exact LL.nil _ _
        simp [Leaves, settle, results, Tryz.results68, go_sem, hy1, hy2]
        exact HF.out

theorem parse_ok (n : Int) (s : ByteArray) (w : World) (hn1 : 1 ≤ n) (hn2 : n ≤ 12) (hs : s.size ≤ 4000) :
    Calls Tryz.prog 68 #[.int .i64 n, .string s] w fun e w' => ParsePost n s w e w' := (parse_own n s w hn1 hn2 hs).mono fun _ _ h => h.post

end Go.Proofs.YtfngadfkopfhcaaGreatDoor

/- Contract: place.Parse, where it refuses at once. -/
namespace Go.Proofs.YtfngadfkopfhcaaGreatDoor
open Go.RowKit Go.Lib
set_option maxRecDepth 20000

theorem two_cells (w : World) (x y : Value) (a b : TypeId) : ((w.alloc (.cells #[x] a)).alloc (.cells #[y] b)).heap[w.heap.size]? = some (.cells #[x] a) ∧ ((w.alloc (.cells #[x] a)).alloc (.cells #[y] b)).heap[w.heap.size + 1]? = some (.cells #[y] b) := by
  constructor
  · rw [Below.heap_alloc _ _ _ (by simp)]
    exact heap_alloc_new w _
  · have h9 := heap_alloc_new (w.alloc (.cells #[x] a)) (.cells #[y] b)
    rwa [show (w.alloc (.cells #[x] a)).heap.size = w.heap.size + 1 from by simp] at h9

theorem cell_of {w : World} {b : Nat} {x : Value} {t : TypeId} (h : w.heap[b]? = some (.cells #[x] t)) : w.cell? ⟨b, 0, none⟩ = some x := by simp [World.cell?, h]

set_option maxHeartbeats 4000000 in
theorem parse_count (n : Int) (s : ByteArray) (w : World) (hn : n < 1 ∨ 12 < n) :
    Calls Tryz.prog 68 #[.int .i64 n, .string s] w fun e w' => e = .returned (.tuple #[.slice none 0 0, .int .i64 1]) ∧ Below w.heap.size w w' := by
  go_enter_defers Tryz.func68, Tryz.ntmps68
  go_wp2_with fail
  refine (pmay_no _ _ hn).mono ?_
  rintro e w' ⟨rfl, rfl⟩
  have hB : Below w.heap.size w ((w.alloc (.cells #[.slice none 0 0] 22)).alloc (.cells #[.int .i64 1] 26)) := ((Below.refl _ _).alloc (Nat.le_refl _) _).alloc (by simp) _
  have hk := two_cells w (.slice none 0 0) (.int .i64 1) 22 26
  have hx1 : ((w.alloc (.cells #[.slice none 0 0] 22)).alloc (.cells #[.int .i64 1] 26)).cell? ⟨w.heap.size, 0, none⟩ = some (.slice none 0 0) := cell_of hk.1
  have hx2 : ((w.alloc (.cells #[.slice none 0 0] 22)).alloc (.cells #[.int .i64 1] 26)).cell? ⟨w.heap.size + 1, 0, none⟩ = some (.int .i64 1) := cell_of hk.2
  clear hk
  go_wp2
  simp [bodyPostD, Leaves, results, Tryz.results68, go_sem, hx1, hx2, hB]

set_option maxHeartbeats 4000000 in
theorem parse_long (n : Int) (s : ByteArray) (w : World) (hn1 : 1 ≤ n) (hn2 : n ≤ 12) (hs : 4000 < s.size) (hm : s.size ≤ 9223372036854775807) :
    Calls Tryz.prog 68 #[.int .i64 n, .string s] w fun e w' => e = .returned (.tuple #[.slice none 0 0, .int .i64 3]) ∧ Below w.heap.size w w' := by
  go_enter_defers Tryz.func68, Tryz.ntmps68
  go_wp2_with fail
  refine (pmay_yes _ _ hn1 hn2).mono ?_
  rintro e w' ⟨rfl, rfl⟩
  have hB : Below w.heap.size w ((w.alloc (.cells #[.slice none 0 0] 22)).alloc (.cells #[.int .i64 3] 26)) := ((Below.refl _ _).alloc (Nat.le_refl _) _).alloc (by simp) _
  have hk := two_cells w (.slice none 0 0) (.int .i64 3) 22 26
  have hx1 : ((w.alloc (.cells #[.slice none 0 0] 22)).alloc (.cells #[.int .i64 3] 26)).cell? ⟨w.heap.size, 0, none⟩ = some (.slice none 0 0) := cell_of hk.1
  have hx2 : ((w.alloc (.cells #[.slice none 0 0] 22)).alloc (.cells #[.int .i64 3] 26)).cell? ⟨w.heap.size + 1, 0, none⟩ = some (.int .i64 3) := cell_of hk.2
  clear hk
  go_wp2
  simp [bodyPostD, Leaves, results, Tryz.results68, go_sem, hx1, hx2, hB]

end Go.Proofs.YtfngadfkopfhcaaGreatDoor
