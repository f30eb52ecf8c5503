/- Contracts: (*reader).take of any rune, (*reader).end. -/
import Derived.Test.YtgglbafcocbhbaaRd7
namespace Go.Proofs.Ytgglbafcocbhbaa
open Go.RowKit

theorem take_any (R : Nat) (n : Int) (k c : Nat) (st : RS) (w : World) (h : Rd w R n st) (hf : RS.Fine k st) (hk : k ≤ 5000) (hn1 : 1 ≤ n) (hn2 : n ≤ 12) (h2 : c < 55296 ∨ 57343 < c) (h3 : c ≤ 1114111) :
    Calls Try.prog 51 #[.pointer (some ⟨R, 0, none⟩), .int .i32 c] w fun e w' => Goes w R n (st.take n c (si c)) e w' := by
  by_cases hs : 0 ≤ si c
  · exact take_sign R n k c st w h hf hk h2 h3 hs
  · have hm : si c = -1 := by have := si_range c; omega
    rw [hm]
    by_cases e1 : c = 120
    · subst e1; exact take_x R n k st w h hf hk hn1 hn2
    by_cases e2 : c = 88
    · subst e2; exact take_X R n k st w h hf hk hn1 hn2
    by_cases e3 : c = 45
    · subst e3; exact take_dash R n k st w h hf hk hn1 hn2
    by_cases e4 : c = 215
    · subst e4; exact take_cross R n k st w h hf hk hn1 hn2
    by_cases e5 : c = 46
    · subst e5; exact take_dot R n k st w h hf hk hn1 hn2
    by_cases e6 : c = 44
    · subst e6; exact take_comma R n k st w h hf hk hn1 hn2
    by_cases e7 : c = 38
    · subst e7; exact take_and R n k st w h hf hk hn1 hn2
    by_cases e8 : c = 43
    · subst e8; exact take_plus R n k st w h hf hk hn1 hn2
    exact take_none R n k c st w h hf hk hn1 hn2 h2 h3 hm ⟨e1, e2, e3, e4, e5, e6, e7, e8⟩

set_option maxRecDepth 20000 in
set_option maxHeartbeats 4000000 in
theorem end_any (R : Nat) (n : Int) (k : Nat) (st : RS) (w : World) (h : Rd w R n st) (hf : RS.Fine k st) (hk : k ≤ 5000) (hn1 : 1 ≤ n) (hn2 : n ≤ 12) :
    Calls Try.prog 52 #[.pointer (some ⟨R, 0, none⟩)] w fun e w' => Goes w R n (st.fin n) e w' := by
  have HTk : Hid ((st.endSigns n).1 = 0 → st.fin n = if (st.endSigns n).2.needs = true then (5, (st.endSigns n).2) else (st.endSigns n).2.endBlock) := fun h0 => by unfold RS.fin; rw [if_pos h0]
  have HTb : Hid ((st.endSigns n).1 ≠ 0 → st.fin n = st.endSigns n) := fun h0 => by unfold RS.fin; rw [if_neg h0]
  have HF1 : Hid ((st.endSigns n).1 = 0 → RS.Fine k (st.endSigns n).2 ∧ (st.endSigns n).2.opn = []) := fun h0 => hf.endSigns h0
  have HES := hide (endSigns_any R n st w h hn1 hn2 (Nat.le_trans hf.block (by omega)) hf.signs (Nat.le_trans hf.opn hk))
  clear h hf
  go_enter Try.func52, Try.ntmps52
  go_wp2_with fail
  refine HES.out.mono ?_
  rintro e w2 hgo
  have hB2 : Bel R w w2 := hgo.1
  rcases hgo.2 with ⟨h0, he, hR2⟩ | ⟨h0, he⟩
  · subst he
    have HT := hide (HTk.out h0)
    obtain ⟨hFi, hop⟩ := HF1.out h0
    have HFi := hide hFi
    have HOp := hide hop
    have HR2 := hide hR2
    generalize (st.endSigns n).2 = st2 at *
    clear hgo hFi hop HES HTk HTb HF1 hR2
    have HN := hide (needChange_any R n 5 st2 w2 HR2.out)
    go_wp2_with fail
    refine HN.out.mono ?_
    rintro e w' ⟨rfl, rfl⟩
    by_cases hne : st2.needs = true
    · rw [if_pos hne]
      have hF : Hid ((st.fin n).1 = 5) := by show _ = _; rw [HT.out, if_pos hne]
      unfold thrown
      go_wp2
      exact ⟨rfl, Goes.bad hF.out (by decide) hB2⟩
    · rw [if_neg hne]
      have hF : Hid (st.fin n = st2.endBlock) := by show _ = _; rw [HT.out, if_neg hne]
      have hbn : 1 ≤ st2.block.length := by
        cases hb : st2.block with
        | nil => exfalso; apply hne; unfold RS.needs; rw [hb]; rfl
        | cons a l => simp
      have HAD := hide (endBlock_any R n st2 w2 HR2.out HOp.out ⟨hbn, Nat.le_trans HFi.out.block (by omega)⟩ (Nat.le_trans HFi.out.all (by omega)) (fun j => Nat.le_trans (HFi.out.inner j) (by omega)))
      clear HN HR2 hbn
      go_wp2_with fail
      refine HAD.out.mono ?_
      rintro e w6 hgo
      have hgo2 : Goes w R n (st.fin n) e w6 := by rw [hF.out]; exact hgo.after hB2
      have HG := hide hgo2
      rcases hgo2.2 with ⟨_, he, _⟩ | ⟨_, he⟩
      · subst he
        clear hgo hgo2
        go_wp2
        first
          | exact bodyPost_end (results_none rfl _ _ _) rfl HG.out
          | exact bodyPost_ret (results_none rfl _ _ _) rfl HG.out
      · subst he
        clear hgo hgo2
        unfold thrown
        go_wp2
        exact ⟨rfl, HG.out⟩
  · subst he
    have HG : Hid (Goes w R n (st.fin n) (thrown (st.endSigns n).1) w2) := Goes.bad (by rw [HTb.out h0]) h0 hB2
    clear hgo HES
    generalize (st.endSigns n).1 = code at *
    unfold thrown
    go_wp2
    exact ⟨rfl, HG.out⟩

theorem RS.Fine.take {k c : Nat} {n : Int} {st : RS} (h : RS.Fine k st) (h0 : (st.take n c (si c)).1 = 0) : RS.Fine (k + 1) (st.take n c (si c)).2 := by
  have hsr := si_range c
  unfold RS.take at h0 ⊢
  by_cases hs : 0 ≤ si c
  · rw [if_pos hs]
    refine ⟨h.block, h.all, fun x hx => ?_, ?_, fun j => Nat.le_trans (h.inner j) (by omega)⟩
    · rcases List.mem_append.1 hx with hx | hx
      · exact h.signs x hx
      · rw [List.mem_singleton.1 hx]; omega
    · have := h.opn
      show (st.opn ++ [si c + 1]).length ≤ k + 1
      rw [List.length_append]; simp; omega
  · rw [if_neg hs] at h0 ⊢
    by_cases hz : (st.endSigns n).1 = 0
    · rw [if_pos hz] at h0 ⊢
      have h2 := (h.endSigns hz).1
      refine RS.Fine.mono (k := k) ?_ (by omega)
      generalize (st.endSigns n).2 = st2 at *
      unfold RS.other at h0 ⊢
      split at h0
      · rename_i hc; rw [if_pos hc]; exact h2.add (by simp) h0
      · rename_i hc
        rw [if_neg hc]
        split at h0
        · rename_i hd
          rw [if_pos hd]
          split at h0
          · cases h0
          · rename_i hn; rw [if_neg hn]; exact ⟨h2.block, h2.all, h2.signs, h2.opn, h2.inner⟩
        · rename_i hd
          rw [if_neg hd]
          split at h0
          · rename_i he
            rw [if_pos he]
            split at h0
            · cases h0
            · rename_i hn
              rw [if_neg hn]
              unfold RS.endBlock at h0 ⊢
              refine ⟨Nat.zero_le _, ?_, h2.signs, h2.opn, fun j => by simp⟩
              by_cases hl : 200 < (st2.all ++ st2.block ++ st2.back).length
              · simp only [if_pos hl] at h0; cases h0
              · show (st2.all ++ st2.block ++ st2.back).length ≤ 200; omega
          · rename_i he
            rw [if_neg he]
            have hmk : ∀ m, (st2.mark m).1 = 0 → RS.Fine k (st2.mark m).2 := by
              intro m hm
              unfold RS.mark at hm ⊢
              split at hm
              · cases hm
              · rename_i hx; rw [if_neg hx]; exact ⟨h2.block, h2.all, h2.signs, h2.opn, h2.inner⟩
            split at h0
            · rename_i hf; rw [if_pos hf]; exact hmk true h0
            · rename_i hf
              rw [if_neg hf]
              split at h0
              · rename_i hg; rw [if_pos hg]; exact hmk false h0
              · cases h0
    · rw [if_neg hz] at h0; exact absurd h0 hz

end Go.Proofs.Ytgglbafcocbhbaa
