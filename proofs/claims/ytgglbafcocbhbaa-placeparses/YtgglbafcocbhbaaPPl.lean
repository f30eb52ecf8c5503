/- Plain: how far a text of changes has been read, rune by rune, as the answer does it. -/
import Derived.Test.YtgglbafcocbhbaaRd8
import Derived.Test.YtgglbafcocbhbaaRunB
namespace Go.Proofs.Ytgglbafcocbhbaa
open Go.RowKit

def stp (n : Int) (cs : List Nat) (k : Nat) (st : RS) : Int × RS := if k < cs.length then st.take n (cs.getD k 0) (si (cs.getD k 0)) else st.fin n

/-- Behind k runes (the one behind all is the end). -/
def PR (n : Int) (cs : List Nat) (k : Nat) (st : RS) : Prop :=
  (k ≤ cs.length ∧ RS.run n si RS.new (cs.take k) = (0, st)) ∨ (k = cs.length + 1 ∧ ∃ st0, RS.run n si RS.new cs = (0, st0) ∧ st0.fin n = (0, st))

theorem PR.start (n : Int) (cs : List Nat) : PR n cs 0 RS.new := Or.inl ⟨Nat.zero_le _, rfl⟩

theorem takeN_snoc (cs : List Nat) (k : Nat) (h : k < cs.length) : cs.take (k + 1) = cs.take k ++ [cs.getD k 0] := by
  rw [List.take_add_one, List.getElem?_eq_getElem h]; simp [List.getD, List.getElem?_eq_getElem h]

theorem PR.step {n : Int} {cs : List Nat} {k : Nat} {st st' : RS} (h : PR n cs k st) (hk : k ≤ cs.length) (h0 : stp n cs k st = (0, st')) : PR n cs (k + 1) st' := by
  rcases h with ⟨_, h⟩ | ⟨h, _⟩
  · unfold stp at h0
    by_cases hlt : k < cs.length
    · rw [if_pos hlt] at h0
      exact Or.inl ⟨hlt, by rw [takeN_snoc cs k hlt, RS.run_snoc _ _ _ _ _ (by rw [h]), h]; exact h0⟩
    · rw [if_neg hlt] at h0
      rw [List.take_of_length_le (by omega)] at h
      exact Or.inr ⟨by omega, st, h, h0⟩
  · omega

theorem PR.bad {n : Int} {cs : List Nat} {k : Nat} {st : RS} {c : Int} (h : PR n cs k st) (hk : k ≤ cs.length) (h0 : (stp n cs k st).1 = c) (hc : c ≠ 0) : RS.parse n si cs = (c, []) := by
  rcases h with ⟨_, h⟩ | ⟨h, _⟩
  · unfold stp at h0
    unfold RS.parse
    by_cases hlt : k < cs.length
    · rw [if_pos hlt] at h0
      have h1 : RS.run n si RS.new (cs.take (k + 1)) = st.take n (cs.getD k 0) (si (cs.getD k 0)) := by rw [takeN_snoc cs k hlt, RS.run_snoc _ _ _ _ _ (by rw [h]), h]
      have h2 := RS.run_bad n si (cs.take (k + 1)) (cs.drop (k + 1)) RS.new (by rw [h1, h0]; exact hc)
      rw [List.take_append_drop] at h2
      rw [h2, h1, if_neg (by rw [h0]; exact hc), h0]
    · rw [if_neg hlt] at h0
      rw [List.take_of_length_le (by omega)] at h
      rw [h, if_pos rfl]
      show (if (st.fin n).1 = 0 then _ else _) = _
      rw [if_neg (by rw [h0]; exact hc), h0]
  · omega

theorem PR.done {n : Int} {cs : List Nat} {st : RS} (h : PR n cs (cs.length + 1) st) : RS.parse n si cs = (0, st.all) := by
  rcases h with ⟨h, _⟩ | ⟨_, st0, h1, h2⟩
  · omega
  · unfold RS.parse
    rw [h1, if_pos rfl]
    show (if (st0.fin n).1 = 0 then _ else _) = _
    rw [h2, if_pos rfl]

theorem sa_range (c : Int) : -1 ≤ sa c ∧ sa c ≤ 11 := by
  unfold sa
  split
  · exact si_range _
  · omega

/-- What stands at a place: a rune, or the end, told as a comma. -/
def RU (cs : List Nat) (k : Nat) (c : Int) : Prop := (k < cs.length ∧ (c = ((cs.getD k 0 : Nat) : Int) ∨ (c = -1 ∧ cs.getD k 0 = 65533))) ∨ (k = cs.length ∧ c = 44)

theorem ru_at (s : ByteArray) (k : Nat) (h : k ≤ (runesOf s).length) : RU (runesOf s) k ((arunes s ++ [44]).getD k 0) := by
  have hl := arunes_length s
  by_cases hlt : k < (runesOf s).length
  · refine Or.inl ⟨hlt, ?_⟩
    have := arunes_at s k hlt
    rw [List.getD_eq_getElem?_getD, List.getElem?_append_left (by omega), ← List.getD_eq_getElem?_getD]
    exact this
  · refine Or.inr ⟨by omega, ?_⟩
    rw [List.getD_eq_getElem?_getD, List.getElem?_append_right (by omega), show k - (arunes s).length = 0 by omega]
    rfl

/-- What a rune does that is no sign, behind the signs' end; e: it is the end. -/
def rest (n : Int) (st : RS) (c : Int) (e : Bool) : Int × RS :=
  if c = 120 ∨ c = 88 ∨ c = 45 ∨ c = 215 then st.add n []
  else if c = 46 then (if st.needs = true then (4, st) else (0, { st with dot := true }))
  else if c = 44 then (if st.needs = true then (if e = true then 5 else 4, st) else st.endBlock)
  else if c = 38 then st.mark true
  else if c = 43 then st.mark false
  else (4, st)

theorem stp_sign {n : Int} {cs : List Nat} {k : Nat} {st : RS} {c : Int} (hr : RU cs k c) (hs : 0 ≤ sa c) : stp n cs k st = (0, { st with opn := st.opn ++ [sa c + 1] }) := by
  have s44 : sa 44 = -1 := by decide
  rcases hr with ⟨hlt, rfl | ⟨rfl, _⟩⟩ | ⟨_, rfl⟩
  · unfold stp RS.take
    rw [if_pos hlt]
    have he : sa ((cs.getD k 0 : Nat) : Int) = si (cs.getD k 0) := by unfold sa; rw [if_pos (by omega)]; rfl
    rw [he] at hs ⊢
    rw [if_pos hs]
  · exact absurd hs (by decide)
  · omega

theorem stp_no {n : Int} {cs : List Nat} {k : Nat} {st : RS} {c : Int} (hr : RU cs k c) (hs : sa c < 0) :
    stp n cs k st = if (st.endSigns n).1 = 0 then rest n (st.endSigns n).2 c (decide (k = cs.length)) else st.endSigns n := by
  rcases hr with ⟨hlt, hc⟩ | ⟨hk, rfl⟩
  · unfold stp RS.take
    rw [if_pos hlt]
    have hsi : ¬ 0 ≤ si (cs.getD k 0) := by
      rcases hc with rfl | ⟨_, h2⟩
      · have he : sa ((cs.getD k 0 : Nat) : Int) = si (cs.getD k 0) := by unfold sa; rw [if_pos (by omega)]; rfl
        omega
      · rw [h2]; decide
    rw [if_neg hsi, decide_eq_false (by omega)]
    have hE : ∀ st1 : RS, st1.other n (cs.getD k 0) = rest n st1 c false := by
      intro st1
      unfold RS.other rest
      generalize cs.getD k 0 = r at *
      rcases hc with rfl | ⟨rfl, rfl⟩
      · have e1 : (r = 120 ∨ r = 88 ∨ r = 45 ∨ r = 215) ↔ ((r : Int) = 120 ∨ (r : Int) = 88 ∨ (r : Int) = 45 ∨ (r : Int) = 215) := by omega
        have e2 : r = 46 ↔ (r : Int) = 46 := by omega
        have e3 : r = 44 ↔ (r : Int) = 44 := by omega
        have e4 : r = 38 ↔ (r : Int) = 38 := by omega
        have e5 : r = 43 ↔ (r : Int) = 43 := by omega
        simp only [e1, e2, e3, e4, e5, Bool.false_eq_true, if_false]
      · rfl
    rw [hE]
  · unfold stp RS.fin
    rw [if_neg (by omega), decide_eq_true hk]
    rfl

/-- Does a block begin? -/
def bg (st : RS) : Bool := !st.marked && decide (st.block = []) && decide (st.opn = [])
/-- Was a dot the last? -/
def dt (st : RS) : Bool := st.dot && decide (st.opn = [])

theorem endSigns_flags {n : Int} {st : RS} (h : (st.endSigns n).1 = 0) : bg (st.endSigns n).2 = bg st ∧ dt (st.endSigns n).2 = dt st ∧ (st.endSigns n).2.mirrored = st.mirrored ∧ (st.endSigns n).2.opn = [] ∧ (st.endSigns n).2.all = st.all ∧ (st.endSigns n).2.block = st.block ++ (if st.opn = [] then [] else [fill2 n (fill1 st.opn)]) := by
  unfold RS.endSigns at *
  by_cases ho : st.opn = []
  · rw [if_pos ho]; simp [ho]
  · rw [if_neg ho] at h ⊢
    unfold RS.add at *
    by_cases hk : okc n 0 (fill2 n (fill1 st.opn)) = true
    · rw [if_pos hk] at h ⊢
      simp [bg, dt, ho]
    · rw [if_neg hk] at h
      exact absurd h (by simp)

end Go.Proofs.Ytgglbafcocbhbaa
