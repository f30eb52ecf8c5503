/- Joined: BoB, BoC, BoO, BoP, RunA, Idx. -/
import Derived.Test.YtffnfchekbafmaaGreatDoorJ0
import Derived.Test.YtffnfchekbafmaaGreatDoorJ3
import Derived.Test.YtffnfchekbafmaaGreatDoorJ2
import Derived.Lib.Bytealg
import Derived.Laws.Runes
import Derived.Laws.Externs
import Derived.WalkMore
import Derived.Deep.QuietTactic
import Derived.Deep.RegionHeld3
/- Plain: a line of which one byte is turned is none. -/
namespace Go.Proofs.YtffnfchekbafmaaGreatDoor
open Go.Lib (decDigits)

theorem split_at {l : List UInt8} {p : Nat} (h : p < l.length) : l = l.take p ++ l[p] :: l.drop (p + 1) := by
  rw [List.getElem_cons_drop, List.take_append_drop]

theorem set_at9 {l : List UInt8} {p : Nat} (x : UInt8) (h : p < l.length) : l.set p x = l.take p ++ x :: l.drop (p + 1) := by
  rw [List.set_eq_take_append_cons_drop, if_pos h]

theorem fstL_pre {bs l : List UInt8} (h : fstL bs = l) : ∃ q, bs = l ++ q := ⟨bs.drop (nlA bs), by rw [← h]; unfold fstL; rw [List.take_append_drop]⟩

/-- A LINE OF WHICH ONE BYTE IS TURNED IS NONE, whatever stands behind it. -/
theorem turned_none {T rest : List UInt8} {p : Nat} {x : UInt8} (hT : Cln T) (hp : p < (lnOf T).length) (hx : (lnOf T)[p]? ≠ some x) {T' : List UInt8} (hT' : Cln T') : fstL ((lnOf T).set p x ++ rest) ≠ lnOf T' := by
  intro hf
  obtain ⟨q, hq⟩ := fstL_pre hf
  have hD := Cln.dec (chkN T)
  have hD' := Cln.dec (chkN T')
  have n35 : ∀ {l : List UInt8}, Cln l → ∀ z, z ∈ l → z ≠ 35 := fun h z hz => (h z hz).1
  have n10 : ∀ {l : List UInt8}, Cln l → ∀ z, z ∈ l → z ≠ 10 := fun h z hz => (h z hz).2
  have hl10 := line_no10 hT'
  have hR : lnOf T' ++ q = (T' ++ 35 :: decDigits (chkN T')) ++ 10 :: q := by rw [lnOf_form, List.append_assoc]; rfl
  have hR2 : lnOf T' ++ q = T' ++ 35 :: (decDigits (chkN T') ++ 10 :: q) := by rw [hR]; simp
  generalize hDD : decDigits (chkN T) = D at *
  generalize hDD' : decDigits (chkN T') = D' at *
  have hlen : (lnOf T).length = T.length + D.length + 2 := by rw [lnOf_length, hDD]
  rw [hlen] at hp
  have hform : lnOf T = T ++ 35 :: (D ++ [10]) := by unfold lnOf; rw [hDD]
  rw [hform] at hq hx
  by_cases h1 : p < T.length
  · rw [List.getElem?_append_left h1, List.getElem?_eq_getElem h1] at hx
    have hy : T[p] ≠ x := fun e => hx (by rw [e])
    have hTs := split_at h1
    rw [List.set_append_left _ _ h1, set_at9 x h1] at hq
    have ha : Cln (T.take p) := fun z hz => hT z (List.mem_of_mem_take hz)
    have hc : Cln (T.drop (p + 1)) := fun z hz => hT z (List.mem_of_mem_drop hz)
    generalize T.take p = a at *
    generalize T.drop (p + 1) = c at *
    generalize T[p] = y at *
    by_cases e35 : x = 35
    · subst e35
      rw [hR2] at hq
      have hq' : a ++ 35 :: (c ++ 35 :: (D ++ 10 :: rest)) = T' ++ 35 :: (D' ++ 10 :: q) := by rw [← hq]; simp
      obtain ⟨_, h3⟩ := cut_same (n35 ha) (n35 hT') hq'
      have h4 : (c ++ 35 :: D) ++ 10 :: rest = D' ++ 10 :: q := by rw [← h3]; simp
      obtain ⟨h5, _⟩ := cut_same (s := 10) (fun z hz => by
        rcases List.mem_append.1 hz with h | h
        · exact n10 hc z h
        · rcases List.mem_cons.1 h with h | h
          · rw [h]; decide
          · exact n10 hD z h) (n10 hD') h4
      exact n35 hD' 35 (by rw [← h5]; simp) rfl
    · by_cases e10 : x = 10
      · subst e10
        rw [hR] at hq
        have hq' : a ++ 10 :: (c ++ 35 :: (D ++ 10 :: rest)) = (T' ++ 35 :: D') ++ 10 :: q := by rw [← hq]; simp
        obtain ⟨h5, _⟩ := cut_same (n10 ha) hl10 hq'
        exact n35 ha 35 (by rw [h5]; simp) rfl
      · rw [hR2] at hq
        have hq' : (a ++ x :: c) ++ 35 :: (D ++ 10 :: rest) = T' ++ 35 :: (D' ++ 10 :: q) := by rw [← hq]; simp
        obtain ⟨h5, h6⟩ := cut_same (s := 35) (fun z hz => by
          rcases List.mem_append.1 hz with h | h
          · exact n35 ha z h
          · rcases List.mem_cons.1 h with h | h
            · rw [h]; exact e35
            · exact n35 hc z h) (n35 hT') hq'
        obtain ⟨h7, _⟩ := cut_same (n10 hD) (n10 hD') h6
        rw [← hDD, ← hDD'] at h7
        have h8 := dec_inj h7
        rw [hTs, ← h5] at h8
        exact hy (chk_one h8)
  · by_cases h2 : p = T.length
    · subst h2
      have hx35 : x ≠ 35 := fun e => hx (by rw [e]; simp)
      have hq' : T ++ x :: (D ++ 10 :: rest) = lnOf T' ++ q := by
        rw [← hq, List.set_append_right _ _ (Nat.le_refl _), Nat.sub_self, List.set_cons_zero]; simp
      rw [hR] at hq'
      by_cases e10 : x = 10
      · subst e10
        obtain ⟨h5, _⟩ := cut_same (n10 hT) hl10 hq'
        exact n35 hT 35 (by rw [h5]; simp) rfl
      · have hq2 : (T ++ x :: D) ++ 10 :: rest = (T' ++ 35 :: D') ++ 10 :: q := by rw [← hq']; simp
        obtain ⟨h5, _⟩ := cut_same (s := 10) (fun z hz => by
          rcases List.mem_append.1 hz with h | h
          · exact n10 hT z h
          · rcases List.mem_cons.1 h with h | h
            · rw [h]; exact e10
            · exact n10 hD z h) hl10 hq2
        have h6 : (35 : UInt8) ∈ T ++ x :: D := by rw [h5]; simp
        rcases List.mem_append.1 h6 with h | h
        · exact n35 hT 35 h rfl
        · rcases List.mem_cons.1 h with h | h
          · exact hx35 h.symm
          · exact n35 hD 35 h rfl
    · obtain ⟨k, hk⟩ : ∃ k, p = T.length + (k + 1) := ⟨p - T.length - 1, by omega⟩
      subst hk
      have hx' : (D ++ [10])[k]? ≠ some x := by
        rw [List.getElem?_append_right (by omega), show T.length + (k + 1) - T.length = k + 1 by omega, List.getElem?_cons_succ] at hx
        exact hx
      have hq' : T ++ 35 :: ((D ++ [10]).set k x ++ rest) = T' ++ 35 :: (D' ++ 10 :: q) := by
        have hset : (T ++ 35 :: (D ++ [10])).set (T.length + (k + 1)) x = T ++ 35 :: (D ++ [10]).set k x := by
          have h9 : (T ++ 35 :: (D ++ [10])).set (T.length + (k + 1)) x = T ++ (35 :: (D ++ [10])).set (T.length + (k + 1) - T.length) x := List.set_append_right _ _ (by omega)
          rw [h9, show T.length + (k + 1) - T.length = k + 1 by omega, List.set_cons_succ]
        rw [← hR2, ← hq, hset]; simp
      obtain ⟨h3, h4⟩ := cut_same (n35 hT) (n35 hT') hq'
      have hDe : D' = D := by rw [← hDD, ← hDD', h3]
      rw [hDe] at h4
      by_cases hkD : k < D.length
      · rw [List.getElem?_append_left hkD, List.getElem?_eq_getElem hkD] at hx'
        have hy : D[k] ≠ x := fun e => hx' (by rw [e])
        have hDs := split_at hkD
        rw [List.set_append_left _ _ hkD, set_at9 x hkD] at h4
        have ha : Cln (D.take k) := fun z hz => hD z (List.mem_of_mem_take hz)
        have hc : Cln (D.drop (k + 1)) := fun z hz => hD z (List.mem_of_mem_drop hz)
        by_cases e10 : x = 10
        · subst e10
          have h5 : D.take k ++ 10 :: (D.drop (k + 1) ++ 10 :: rest) = D ++ 10 :: q := by rw [← h4]; simp
          obtain ⟨h6, _⟩ := cut_same (n10 ha) (n10 hD) h5
          have h7 := congrArg List.length h6
          rw [List.length_take] at h7
          omega
        · have h5 : (D.take k ++ x :: D.drop (k + 1)) ++ 10 :: rest = D ++ 10 :: q := by rw [← h4]; simp
          obtain ⟨h6, _⟩ := cut_same (s := 10) (fun z hz => by
            rcases List.mem_append.1 hz with h | h
            · exact n10 ha z h
            · rcases List.mem_cons.1 h with h | h
              · rw [h]; exact e10
              · exact n10 hc z h) (n10 hD) h5
          have h7 := List.append_cancel_left (h6.trans hDs)
          injection h7 with h8 _
          exact hy h8.symm
      · have hkk : k = D.length := by omega
        subst hkk
        have hx10 : x ≠ 10 := fun e => hx' (by rw [e]; simp)
        rw [List.set_append_right _ _ (Nat.le_refl _), Nat.sub_self, List.set_cons_zero] at h4
        have h5 : D ++ x :: rest = D ++ 10 :: q := by rw [← h4]; simp
        have h6 := List.append_cancel_left h5
        injection h6 with h7 _
        exact hx10 h7

end Go.Proofs.YtffnfchekbafmaaGreatDoor

/- Plain: opening a book: whatever is cut off, or where one byte is turned. -/
namespace Go.Proofs.YtffnfchekbafmaaGreatDoor
open Go.Lib (decDigits)

/-- Bytes that open with just these texts' lines. -/
inductive Opn (P : List UInt8 → Prop) : List UInt8 → List (List UInt8) → Prop
  | stop {bs : List UInt8} : (∀ T, P T → fstL bs ≠ lnOf T) → Opn P bs []
  | more {bs T : List UInt8} {Ts : List (List UInt8)} : P T → fstL bs = lnOf T → Opn P (bs.drop (lnOf T).length) Ts → Opn P bs (T :: Ts)

/-- All lines. -/
def lns (Ts : List (List UInt8)) : List UInt8 := (Ts.map lnOf).flatten

theorem lns_cons (T : List UInt8) (Ts : List (List UInt8)) : lns (T :: Ts) = lnOf T ++ lns Ts := by unfold lns; rw [List.map_cons, List.flatten_cons]

theorem lns_append (A B : List (List UInt8)) : lns (A ++ B) = lns A ++ lns B := by unfold lns; rw [List.map_append, List.flatten_append]

theorem lnOf_pos (T : List UInt8) : 0 < (lnOf T).length := by rw [lnOf_length]; omega

/-- How many bytes the first so many lines are. -/
def lnE (Ts : List (List UInt8)) (j : Nat) : Nat := (lns (Ts.take j)).length

theorem lnE_cons (T : List UInt8) (Ts : List (List UInt8)) (j : Nat) : lnE (T :: Ts) (j + 1) = (lnOf T).length + lnE Ts j := by
  unfold lnE; rw [List.take_succ_cons, lns_cons, List.length_append]

theorem lnE_zero (Ts : List (List UInt8)) : lnE Ts 0 = 0 := rfl

/-- WHATEVER IS CUT OFF: the lines that are whole stay. -/
theorem opn_cut {P : List UInt8 → Prop} (hP : ∀ T, P T → Cln T) : ∀ (Ts : List (List UInt8)), (∀ T, T ∈ Ts → P T) → ∀ cut, ∃ j, j ≤ Ts.length ∧ Opn P ((lns Ts).take cut) (Ts.take j) ∧ lnE Ts j ≤ cut ∧ (j < Ts.length → cut < lnE Ts (j + 1))
  | [], _, cut => ⟨0, Nat.le_refl _, Opn.stop (fun T _ => by rw [show (lns []).take cut = [] from List.take_nil]; exact lnOf_ne_nil T), Nat.zero_le _, fun h => absurd h (by simp)⟩
  | T :: Ts, h, cut => by
    have hT := hP T (h T List.mem_cons_self)
    by_cases hc : cut < (lnOf T).length
    · refine ⟨0, Nat.zero_le _, Opn.stop (fun S _ => ?_), Nat.zero_le _, fun _ => ?_⟩
      · rw [lns_cons, List.take_append_of_le_length (Nat.le_of_lt hc), fstL_cut hT hc]
        exact lnOf_ne_nil S
      · rw [lnE_cons, lnE_zero]; exact hc
    · obtain ⟨j, h1, h2, h3, h4⟩ := opn_cut hP Ts (fun S hS => h S (List.mem_cons_of_mem _ hS)) (cut - (lnOf T).length)
      have e : (lns (T :: Ts)).take cut = lnOf T ++ (lns Ts).take (cut - (lnOf T).length) := by
        rw [lns_cons, List.take_append, List.take_of_length_le (by omega)]
      refine ⟨j + 1, by simpa using h1, ?_, by rw [lnE_cons]; omega, fun hj => ?_⟩
      · rw [List.take_succ_cons, e]
        exact Opn.more (h T List.mem_cons_self) (fstL_line hT) (by rw [List.drop_left']; exact h2; rfl)
      · rw [lnE_cons]
        have := h4 (by simpa using hj)
        omega

/-- WHERE ONE BYTE IS TURNED: the lines ahead of its line stay. -/
theorem opn_turn {P : List UInt8 → Prop} (hP : ∀ T, P T → Cln T) : ∀ (Ts : List (List UInt8)), (∀ T, T ∈ Ts → P T) → ∀ (at_ : Nat) (x : UInt8), at_ < (lns Ts).length → (lns Ts)[at_]? ≠ some x → ∃ j, j < Ts.length ∧ Opn P ((lns Ts).set at_ x) (Ts.take j) ∧ lnE Ts j ≤ at_ ∧ at_ < lnE Ts (j + 1)
  | [], _, at_, x, ha, _ => by simp [lns] at ha
  | T :: Ts, h, at_, x, ha, hx => by
    have hT := hP T (h T List.mem_cons_self)
    rw [lns_cons] at ha hx
    by_cases hc : at_ < (lnOf T).length
    · refine ⟨0, by simp, Opn.stop (fun S hS => ?_), Nat.zero_le _, ?_⟩
      · rw [lns_cons, List.set_append_left _ _ hc]
        rw [List.getElem?_append_left hc] at hx
        exact turned_none hT hc hx (hP S hS)
      · rw [lnE_cons, lnE_zero]; exact hc
    · rw [List.length_append] at ha
      rw [List.getElem?_append_right (by omega)] at hx
      obtain ⟨j, h1, h2, h3, h4⟩ := opn_turn hP Ts (fun S hS => h S (List.mem_cons_of_mem _ hS)) (at_ - (lnOf T).length) x (by omega) hx
      refine ⟨j + 1, by simpa using h1, ?_, by rw [lnE_cons]; omega, by rw [lnE_cons]; omega⟩
      rw [List.take_succ_cons, lns_cons, List.set_append_right _ _ (by omega)]
      exact Opn.more (h T List.mem_cons_self) (fstL_line hT) (by rw [List.drop_left']; exact h2; rfl)

/-- What is opened is told by the bytes alone. -/
theorem Opn.unique {P : List UInt8 → Prop} (hP : ∀ T, P T → Cln T) {bs : List UInt8} {A : List (List UInt8)} (h : Opn P bs A) : ∀ {B : List (List UInt8)}, Opn P bs B → A = B := by
  induction h with
  | stop hs =>
    intro B hB
    cases hB with
    | stop _ => rfl
    | more h1 h2 _ => exact absurd h2 (hs _ h1)
  | more h1 h2 _ ih =>
    intro B hB
    cases hB with
    | stop hs => exact absurd h2 (hs _ h1)
    | more k1 k2 k3 =>
      have e := lnOf_inj (hP _ h1) (hP _ k1) (h2.symm.trans k2)
      subst e
      rw [ih k3]

end Go.Proofs.YtffnfchekbafmaaGreatDoor

/- Plain: a record's line is read back as that record. -/
namespace Go.Proofs.YtffnfchekbafmaaGreatDoor
open Go.RowKit Go.Lib
set_option maxRecDepth 20000
set_option linter.unusedVariables false

theorem mem_jnF (c : UInt8) : ∀ (r : List (List UInt8)) (x : List UInt8) (b : UInt8), b ∈ jnF c x r → b = c ∨ ∃ y, y ∈ x :: r ∧ b ∈ y
  | [], x, b, h => Or.inr ⟨x, by simp, h⟩
  | y :: r, x, b, h => by
    rcases List.mem_append.1 h with h | h
    · exact Or.inr ⟨x, by simp, h⟩
    · rcases List.mem_cons.1 h with h | h
      · exact Or.inl h
      · rcases mem_jnF c r y b h with h | ⟨z, hz, hb⟩
        · exact Or.inl h
        · exact Or.inr ⟨z, List.mem_cons_of_mem _ hz, hb⟩

theorem jnB_data (c : UInt8) (x : ByteArray) (r : List ByteArray) : (jnB c (x :: r)).data.toList = jnF c x.data.toList (r.map (fun y => y.data.toList)) := by
  show (jnL c ((x :: r).map (fun x => x.data.toList))).toArray.toList = _
  rw [List.toList_toArray, List.map_cons]
  exact jnF_eq c _ _

theorem map_data_inj : ∀ {a b : List ByteArray}, a.map (fun y => y.data.toList) = b.map (fun y => y.data.toList) → a = b
  | [], [], _ => rfl
  | [], y :: b, h => by simp at h
  | x :: a, [], h => by simp at h
  | x :: a, y :: b, h => by
    rw [List.map_cons, List.map_cons] at h
    injection h with h1 h2
    rw [map_data_inj h2]
    cases x; cases y
    congr 2
    exact Array.ext' h1

theorem spN_join (c : UInt8) (n : Nat) (hn : 1 ≤ n) (x : ByteArray) (r : List ByteArray) (hl : r.length + 1 ≤ n) (h : ∀ y, y ∈ x :: r → ∀ b ∈ y.data.toList, b ≠ c) : spN c n (jnB c (x :: r)) = x :: r := by
  apply map_data_inj
  rw [spN_data]
  have e1 : (jnB c (x :: r)).size = (jnB c (x :: r)).data.toList.length := by rw [Array.length_toList]; rfl
  rw [e1, jnB_data, List.map_cons]
  have h2 := jnF_long c (r.map (fun y => y.data.toList)) x.data.toList
  rw [List.length_map] at h2
  refine spl_join c _ _ _ (by rw [List.length_map]; omega) (fun y hy b hb => ?_)
  rcases List.mem_cons.1 hy with rfl | hy
  · exact h x (by simp) b hb
  · obtain ⟨z, hz, rfl⟩ := List.mem_map.1 hy
    exact h z (List.mem_cons_of_mem _ hz) b hb

/-- The last part may hold the sign. -/
theorem spl_join4 (c : UInt8) (a b m r : List UInt8) (ha : ∀ x ∈ a, x ≠ c) (hb : ∀ x ∈ b, x ≠ c) (hm : ∀ x ∈ m, x ≠ c) : splitK [c] 0 3 (jnF c a [b, m, r]) = [a, b, m, r] := by
  show splitK [c] 0 3 (a ++ c :: (b ++ c :: (m ++ c :: r))) = _
  rw [spl_hit c 2 a _ ha, spl_hit c 1 b _ hb, spl_hit c 0 m _ hm]
  rfl

theorem spN_join4 (c : UInt8) (a b m r : ByteArray) (ha : ∀ x ∈ a.data.toList, x ≠ c) (hb : ∀ x ∈ b.data.toList, x ≠ c) (hm : ∀ x ∈ m.data.toList, x ≠ c) : spN c 4 (jnB c [a, b, m, r]) = [a, b, m, r] := by
  apply map_data_inj
  rw [spN_data]
  have e1 : (jnB c [a, b, m, r]).size = (jnB c [a, b, m, r]).data.toList.length := by rw [Array.length_toList]; rfl
  rw [e1, jnB_data]
  have h2 := jnF_long c ([b, m, r].map (fun y => y.data.toList)) a.data.toList
  simp only [List.length_map, List.length_cons, List.length_nil] at h2
  rw [show min 4 ((jnF c a.data.toList ([b, m, r].map (fun y => y.data.toList))).length + 1) - 1 = 3 by omega]
  exact spl_join4 c _ _ _ _ ha hb hm

theorem ring_sign {d c : Int} {m : ByteArray} {ring : List ByteArray} (h : MayR d c m ring) {s : UInt8} (hs : s.toNat < 128) (ho : ofn s.toNat = false) (h44 : s ≠ 44) : ∀ b ∈ (jnB 44 ring).data.toList, b ≠ s := by
  match ring, h with
  | [], h => exact absurd h.some (by decide)
  | x :: r, h =>
    intro b hb
    rw [jnB_data] at hb
    rcases mem_jnF 44 _ _ b hb with rfl | ⟨y, hy, hb2⟩
    · exact fun e => h44 e.symm
    · have : ∃ z, z ∈ x :: r ∧ y = z.data.toList := by
        rcases List.mem_cons.1 hy with rfl | hy
        · exact ⟨x, by simp, rfl⟩
        · obtain ⟨z, hz, rfl⟩ := List.mem_map.1 hy
          exact ⟨z, List.mem_cons_of_mem _ hz, rfl⟩
      obtain ⟨z, hz, rfl⟩ := this
      exact nm_sign (h.names z hz) hs ho b hb2

theorem tx_sign {d c : Nat} {m : ByteArray} {ring : List ByteArray} (h : MayR (d : Int) (c : Int) m ring) {s : UInt8} (hs : s.toNat < 48) (ho : ofn s.toNat = false) (h44 : s ≠ 44) (h124 : s ≠ 124) : ∀ b ∈ (txB d c m ring).data.toList, b ≠ s := by
  intro b hb
  unfold txB at hb
  rw [jnB_data] at hb
  rcases mem_jnF 124 _ _ b hb with rfl | ⟨y, hy, hb2⟩
  · exact fun e => h124 e.symm
  · simp only [List.map_cons, List.map_nil, List.mem_cons, List.not_mem_nil, or_false] at hy
    rcases hy with rfl | rfl | rfl | rfl
    · exact dec_sign d (Or.inl hs) b (by simpa using hb2)
    · exact dec_sign c (Or.inl hs) b (by simpa using hb2)
    · exact nm_sign h.name (by omega) ho b hb2
    · exact ring_sign h (by omega) ho h44 b hb2

theorem tx_cln {d c : Nat} {m : ByteArray} {ring : List ByteArray} (h : MayR (d : Int) (c : Int) m ring) : Cln (txB d c m ring).data.toList := fun b hb =>
  ⟨tx_sign h (s := 35) (by decide) (by decide) (by decide) (by decide) b hb, tx_sign h (s := 10) (by decide) (by decide) (by decide) (by decide) b hb⟩

theorem lnB_data (t : ByteArray) : (lnB t).data.toList = lnOf t.data.toList := by
  show (lnOf t.data.toList).toArray.toList = _
  rw [List.toList_toArray]

/-- The text ahead of '#'. -/
def hdB (line : ByteArray) : ByteArray := ⟨(Lib.cut line.data.toList [35]).1.toArray⟩

theorem hdB_size (line : ByteArray) : (hdB line).size ≤ line.size := by
  show (Lib.cut line.data.toList [35]).1.toArray.size ≤ _
  rw [List.size_toArray]
  have e : line.data.toList.length = line.size := by rw [Array.length_toList]; rfl
  unfold Lib.cut
  split
  · rw [← e]; simp [List.length_take]; omega
  · rw [← e]; exact Nat.le_refl _

/-- A RECORD'S LINE IS READ BACK. -/
theorem read_back {d c : Nat} {m : ByteArray} {ring : List ByteArray} (h : MayR (d : Int) (c : Int) m ring) : hdB (lnB (txB d c m ring)) = txB d c m ring ∧ spN 124 4 (txB d c m ring) = [⟨(decDigits d).toArray⟩, ⟨(decDigits c).toArray⟩, m, jnB 44 ring] ∧ spN 44 13 (jnB 44 ring) = ring := by
  refine ⟨?_, ?_, ?_⟩
  · unfold hdB
    rw [lnB_data]
    unfold lnOf
    rw [cut_hit 35 _ _ (fun b hb => ((tx_cln h) b hb).1)]
  · exact spN_join4 124 _ _ _ _ (fun b hb => dec_sign d (c := 124) (Or.inr (by decide)) b (by simpa using hb)) (fun b hb => dec_sign c (c := 124) (Or.inr (by decide)) b (by simpa using hb)) (nm_sign h.name (by decide) (by decide))
  · match ring, h with
    | [], h => exact absurd h.some (by decide)
    | x :: r, h => exact spN_join 44 13 (by decide) x r (by have := h.few; simp at this ⊢; omega) (fun y hy => nm_sign (h.names y hy) (by decide) (by decide))

theorem dec_back {d : Nat} (h : d ≤ 1000000) : atoiAll (⟨(decDigits d).toArray⟩ : ByteArray).data.toList = .ok (d : Int) := by
  show atoiAll (decDigits d).toArray.toList = _
  rw [List.toList_toArray]; exact atoi_dec d h

end Go.Proofs.YtffnfchekbafmaaGreatDoor

/- Contract: book.readEntry. -/
namespace Go.Proofs.YtffnfchekbafmaaGreatDoor
open Go.RowKit Go.Lib
set_option maxRecDepth 100000
set_option linter.unusedVariables false

/-- What reading a line comes to. -/
def RdE (line : ByteArray) (w : World) (e : Ending) (w' : World) : Prop :=
  ((∃ (d c : Nat) (m : ByteArray) (ring : List ByteArray) (v : Value), MayR (d : Int) (c : Int) m ring ∧ e = .returned (.tuple #[.iface 75 (.agg #[.int .i64 (d : Int), .int .i64 (c : Int), .string m, v]), .bool true]) ∧ RgS w' v ring ∧ lnB (txB d c m ring) = line) ∨
    (∃ ev, e = .returned (.tuple #[ev, .bool false]) ∧ ∀ (d c : Nat) (m : ByteArray) (ring : List ByteArray), MayR (d : Int) (c : Int) m ring → lnB (txB d c m ring) ≠ line)) ∧ Below w.heap.size w w'

/-- Nothing that may be has this line, unless what was read does. -/
theorem none_else {line p0 p1 p2 p3 : ByteArray} {z0 z1 : Int} (hp : spN 124 4 (hdB line) = [p0, p1, p2, p3]) (h0 : ∀ u, atoiAll p0.data.toList = .ok u → z0 = u) (h1 : ∀ u, atoiAll p1.data.toList = .ok u → z1 = u)
    {d c : Nat} {m : ByteArray} {ring : List ByteArray} (h : MayR (d : Int) (c : Int) m ring) (he : lnB (txB d c m ring) = line) : z0 = (d : Int) ∧ z1 = (c : Int) ∧ p2 = m ∧ spN 44 13 p3 = ring := by
  obtain ⟨k1, k2, k3⟩ := read_back h
  rw [← he, k1, k2] at hp
  injection hp with e0 hp
  injection hp with e1 hp
  injection hp with e2 hp
  injection hp with e3 hp
  have hd := h.d1
  have hc := h.c2
  refine ⟨h0 _ (by rw [← e0]; exact dec_back (by omega)), h1 _ (by rw [← e1]; exact dec_back (by omega)), e2.symm, by rw [← e3]; exact k3⟩

set_option maxHeartbeats 1600000 in
theorem readEntry_ok (line : ByteArray) (w : World) (hg : Glk w) (hs : line.size ≤ 100000) :
    Calls Tryz.prog 11 #[.string line] w (RdE line w) := by
  have HC := hide (cutK_ok line w hg (by omega))
  have hhd := hdB_size line
  have HS : Hid (∀ V, Below w.heap.size w V → Calls Tryz.prog 18 #[.string (hdB line), .string ⟨#[124]⟩, .int .i64 4] V fun e w' => ∃ v, e = .returned v ∧ RgS w' v (spN 124 4 (hdB line)) ∧ Below V.heap.size V w') := fun V hV => splN_ok 124 4 (hdB line) V (hg.below hV) (by omega) (by decide) (by decide)
  have HPs : Hid (∀ x, x ∈ spN 124 4 (hdB line) → x.size ≤ 100000) := fun x hx => by have := splitB_sizes _ _ _ _ hx; omega
  have HPl := hide (spN_len 124 (n := 4) (by decide) (hdB line))
  have HG := hide hg
  change Hid (Calls Tryz.prog 17 #[.string line, .string ⟨#[35]⟩] w fun e w' => ∃ b c, e = .returned (.tuple #[.string (hdB line), .string b, .bool c]) ∧ Below w.heap.size w w') at HC
  generalize hPP : RdE line w = PP at *
  have HPP := hide hPP
  clear hg hPP hhd
  obtain ⟨HB, hHB⟩ : ∃ HB, HB = hdB line := ⟨_, rfl⟩
  rw [← hHB] at HC HS HPs HPl
  have HHB := hide hHB
  clear hHB
  by_cases h4 : (spN 124 4 HB).length < 4
  · have HN : Hid (∀ (ev : Value) (w' : World), Below w.heap.size w w' → PP (.returned (.tuple #[ev, .bool false])) w') := fun ev w' hb => by
      rw [← HPP.out]
      refine ⟨Or.inr ⟨ev, rfl, fun d c m ring hm he => ?_⟩, hb⟩
      obtain ⟨k1, k2, k3⟩ := read_back hm
      rw [HHB.out, ← he, k1, k2] at h4
      exact absurd h4 (by simp)
    generalize hps : spN 124 4 HB = ps at *
    have h4' : ((ps.length : Nat) : Int) < 4 := by omega
    generalize hL : ps.length = L at *
    clear hps h4 HPs HPl
    go_enter Tryz.func11, Tryz.ntmps11
    go_wp2_with fail
    refine HC.out.mono ?_
    rintro e W1 ⟨b1, c1, rfl, hb1⟩
    have HS1 := hide (HS.out W1 hb1)
    have HB1 := hide hb1
    clear hb1 HC HS
    go_wp2_with fail
    refine HS1.out.mono ?_
    rintro e W2 ⟨v, rfl, hv, hb2⟩
    have HF : Hid (Below w.heap.size w W2) := HB1.out.trans (hb2.mono HB1.out.size)
    obtain ⟨g, o, cap, cur, fr, ev, -⟩ := hv.mem
    rw [hL] at ev
    subst ev
    clear hv hb2 HS1 hL
    have HR := hide (HN.out .nilIface W2 HF.out)
    clear HN
    go_wp2
    exact HR.out
  · obtain ⟨p0, p1, p2, p3, hp⟩ : ∃ p0 p1 p2 p3, spN 124 4 HB = [p0, p1, p2, p3] := by
      have h5 := HPl.out
      match hps : spN 124 4 HB, h4, h5 with
      | [a, b, c, d], _, _ => exact ⟨a, b, c, d, rfl⟩
      | [], h4, _ => simp at h4
      | [a], h4, _ => simp at h4
      | [a, b], h4, _ => simp at h4
      | [a, b, c], h4, _ => simp at h4
      | a :: b :: c :: d :: x :: r, _, h5 => simp at h5; omega
    rw [hp] at HS HPs
    have s0 := HPs.out p0 (by simp)
    have s1 := HPs.out p1 (by simp)
    have s2 := HPs.out p2 (by simp)
    have s3 := HPs.out p3 (by simp)
    have HU : Hid (∀ (z0 z1 : Int), (∀ u, atoiAll p0.data.toList = .ok u → z0 = u) → (∀ u, atoiAll p1.data.toList = .ok u → z1 = u) → ∀ (d c : Nat) (m : ByteArray) (ring : List ByteArray), MayR (d : Int) (c : Int) m ring → lnB (txB d c m ring) = line → z0 = (d : Int) ∧ z1 = (c : Int) ∧ p2 = m ∧ spN 44 13 p3 = ring) := fun z0 z1 h0 h1 d c m ring hm he => none_else (by rw [← HHB.out]; exact hp) h0 h1 hm he
    have HA0 : Hid (∀ V, Below w.heap.size w V → Calls Tryz.prog 19 #[.string p0] V fun e w' => ∃ (z : Int) (ev : Value), e = .returned (.tuple #[.int .i64 z, ev]) ∧ (∀ u, atoiAll p0.data.toList = .ok u → z = u) ∧ Below V.heap.size V w') := fun V hV => atoK_ok p0 V (HG.out.below hV) (by omega)
    have HA1 : Hid (∀ V, Below w.heap.size w V → Calls Tryz.prog 19 #[.string p1] V fun e w' => ∃ (z : Int) (ev : Value), e = .returned (.tuple #[.int .i64 z, ev]) ∧ (∀ u, atoiAll p1.data.toList = .ok u → z = u) ∧ Below V.heap.size V w') := fun V hV => atoK_ok p1 V (HG.out.below hV) (by omega)
    have HS3 : Hid (∀ V, Below w.heap.size w V → Calls Tryz.prog 18 #[.string p3, .string ⟨#[44]⟩, .int .i64 13] V fun e w' => ∃ v, e = .returned v ∧ RgS w' v (spN 44 13 p3) ∧ Below V.heap.size V w') := fun V hV => splN_ok 44 13 p3 V (HG.out.below hV) (by omega) (by decide) (by decide)
    have HRs : Hid (∀ x, x ∈ spN 44 13 p3 → x.size ≤ 1000000) := fun x hx => by have := splitB_sizes _ _ _ _ hx; omega
    have HR1 : Hid (1 ≤ (spN 44 13 p3).length) := splitB_pos _ _ _
    generalize hrg : spN 44 13 p3 = ring0 at *
    have HEn : Hid (∀ (z0 z1 : Int) (v : Value) V, RgS V v ring0 → Calls Tryz.prog 20 #[.agg #[.int .i64 z0, .int .i64 z1, .string p2, v]] V fun e w' => ((MayR z0 z1 p2 ring0 ∧ ∃ v', e = .returned (.iface 75 (.agg #[.int .i64 z0, .int .i64 z1, .string p2, v'])) ∧ RgS w' v' ring0) ∨ (¬ MayR z0 z1 p2 ring0 ∧ ∃ k : Int, k ≠ 0 ∧ e = .returned (.iface 77 (.agg #[.int .i64 z0, .int .i64 z1, .string p2, v, .int .i64 k])))) ∧ Below V.heap.size V w') := fun z0 z1 v V hv => enter_ok z0 z1 p2 v ring0 V hv.rg (by omega) HRs.out HR1.out
    have HLn : Hid (∀ (d c : Nat) (v : Value) V, MayR (d : Int) (c : Int) p2 ring0 → RgS V v ring0 → Below w.heap.size w V → Calls Tryz.prog 107 #[.agg #[.int .i64 (d : Int), .int .i64 (c : Int), .string p2, v]] V fun e w' => e = .returned (.string (lnB (txB d c p2 ring0))) ∧ Below V.heap.size V w') := fun d c v V hm hv hb => by
      have d1 := hm.d1
      have c2 := hm.c2
      exact line_ok d c p2 v ring0 V (HG.out.below hb).tab hv.rg (by omega) (by omega) (by have := nm_size hm.name; omega) (fun x hx => by have := nm_size (hm.names x hx); omega) hm.some hm.few
    clear hrg hp h4 HPs HPl HRs HR1
    go_enter Tryz.func11, Tryz.ntmps11
    go_wp2_with fail
    refine HC.out.mono ?_
    rintro e W1 ⟨b1, c1, rfl, hb1⟩
    have HS1 := hide (HS.out W1 hb1)
    have HB1 := hide hb1
    clear hb1 HC HS
    go_wp2_with fail
    refine HS1.out.mono ?_
    rintro e W2 ⟨v, rfl, hv, hb2⟩
    have HB2 : Hid (Below w.heap.size w W2) := HB1.out.trans (hb2.mono HB1.out.size)
    have HV := hide hv
    obtain ⟨g, o, cap, cur, fr, ev, hh, hcp, hcm, hcell⟩ := hv.mem
    change v = Value.slice (some ⟨g, o, none⟩) 4 cap at ev
    subst ev
    have HQ : Hid (∀ V, Below W2.heap.size W2 V → V.cell? ⟨g, o, none⟩ = some (.string p0) ∧ V.cell? ⟨g, o + 1, none⟩ = some (.string p1) ∧ V.cell? ⟨g, o + 2, none⟩ = some (.string p2) ∧ V.cell? ⟨g, o + 3, none⟩ = some (.string p3)) := fun V hV => by
      have k : V.heap[g]? = some (.cells cur 9 fr) := (hV.block g (Array.getElem?_eq_some_iff.1 hh).1).trans hh
      refine ⟨?_, ?_, ?_, ?_⟩ <;> rw [World.cell?, k]
      · exact hcell 0 p0 rfl
      · exact hcell 1 p1 rfl
      · exact hcell 2 p2 rfl
      · exact hcell 3 p3 rfl
    have hcap : 4 ≤ cap := hcp
    clear hv hb2 HS1 hh hcell hcp HB1
    obtain ⟨q0, q1, q2, q3⟩ := HQ.out W2 (Below.refl _ _)
    have HA := hide (HA0.out W2 HB2.out)
    clear HA0 q1 q2 q3
    go_wp2_with fail
    refine HA.out.mono ?_
    rintro e W3 ⟨z0, ev0, rfl, hz0, hb3⟩
    have HZ0 := hide hz0
    have HX3 := hide hb3
    have HB3 : Hid (Below w.heap.size w W3) := HB2.out.trans (hb3.mono HB2.out.size)
    clear hz0 hb3 HA q0
    obtain ⟨q0, q1, q2, q3⟩ := HQ.out W3 HX3.out
    have HA := hide (HA1.out W3 HB3.out)
    clear HA1 q0 q2 q3
    go_wp2_with fail
    refine HA.out.mono ?_
    rintro e W4 ⟨z1, ev1, rfl, hz1, hb4⟩
    have HZ1 := hide hz1
    have HX4 : Hid (Below W2.heap.size W2 W4) := HX3.out.trans (hb4.mono HX3.out.size)
    have HB4 : Hid (Below w.heap.size w W4) := HB3.out.trans (hb4.mono HB3.out.size)
    clear hz1 hb4 HA q1
    obtain ⟨q0, q1, q2, q3⟩ := HQ.out W4 HX4.out
    have HS4 := hide (HS3.out W4 HB4.out)
    clear HS3 q0 q1 q2
    go_wp2_with fail
    refine HS4.out.mono ?_
    rintro e W5 ⟨v3, rfl, hv3, hb5⟩
    have HX5 : Hid (Below W2.heap.size W2 W5) := HX4.out.trans (hb5.mono HX4.out.size)
    have HB5 : Hid (Below w.heap.size w W5) := HB4.out.trans (hb5.mono HB4.out.size)
    obtain ⟨q0, q1, q2, q3'⟩ := HQ.out W5 HX5.out
    have HE5 := hide (HEn.out z0 z1 v3 W5 hv3)
    obtain ⟨g3, o3, cap3, cur3, fr3, ev3, -⟩ := hv3.mem
    generalize hl0 : ring0.length = l0 at *
    subst ev3
    clear hb5 HS4 hv3 q0 q1 q3 q3' HEn hl0
    go_wp2_with fail
    refine HE5.out.mono ?_
    rintro e W6 ⟨hE, hb6⟩
    have HB6 : Hid (Below w.heap.size w W6) := HB5.out.trans (hb6.mono HB5.out.size)
    clear q2 HE5 hb6
    rcases hE with ⟨hM, v', rfl, hv'⟩ | ⟨hM, k, hk, rfl⟩
    · obtain ⟨d, rfl⟩ : ∃ d : Nat, z0 = (d : Int) := ⟨z0.toNat, by have := hM.d0; omega⟩
      obtain ⟨c, rfl⟩ : ∃ c : Nat, z1 = (c : Int) := ⟨z1.toNat, by have := hM.c1; omega⟩
      have HM := hide hM
      have HV' := hide hv'
      clear hM hv'
      go_wp2_with fail
      refine (fault_peal _ _ _ _ _).mono ?_
      rintro e W7 ⟨rfl, hb7⟩
      have HB7 : Hid (Below w.heap.size w W7) := HB6.out.trans (hb7.mono HB6.out.size)
      have HV7 := hide (HV'.out.keep (StrK.of hb7))
      clear hb7
      have HL7 := hide (HLn.out d c v' W7 HM.out HV7.out HB7.out)
      obtain ⟨g9, o9, cap9, cur9, fr9, ev9, -⟩ := HV7.out.mem
      generalize ring0.length = l9 at *
      subst ev9
      clear HLn
      by_cases he : lnB (txB d c p2 ring0) = line
      · have HFin : Hid (∀ w', Below W7.heap.size W7 w' → PP (.returned (.tuple #[.iface 75 (.agg #[.int .i64 (d : Int), .int .i64 (c : Int), .string p2, .slice (some ⟨g9, o9, none⟩) l9 cap9]), .bool true])) w') := fun w' hb => by
          rw [← HPP.out]
          exact ⟨Or.inl ⟨d, c, p2, ring0, _, HM.out, rfl, HV7.out.keep (StrK.of hb), he⟩, HB7.out.trans (hb.mono HB7.out.size)⟩
        rw [he] at HL7
        have hbq : (line.toList == line.toList) = true := by simp
        clear he
        go_wp2_with fail
        refine HL7.out.mono ?_
        rintro e W8 ⟨rfl, hb8⟩
        have HR := hide (HFin.out W8 hb8)
        clear hb8 HFin
        go_wp2
        exact HR.out
      · have HFin : Hid (∀ w', Below W7.heap.size W7 w' → PP (.returned (.tuple #[.iface 75 (.agg #[.int .i64 (d : Int), .int .i64 (c : Int), .string p2, .slice (some ⟨g9, o9, none⟩) l9 cap9]), .bool false])) w') := fun w' hb => by
          rw [← HPP.out]
          refine ⟨Or.inr ⟨_, rfl, fun d' c' m' ring' hm' he' => ?_⟩, HB7.out.trans (hb.mono HB7.out.size)⟩
          obtain ⟨e0, e1, e2, e3⟩ := HU.out d c HZ0.out HZ1.out d' c' m' ring' hm' he'
          obtain rfl : d = d' := by omega
          obtain rfl : c = c' := by omega
          subst e2 e3
          exact he he'
        generalize lnB (txB d c p2 ring0) = LN at *
        have hbq : (LN.toList == line.toList) = false := by rw [beqs_iff]; exact decide_eq_false he
        clear he
        go_wp2_with fail
        refine HL7.out.mono ?_
        rintro e W8 ⟨rfl, hb8⟩
        have HR := hide (HFin.out W8 hb8)
        clear hb8 HFin
        go_wp2
        exact HR.out
    · have HN : Hid (∀ w', Below w.heap.size w w' → ∀ ev, PP (.returned (.tuple #[ev, .bool false])) w') := fun w' hb ev => by
        rw [← HPP.out]
        refine ⟨Or.inr ⟨ev, rfl, fun d c m ring hm he => ?_⟩, hb⟩
        obtain ⟨e0, e1, e2, e3⟩ := HU.out z0 z1 HZ0.out HZ1.out d c m ring hm he
        subst e0 e1 e2 e3
        exact hM hm
      have hk0 : (k == 0) = false := by simpa using hk
      clear hM hk HU
      go_wp2_with fail
      refine (fault_refused _ _ _ _ _ _ _ _).mono ?_
      rintro e W7 ⟨rfl, hb7⟩
      have HR := hide (HN.out W7 (HB6.out.trans (hb7.mono HB6.out.size)) (.iface 77 (.agg #[.int .i64 z0, .int .i64 z1, .string p2, .slice (some ⟨g3, o3, none⟩) l0 cap3, .int .i64 k])))
      clear hb7 HN
      go_wp2
      exact HR.out

end Go.Proofs.YtffnfchekbafmaaGreatDoor

/- Contract: the answer's runeAt. -/
namespace Go.Proofs.YtffnfchekbafmaaGreatDoor
open Go.RowKit
open Go.Lib (decodeN decode_at)

/-- What runeAt answers. -/
def raV (d : Nat × Nat) : Value := .tuple #[.int .i64 (ar d), .int .i64 ((d.2 : Nat) : Int)]

theorem raV_bad {d : Nat × Nat} (h : d = (65533, 1)) : raV d = .tuple #[.int .i64 (-1), .int .i64 1] := by subst h; rfl
theorem raV_ok {d : Nat × Nat} {c k : Nat} (h : d = (c, k)) (hk : c ≠ 65533 ∨ k ≠ 1) : raV d = .tuple #[.int .i64 (c : Int), .int .i64 (k : Int)] := by unfold raV; rw [ar_ok h hk, h]

theorem byte_get (s : ByteArray) (k : Nat) (hk : k < s.size) : (s[k]'hk) = s.get! k := by
  cases s with
  | mk d => exact (getElem!_pos d k hk).symm

theorem index_get (s : ByteArray) (k : Nat) (hk : k < s.size) (w : World) : (Instr.index 9 (.string s) (.int .i64 (k : Int))).run Tryz.prog w = .ok (.int .u8 (((s.get! k).toNat : Nat) : Int)) w := by
  rw [← byte_get s k hk]; exact index_byte s k hk w

set_option maxRecDepth 20000 in
set_option maxHeartbeats 4000000 in
theorem runeAt_one (s : ByteArray) (w : World) (h0 : 0 < s.size) (hc : (s.get! 0).toNat < 128) :
    Calls Tryz.prog 69 #[.string s] w fun e w' => e = .returned (raV (Utf8.decode s 0)) ∧ w = w' := by
  obtain ⟨g, hg⟩ : ∃ g : Nat → Nat, ∀ k, (s.get! k).toNat = g k := ⟨_, fun _ => rfl⟩
  have hix0 : ∀ w, (Instr.index 9 (.string s) (.int .i64 0)).run Tryz.prog w = .ok (.int .u8 ((g 0 : Nat) : Int)) w := fun w => by rw [← hg 0]; exact index_get s 0 h0 w
  have HIX : Hid (∀ k, k < s.size → ∀ w, (Instr.index 9 (.string s) (.int .i64 (k : Int))).run Tryz.prog w = .ok (.int .u8 ((g k : Nat) : Int)) w) := fun k hk w => by rw [← hg k]; exact index_get s k hk w
  have hb0 : g 0 < 256 := by rw [← hg 0]; exact UInt8.toNat_lt _
  have hb1 : g 1 < 256 := by rw [← hg 1]; exact UInt8.toNat_lt _
  have hb2 : g 2 < 256 := by rw [← hg 2]; exact UInt8.toNat_lt _
  have hb3 : g 3 < 256 := by rw [← hg 3]; exact UInt8.toNat_lt _
  have HD : Hid (Utf8.decode s 0 = decodeN s.size (g 0) (g 1) (g 2) (g 3)) := by show _ = _; rw [← hg 0, ← hg 1, ← hg 2, ← hg 3]; exact decode_at s 0
  generalize Utf8.decode s 0 = d at *
  rw [hg 0] at hc
  clear hg
  have HR : Hid (raV d = .tuple #[.int .i64 (g 0 : Int), .int .i64 1]) := by
    refine raV_ok (k := 1) ?_ (by omega)
    rw [HD.out]
    unfold decodeN
    rw [if_pos hc]
  clear HD hb1 hb2 hb3
  go_enter Tryz.func69, Tryz.ntmps69
  go_wp2
  go_ret2
  exact ⟨by rw [HR.out]; rfl, rfl⟩

set_option maxRecDepth 20000 in
set_option maxHeartbeats 4000000 in
theorem runeAt_none (s : ByteArray) (w : World) (h0 : 0 < s.size) (hc : (128 ≤ (s.get! 0).toNat ∧ (s.get! 0).toNat < 194) ∨ 245 ≤ (s.get! 0).toNat) :
    Calls Tryz.prog 69 #[.string s] w fun e w' => e = .returned (raV (Utf8.decode s 0)) ∧ w = w' := by
  obtain ⟨g, hg⟩ : ∃ g : Nat → Nat, ∀ k, (s.get! k).toNat = g k := ⟨_, fun _ => rfl⟩
  have hix0 : ∀ w, (Instr.index 9 (.string s) (.int .i64 0)).run Tryz.prog w = .ok (.int .u8 ((g 0 : Nat) : Int)) w := fun w => by rw [← hg 0]; exact index_get s 0 h0 w
  have HIX : Hid (∀ k, k < s.size → ∀ w, (Instr.index 9 (.string s) (.int .i64 (k : Int))).run Tryz.prog w = .ok (.int .u8 ((g k : Nat) : Int)) w) := fun k hk w => by rw [← hg k]; exact index_get s k hk w
  have hb0 : g 0 < 256 := by rw [← hg 0]; exact UInt8.toNat_lt _
  have hb1 : g 1 < 256 := by rw [← hg 1]; exact UInt8.toNat_lt _
  have hb2 : g 2 < 256 := by rw [← hg 2]; exact UInt8.toNat_lt _
  have hb3 : g 3 < 256 := by rw [← hg 3]; exact UInt8.toNat_lt _
  have HD : Hid (Utf8.decode s 0 = decodeN s.size (g 0) (g 1) (g 2) (g 3)) := by show _ = _; rw [← hg 0, ← hg 1, ← hg 2, ← hg 3]; exact decode_at s 0
  generalize Utf8.decode s 0 = d at *
  rw [hg 0] at hc
  clear hg
  have HR : Hid (raV d = .tuple #[.int .i64 (-1), .int .i64 1]) := by
    refine raV_bad ?_
    rw [HD.out]
    exact dec_lone _ _ _ _ _ (by omega)
  clear HD hb1 hb2 hb3
  rcases hc with ⟨hc1, hc2⟩ | hc
  · go_enter Tryz.func69, Tryz.ntmps69
    go_wp2
    go_ret2
    exact ⟨by rw [HR.out]; rfl, rfl⟩
  · go_enter Tryz.func69, Tryz.ntmps69
    go_wp2
    go_ret2
    exact ⟨by rw [HR.out]; rfl, rfl⟩

set_option maxRecDepth 20000 in
set_option maxHeartbeats 4000000 in
theorem runeAt_2 (s : ByteArray) (w : World) (h0 : 0 < s.size) (hm : s.size ≤ 9223372036854775807) (hc1 : 194 ≤ (s.get! 0).toNat) (hc2 : (s.get! 0).toNat < 224) :
    Calls Tryz.prog 69 #[.string s] w fun e w' => e = .returned (raV (Utf8.decode s 0)) ∧ w = w' := by
  obtain ⟨g, hg⟩ : ∃ g : Nat → Nat, ∀ k, (s.get! k).toNat = g k := ⟨_, fun _ => rfl⟩
  have hix0 : ∀ w, (Instr.index 9 (.string s) (.int .i64 0)).run Tryz.prog w = .ok (.int .u8 ((g 0 : Nat) : Int)) w := fun w => by rw [← hg 0]; exact index_get s 0 h0 w
  have HIX : Hid (∀ k, k < s.size → ∀ w, (Instr.index 9 (.string s) (.int .i64 (k : Int))).run Tryz.prog w = .ok (.int .u8 ((g k : Nat) : Int)) w) := fun k hk w => by rw [← hg k]; exact index_get s k hk w
  have hb0 : g 0 < 256 := by rw [← hg 0]; exact UInt8.toNat_lt _
  have hb1 : g 1 < 256 := by rw [← hg 1]; exact UInt8.toNat_lt _
  have hb2 : g 2 < 256 := by rw [← hg 2]; exact UInt8.toNat_lt _
  have hb3 : g 3 < 256 := by rw [← hg 3]; exact UInt8.toNat_lt _
  have HD : Hid (Utf8.decode s 0 = decodeN s.size (g 0) (g 1) (g 2) (g 3)) := by show _ = _; rw [← hg 0, ← hg 1, ← hg 2, ← hg 3]; exact decode_at s 0
  generalize Utf8.decode s 0 = d at *
  rw [hg 0] at hc1 hc2
  clear hg
  have HB : Hid ((∀ k, 0 < k → k < 2 → g k < 256)) := by
    intro k hk hk'
    have : k = 1 := by omega
    rcases this with rfl <;> assumption
  have HA : Hid (∀ k : Nat, True) := fun _ => trivial
  clear HA
  by_cases hl : s.size < 2
  · have HR : Hid (raV d = .tuple #[.int .i64 (-1), .int .i64 1]) := by
      refine raV_bad ?_
      rw [HD.out]
      have h := dec_two s.size (g 0) (g 1) (g 2) (g 3) ⟨hc1, hc2⟩ hb1
      rw [h, if_pos (Or.inl hl)]
    clear HD HB hb1 hb2 hb3
    go_enter Tryz.func69, Tryz.ntmps69
    go_wp2
    go_ret2
    exact ⟨by rw [HR.out]; rfl, rfl⟩
  have hl' : 2 ≤ s.size := by omega
  go_enter Tryz.func69, Tryz.ntmps69
  go_wp2
  go_loop [4, 7] (fun c i => ∃ k : Nat, i = .int .i64 k ∧ Hid ((k = 1 ∧ c = .int .i64 ((g 0 : Int) - 192) ∧ True) ∨ (k = 2 ∧ c = .int .i64 (((g 0 : Int) - 192) * 64 + g 1 - 128) ∧ (128 ≤ g 1 ∧ g 1 < 192)))) (fun _ i => 2 - (intOf i).toNat)
  case atStart => exact ⟨1, rfl, Or.inl ⟨rfl, rfl, trivial⟩⟩
  case round =>
    obtain ⟨k, rfl, hk⟩ := hrel
    rcases hk.out with ⟨rfl, rfl, hct⟩ | ⟨rfl, rfl, hct⟩
    · have hix : ∀ w, (Instr.index 9 (.string s) (.int .i64 1)).run Tryz.prog w = .ok (.int .u8 ((g 1 : Nat) : Int)) w := fun w => HIX.out 1 (by omega) w
      have hbk := HB.out 1 (by omega) (by omega)
      by_cases hq : g 1 < 128
      · have HR : Hid (raV d = .tuple #[.int .i64 (-1), .int .i64 1]) := by
          refine raV_bad ?_
          rw [HD.out]
          have h := dec_two s.size (g 0) (g 1) (g 2) (g 3) ⟨hc1, hc2⟩ hb1
          rw [h, if_pos (by omega)]
        clear HD HB hb1 hb2 hb3 HIX
        go_wp2
        go_ret2
        exact ⟨by rw [HR.out]; rfl, rfl⟩
      by_cases hq2 : 192 ≤ g 1
      · have HR : Hid (raV d = .tuple #[.int .i64 (-1), .int .i64 1]) := by
          refine raV_bad ?_
          rw [HD.out]
          have h := dec_two s.size (g 0) (g 1) (g 2) (g 3) ⟨hc1, hc2⟩ hb1
          rw [h, if_pos (by omega)]
        clear HD HB hb1 hb2 hb3 HIX
        go_wp2
        go_ret2
        exact ⟨by rw [HR.out]; rfl, rfl⟩
      have hq1 : 128 ≤ g 1 := by omega
      have hq3 : g 1 < 192 := by omega
      clear hq hq2 HD HB HIX
      go_wp2
      go_round
      case rel => exact ⟨_, _, _, _, ⟨2, rfl, Or.inr ((by refine ⟨rfl, ?_⟩; first | rfl | (refine ⟨rfl, ?_⟩; omega)))⟩, rfl, rfl, rfl, rfl⟩
      case measure => simp [intOf]
    · generalize hcc : (((g 0 : Int) - 192) * 64 + g 1 - 128) = c at *
      have HCC := hide hcc
      obtain ⟨cn, rfl⟩ : ∃ cn : Nat, c = cn := ⟨c.toNat, by omega⟩
      have HL : Hid (d = if s.size < 2 ∨ (g 1 < 128 ∨ 192 ≤ g 1) then (65533, 1) else ((g 0 - 192) * 64 + (g 1 - 128), 2)) := by
        show _ = _
        rw [HD.out]
        exact dec_two s.size (g 0) (g 1) (g 2) (g 3) ⟨hc1, hc2⟩ hb1
      have HR : Hid (raV d = .tuple #[.int .i64 (cn : Int), .int .i64 2]) := by
        refine raV_ok (k := 2) ?_ (by omega)
        rw [HL.out, if_neg (by omega), show (g 0 - 192) * 64 + (g 1 - 128) = cn from by omega]
      have hv1 : 128 ≤ cn := by omega
      have hv2 : cn ≤ 2047 := by omega
      clear HL HD HB HIX hct hcc
      go_wp2
      go_ret2
      exact ⟨by rw [HR.out]; rfl, rfl⟩

set_option maxRecDepth 20000 in
set_option maxHeartbeats 4000000 in
theorem runeAt_3 (s : ByteArray) (w : World) (h0 : 0 < s.size) (hm : s.size ≤ 9223372036854775807) (hc1 : 224 ≤ (s.get! 0).toNat) (hc2 : (s.get! 0).toNat < 240) :
    Calls Tryz.prog 69 #[.string s] w fun e w' => e = .returned (raV (Utf8.decode s 0)) ∧ w = w' := by
  obtain ⟨g, hg⟩ : ∃ g : Nat → Nat, ∀ k, (s.get! k).toNat = g k := ⟨_, fun _ => rfl⟩
  have hix0 : ∀ w, (Instr.index 9 (.string s) (.int .i64 0)).run Tryz.prog w = .ok (.int .u8 ((g 0 : Nat) : Int)) w := fun w => by rw [← hg 0]; exact index_get s 0 h0 w
  have HIX : Hid (∀ k, k < s.size → ∀ w, (Instr.index 9 (.string s) (.int .i64 (k : Int))).run Tryz.prog w = .ok (.int .u8 ((g k : Nat) : Int)) w) := fun k hk w => by rw [← hg k]; exact index_get s k hk w
  have hb0 : g 0 < 256 := by rw [← hg 0]; exact UInt8.toNat_lt _
  have hb1 : g 1 < 256 := by rw [← hg 1]; exact UInt8.toNat_lt _
  have hb2 : g 2 < 256 := by rw [← hg 2]; exact UInt8.toNat_lt _
  have hb3 : g 3 < 256 := by rw [← hg 3]; exact UInt8.toNat_lt _
  have HD : Hid (Utf8.decode s 0 = decodeN s.size (g 0) (g 1) (g 2) (g 3)) := by show _ = _; rw [← hg 0, ← hg 1, ← hg 2, ← hg 3]; exact decode_at s 0
  generalize Utf8.decode s 0 = d at *
  rw [hg 0] at hc1 hc2
  clear hg
  have HB : Hid ((∀ k, 0 < k → k < 3 → g k < 256)) := by
    intro k hk hk'
    have : k = 1 ∨ k = 2 := by omega
    rcases this with rfl | rfl <;> assumption
  have HA : Hid (∀ k : Nat, True) := fun _ => trivial
  clear HA
  by_cases hl : s.size < 3
  · have HR : Hid (raV d = .tuple #[.int .i64 (-1), .int .i64 1]) := by
      refine raV_bad ?_
      rw [HD.out]
      have h := dec_three s.size (g 0) (g 1) (g 2) (g 3) ⟨hc1, hc2⟩ hb1 hb2 _ (fun _ _ => rfl)
      rw [h, if_pos (Or.inl hl)]
    clear HD HB hb1 hb2 hb3
    go_enter Tryz.func69, Tryz.ntmps69
    go_wp2
    go_ret2
    exact ⟨by rw [HR.out]; rfl, rfl⟩
  have hl' : 3 ≤ s.size := by omega
  go_enter Tryz.func69, Tryz.ntmps69
  go_wp2
  go_loop [4, 7] (fun c i => ∃ k : Nat, i = .int .i64 k ∧ Hid ((k = 1 ∧ c = .int .i64 ((g 0 : Int) - 224) ∧ True) ∨ (k = 2 ∧ c = .int .i64 (((g 0 : Int) - 224) * 64 + g 1 - 128) ∧ (128 ≤ g 1 ∧ g 1 < 192)) ∨ (k = 3 ∧ c = .int .i64 ((((g 0 : Int) - 224) * 64 + g 1 - 128) * 64 + g 2 - 128) ∧ (128 ≤ g 1 ∧ g 1 < 192) ∧ (128 ≤ g 2 ∧ g 2 < 192)))) (fun _ i => 3 - (intOf i).toNat)
  case atStart => exact ⟨1, rfl, Or.inl ⟨rfl, rfl, trivial⟩⟩
  case round =>
    obtain ⟨k, rfl, hk⟩ := hrel
    rcases hk.out with ⟨rfl, rfl, hct⟩ | ⟨rfl, rfl, hct⟩ | ⟨rfl, rfl, hct⟩
    · have hix : ∀ w, (Instr.index 9 (.string s) (.int .i64 1)).run Tryz.prog w = .ok (.int .u8 ((g 1 : Nat) : Int)) w := fun w => HIX.out 1 (by omega) w
      have hbk := HB.out 1 (by omega) (by omega)
      by_cases hq : g 1 < 128
      · have HR : Hid (raV d = .tuple #[.int .i64 (-1), .int .i64 1]) := by
          refine raV_bad ?_
          rw [HD.out]
          have h := dec_three s.size (g 0) (g 1) (g 2) (g 3) ⟨hc1, hc2⟩ hb1 hb2 _ (fun _ _ => rfl)
          rw [h, if_pos (by omega)]
        clear HD HB hb1 hb2 hb3 HIX
        go_wp2
        go_ret2
        exact ⟨by rw [HR.out]; rfl, rfl⟩
      by_cases hq2 : 192 ≤ g 1
      · have HR : Hid (raV d = .tuple #[.int .i64 (-1), .int .i64 1]) := by
          refine raV_bad ?_
          rw [HD.out]
          have h := dec_three s.size (g 0) (g 1) (g 2) (g 3) ⟨hc1, hc2⟩ hb1 hb2 _ (fun _ _ => rfl)
          rw [h, if_pos (by omega)]
        clear HD HB hb1 hb2 hb3 HIX
        go_wp2
        go_ret2
        exact ⟨by rw [HR.out]; rfl, rfl⟩
      have hq1 : 128 ≤ g 1 := by omega
      have hq3 : g 1 < 192 := by omega
      clear hq hq2 HD HB HIX
      go_wp2
      go_round
      case rel => exact ⟨_, _, _, _, ⟨2, rfl, Or.inr (Or.inl (by refine ⟨rfl, ?_⟩; first | rfl | (refine ⟨rfl, ?_⟩; omega)))⟩, rfl, rfl, rfl, rfl⟩
      case measure => simp [intOf]
    · have hix : ∀ w, (Instr.index 9 (.string s) (.int .i64 2)).run Tryz.prog w = .ok (.int .u8 ((g 2 : Nat) : Int)) w := fun w => HIX.out 2 (by omega) w
      have hbk := HB.out 2 (by omega) (by omega)
      by_cases hq : g 2 < 128
      · have HR : Hid (raV d = .tuple #[.int .i64 (-1), .int .i64 1]) := by
          refine raV_bad ?_
          rw [HD.out]
          have h := dec_three s.size (g 0) (g 1) (g 2) (g 3) ⟨hc1, hc2⟩ hb1 hb2 _ (fun _ _ => rfl)
          rw [h, if_pos (by omega)]
        clear HD HB hb1 hb2 hb3 HIX
        go_wp2
        go_ret2
        exact ⟨by rw [HR.out]; rfl, rfl⟩
      by_cases hq2 : 192 ≤ g 2
      · have HR : Hid (raV d = .tuple #[.int .i64 (-1), .int .i64 1]) := by
          refine raV_bad ?_
          rw [HD.out]
          have h := dec_three s.size (g 0) (g 1) (g 2) (g 3) ⟨hc1, hc2⟩ hb1 hb2 _ (fun _ _ => rfl)
          rw [h, if_pos (by omega)]
        clear HD HB hb1 hb2 hb3 HIX
        go_wp2
        go_ret2
        exact ⟨by rw [HR.out]; rfl, rfl⟩
      have hq1 : 128 ≤ g 2 := by omega
      have hq3 : g 2 < 192 := by omega
      clear hq hq2 HD HB HIX
      go_wp2
      go_round
      case rel => exact ⟨_, _, _, _, ⟨3, rfl, Or.inr (Or.inr ((by refine ⟨rfl, ?_⟩; first | rfl | (refine ⟨rfl, ?_⟩; omega))))⟩, rfl, rfl, rfl, rfl⟩
      case measure => simp [intOf]
    · generalize hcc : ((((g 0 : Int) - 224) * 64 + g 1 - 128) * 64 + g 2 - 128) = c at *
      have HCC := hide hcc
      obtain ⟨cn, rfl⟩ : ∃ cn : Nat, c = cn := ⟨c.toNat, by omega⟩
      have HL : Hid (d = if s.size < 3 ∨ (g 1 < 128 ∨ 192 ≤ g 1) ∨ (g 2 < 128 ∨ 192 ≤ g 2) ∨ (cn < 2048 ∨ 1114111 < cn ∨ (55296 ≤ cn ∧ cn < 57344)) then (65533, 1) else (cn, 3)) := by
        show _ = _
        rw [HD.out]
        exact dec_three s.size (g 0) (g 1) (g 2) (g 3) ⟨hc1, hc2⟩ hb1 hb2 cn (fun _ _ => by omega)
      have hcase : cn < 2048 ∨ (2048 ≤ cn ∧ cn < 55296) ∨ (2048 ≤ cn ∧ 55296 ≤ cn ∧ cn < 57344) ∨ (2048 ≤ cn ∧ 57344 ≤ cn ∧ cn ≤ 1114111) := by omega
      rcases hcase with hv | ⟨hv, hv2⟩ | ⟨hv, hv2, hv3⟩ | ⟨hv, hv2, hv3⟩
      · have HR : Hid (raV d = .tuple #[.int .i64 (-1), .int .i64 1]) := by
          refine raV_bad ?_
          rw [HL.out, if_pos (by omega)]
        clear HL HD HB HIX hct hcc
        go_wp2
        go_ret2
        exact ⟨by rw [HR.out]; rfl, rfl⟩
      · have HR : Hid (raV d = .tuple #[.int .i64 (cn : Int), .int .i64 3]) := by
          refine raV_ok (k := 3) ?_ (by omega)
          rw [HL.out, if_neg (by omega)]
        clear HL HD HB HIX hct hcc
        go_wp2
        go_ret2
        exact ⟨by rw [HR.out]; rfl, rfl⟩
      · have HR : Hid (raV d = .tuple #[.int .i64 (-1), .int .i64 1]) := by
          refine raV_bad ?_
          rw [HL.out, if_pos (by omega)]
        clear HL HD HB HIX hct hcc
        go_wp2
        go_ret2
        exact ⟨by rw [HR.out]; rfl, rfl⟩
      · have HR : Hid (raV d = .tuple #[.int .i64 (cn : Int), .int .i64 3]) := by
          refine raV_ok (k := 3) ?_ (by omega)
          rw [HL.out, if_neg (by omega)]
        clear HL HD HB HIX hct hcc
        go_wp2
        go_ret2
        exact ⟨by rw [HR.out]; rfl, rfl⟩

set_option maxRecDepth 20000 in
set_option maxHeartbeats 4000000 in
theorem runeAt_4 (s : ByteArray) (w : World) (h0 : 0 < s.size) (hm : s.size ≤ 9223372036854775807) (hc1 : 240 ≤ (s.get! 0).toNat) (hc2 : (s.get! 0).toNat < 245) :
    Calls Tryz.prog 69 #[.string s] w fun e w' => e = .returned (raV (Utf8.decode s 0)) ∧ w = w' := by
  obtain ⟨g, hg⟩ : ∃ g : Nat → Nat, ∀ k, (s.get! k).toNat = g k := ⟨_, fun _ => rfl⟩
  have hix0 : ∀ w, (Instr.index 9 (.string s) (.int .i64 0)).run Tryz.prog w = .ok (.int .u8 ((g 0 : Nat) : Int)) w := fun w => by rw [← hg 0]; exact index_get s 0 h0 w
  have HIX : Hid (∀ k, k < s.size → ∀ w, (Instr.index 9 (.string s) (.int .i64 (k : Int))).run Tryz.prog w = .ok (.int .u8 ((g k : Nat) : Int)) w) := fun k hk w => by rw [← hg k]; exact index_get s k hk w
  have hb0 : g 0 < 256 := by rw [← hg 0]; exact UInt8.toNat_lt _
  have hb1 : g 1 < 256 := by rw [← hg 1]; exact UInt8.toNat_lt _
  have hb2 : g 2 < 256 := by rw [← hg 2]; exact UInt8.toNat_lt _
  have hb3 : g 3 < 256 := by rw [← hg 3]; exact UInt8.toNat_lt _
  have HD : Hid (Utf8.decode s 0 = decodeN s.size (g 0) (g 1) (g 2) (g 3)) := by show _ = _; rw [← hg 0, ← hg 1, ← hg 2, ← hg 3]; exact decode_at s 0
  generalize Utf8.decode s 0 = d at *
  rw [hg 0] at hc1 hc2
  clear hg
  have HB : Hid ((∀ k, 0 < k → k < 4 → g k < 256)) := by
    intro k hk hk'
    have : k = 1 ∨ k = 2 ∨ k = 3 := by omega
    rcases this with rfl | rfl | rfl <;> assumption
  have HA : Hid (∀ k : Nat, True) := fun _ => trivial
  clear HA
  by_cases hl : s.size < 4
  · have HR : Hid (raV d = .tuple #[.int .i64 (-1), .int .i64 1]) := by
      refine raV_bad ?_
      rw [HD.out]
      have h := dec_four s.size (g 0) (g 1) (g 2) (g 3) ⟨hc1, hc2⟩ hb1 hb2 hb3 _ (fun _ _ _ => rfl)
      rw [h, if_pos (Or.inl hl)]
    clear HD HB hb1 hb2 hb3
    go_enter Tryz.func69, Tryz.ntmps69
    go_wp2
    go_ret2
    exact ⟨by rw [HR.out]; rfl, rfl⟩
  have hl' : 4 ≤ s.size := by omega
  go_enter Tryz.func69, Tryz.ntmps69
  go_wp2
  go_loop [4, 7] (fun c i => ∃ k : Nat, i = .int .i64 k ∧ Hid ((k = 1 ∧ c = .int .i64 ((g 0 : Int) - 240) ∧ True) ∨ (k = 2 ∧ c = .int .i64 (((g 0 : Int) - 240) * 64 + g 1 - 128) ∧ (128 ≤ g 1 ∧ g 1 < 192)) ∨ (k = 3 ∧ c = .int .i64 ((((g 0 : Int) - 240) * 64 + g 1 - 128) * 64 + g 2 - 128) ∧ (128 ≤ g 1 ∧ g 1 < 192) ∧ (128 ≤ g 2 ∧ g 2 < 192)) ∨ (k = 4 ∧ c = .int .i64 (((((g 0 : Int) - 240) * 64 + g 1 - 128) * 64 + g 2 - 128) * 64 + g 3 - 128) ∧ (128 ≤ g 1 ∧ g 1 < 192) ∧ (128 ≤ g 2 ∧ g 2 < 192) ∧ (128 ≤ g 3 ∧ g 3 < 192)))) (fun _ i => 4 - (intOf i).toNat)
  case atStart => exact ⟨1, rfl, Or.inl ⟨rfl, rfl, trivial⟩⟩
  case round =>
    obtain ⟨k, rfl, hk⟩ := hrel
    rcases hk.out with ⟨rfl, rfl, hct⟩ | ⟨rfl, rfl, hct⟩ | ⟨rfl, rfl, hct⟩ | ⟨rfl, rfl, hct⟩
    · have hix : ∀ w, (Instr.index 9 (.string s) (.int .i64 1)).run Tryz.prog w = .ok (.int .u8 ((g 1 : Nat) : Int)) w := fun w => HIX.out 1 (by omega) w
      have hbk := HB.out 1 (by omega) (by omega)
      by_cases hq : g 1 < 128
      · have HR : Hid (raV d = .tuple #[.int .i64 (-1), .int .i64 1]) := by
          refine raV_bad ?_
          rw [HD.out]
          have h := dec_four s.size (g 0) (g 1) (g 2) (g 3) ⟨hc1, hc2⟩ hb1 hb2 hb3 _ (fun _ _ _ => rfl)
          rw [h, if_pos (by omega)]
        clear HD HB hb1 hb2 hb3 HIX
        go_wp2
        go_ret2
        exact ⟨by rw [HR.out]; rfl, rfl⟩
      by_cases hq2 : 192 ≤ g 1
      · have HR : Hid (raV d = .tuple #[.int .i64 (-1), .int .i64 1]) := by
          refine raV_bad ?_
          rw [HD.out]
          have h := dec_four s.size (g 0) (g 1) (g 2) (g 3) ⟨hc1, hc2⟩ hb1 hb2 hb3 _ (fun _ _ _ => rfl)
          rw [h, if_pos (by omega)]
        clear HD HB hb1 hb2 hb3 HIX
        go_wp2
        go_ret2
        exact ⟨by rw [HR.out]; rfl, rfl⟩
      have hq1 : 128 ≤ g 1 := by omega
      have hq3 : g 1 < 192 := by omega
      clear hq hq2 HD HB HIX
      go_wp2
      go_round
      case rel => exact ⟨_, _, _, _, ⟨2, rfl, Or.inr (Or.inl (by refine ⟨rfl, ?_⟩; first | rfl | (refine ⟨rfl, ?_⟩; omega)))⟩, rfl, rfl, rfl, rfl⟩
      case measure => simp [intOf]
    · have hix : ∀ w, (Instr.index 9 (.string s) (.int .i64 2)).run Tryz.prog w = .ok (.int .u8 ((g 2 : Nat) : Int)) w := fun w => HIX.out 2 (by omega) w
      have hbk := HB.out 2 (by omega) (by omega)
      by_cases hq : g 2 < 128
      · have HR : Hid (raV d = .tuple #[.int .i64 (-1), .int .i64 1]) := by
          refine raV_bad ?_
          rw [HD.out]
          have h := dec_four s.size (g 0) (g 1) (g 2) (g 3) ⟨hc1, hc2⟩ hb1 hb2 hb3 _ (fun _ _ _ => rfl)
          rw [h, if_pos (by omega)]
        clear HD HB hb1 hb2 hb3 HIX
        go_wp2
        go_ret2
        exact ⟨by rw [HR.out]; rfl, rfl⟩
      by_cases hq2 : 192 ≤ g 2
      · have HR : Hid (raV d = .tuple #[.int .i64 (-1), .int .i64 1]) := by
          refine raV_bad ?_
          rw [HD.out]
          have h := dec_four s.size (g 0) (g 1) (g 2) (g 3) ⟨hc1, hc2⟩ hb1 hb2 hb3 _ (fun _ _ _ => rfl)
          rw [h, if_pos (by omega)]
        clear HD HB hb1 hb2 hb3 HIX
        go_wp2
        go_ret2
        exact ⟨by rw [HR.out]; rfl, rfl⟩
      have hq1 : 128 ≤ g 2 := by omega
      have hq3 : g 2 < 192 := by omega
      clear hq hq2 HD HB HIX
      go_wp2
      go_round
      case rel => exact ⟨_, _, _, _, ⟨3, rfl, Or.inr (Or.inr (Or.inl (by refine ⟨rfl, ?_⟩; first | rfl | (refine ⟨rfl, ?_⟩; omega))))⟩, rfl, rfl, rfl, rfl⟩
      case measure => simp [intOf]
    · have hix : ∀ w, (Instr.index 9 (.string s) (.int .i64 3)).run Tryz.prog w = .ok (.int .u8 ((g 3 : Nat) : Int)) w := fun w => HIX.out 3 (by omega) w
      have hbk := HB.out 3 (by omega) (by omega)
      by_cases hq : g 3 < 128
      · have HR : Hid (raV d = .tuple #[.int .i64 (-1), .int .i64 1]) := by
          refine raV_bad ?_
          rw [HD.out]
          have h := dec_four s.size (g 0) (g 1) (g 2) (g 3) ⟨hc1, hc2⟩ hb1 hb2 hb3 _ (fun _ _ _ => rfl)
          rw [h, if_pos (by omega)]
        clear HD HB hb1 hb2 hb3 HIX
        go_wp2
        go_ret2
        exact ⟨by rw [HR.out]; rfl, rfl⟩
      by_cases hq2 : 192 ≤ g 3
      · have HR : Hid (raV d = .tuple #[.int .i64 (-1), .int .i64 1]) := by
          refine raV_bad ?_
          rw [HD.out]
          have h := dec_four s.size (g 0) (g 1) (g 2) (g 3) ⟨hc1, hc2⟩ hb1 hb2 hb3 _ (fun _ _ _ => rfl)
          rw [h, if_pos (by omega)]
        clear HD HB hb1 hb2 hb3 HIX
        go_wp2
        go_ret2
        exact ⟨by rw [HR.out]; rfl, rfl⟩
      have hq1 : 128 ≤ g 3 := by omega
      have hq3 : g 3 < 192 := by omega
      clear hq hq2 HD HB HIX
      go_wp2
      go_round
      case rel => exact ⟨_, _, _, _, ⟨4, rfl, Or.inr (Or.inr (Or.inr ((by refine ⟨rfl, ?_⟩; first | rfl | (refine ⟨rfl, ?_⟩; omega)))))⟩, rfl, rfl, rfl, rfl⟩
      case measure => simp [intOf]
    · generalize hcc : (((((g 0 : Int) - 240) * 64 + g 1 - 128) * 64 + g 2 - 128) * 64 + g 3 - 128) = c at *
      have HCC := hide hcc
      obtain ⟨cn, rfl⟩ : ∃ cn : Nat, c = cn := ⟨c.toNat, by omega⟩
      have HL : Hid (d = if s.size < 4 ∨ (g 1 < 128 ∨ 192 ≤ g 1) ∨ (g 2 < 128 ∨ 192 ≤ g 2) ∨ (g 3 < 128 ∨ 192 ≤ g 3) ∨ (cn < 65536 ∨ 1114111 < cn ∨ (55296 ≤ cn ∧ cn < 57344)) then (65533, 1) else (cn, 4)) := by
        show _ = _
        rw [HD.out]
        exact dec_four s.size (g 0) (g 1) (g 2) (g 3) ⟨hc1, hc2⟩ hb1 hb2 hb3 cn (fun _ _ _ => by omega)
      have hcase : cn < 65536 ∨ (65536 ≤ cn ∧ cn ≤ 1114111) ∨ (65536 ≤ cn ∧ 1114111 < cn) := by omega
      rcases hcase with hv | ⟨hv, hv2⟩ | ⟨hv, hv2⟩
      · have HR : Hid (raV d = .tuple #[.int .i64 (-1), .int .i64 1]) := by
          refine raV_bad ?_
          rw [HL.out, if_pos (by omega)]
        clear HL HD HB HIX hct hcc
        go_wp2
        go_ret2
        exact ⟨by rw [HR.out]; rfl, rfl⟩
      · have hv3 : 57344 ≤ cn := by omega
        have HR : Hid (raV d = .tuple #[.int .i64 (cn : Int), .int .i64 4]) := by
          refine raV_ok (k := 4) ?_ (by omega)
          rw [HL.out, if_neg (by omega)]
        clear HL HD HB HIX hct hcc
        go_wp2
        go_ret2
        exact ⟨by rw [HR.out]; rfl, rfl⟩
      · have HR : Hid (raV d = .tuple #[.int .i64 (-1), .int .i64 1]) := by
          refine raV_bad ?_
          rw [HL.out, if_pos (by omega)]
        clear HL HD HB HIX hct hcc
        go_wp2
        go_ret2
        exact ⟨by rw [HR.out]; rfl, rfl⟩

theorem runeAt_any (s : ByteArray) (w : World) (h0 : 0 < s.size) (hm : s.size ≤ 9223372036854775807) :
    Calls Tryz.prog 69 #[.string s] w fun e w' => e = .returned (raV (Utf8.decode s 0)) ∧ w = w' := by
  have hcase : (s.get! 0).toNat < 128 ∨ ((128 ≤ (s.get! 0).toNat ∧ (s.get! 0).toNat < 194) ∨ 245 ≤ (s.get! 0).toNat) ∨ (194 ≤ (s.get! 0).toNat ∧ (s.get! 0).toNat < 224) ∨ (224 ≤ (s.get! 0).toNat ∧ (s.get! 0).toNat < 240) ∨ (240 ≤ (s.get! 0).toNat ∧ (s.get! 0).toNat < 245) := by omega
  rcases hcase with h | h | ⟨h1, h2⟩ | ⟨h1, h2⟩ | ⟨h1, h2⟩
  · exact runeAt_one s w h0 h
  · exact runeAt_none s w h0 h
  · exact runeAt_2 s w h0 hm h1 h2
  · exact runeAt_3 s w h0 hm h1 h2
  · exact runeAt_4 s w h0 hm h1 h2

end Go.Proofs.YtffnfchekbafmaaGreatDoor

/- Contracts: strings.IndexByte, unicode/utf8.ValidRune, strings.IndexRune at the signs. -/
namespace Go.Proofs.YtffnfchekbafmaaGreatDoor
open Go.RowKit
set_option maxRecDepth 20000

set_option maxHeartbeats 1000000 in
theorem slIndexByte_any (s : ByteArray) (c : Int) (w : World) :
    Calls Tryz.prog 56 #[.string s, .int .u8 c] w fun e w' => e = .returned (.int .i64 (Go.Lib.indexByte s.data.toList c.toNat.toUInt8)) ∧ w = w' := by
  go_enter Tryz.func56, Tryz.ntmps56
  go_wp2
  rw [run_callFunc_extern Tryz.func71 (by kernel_rfl) (by kernel_rfl) (by kernel_rfl) (e := Extern.BytealgIndexByte.indexByte) (by kernel_rfl), Go.Lib.run_indexByteString]
  simp only [Result.andThen]
  rw [Oper.upon_value]
  go_wp2
  go_ret
  exact ⟨rfl, rfl⟩

theorem indexByte_none' : ∀ (l : List UInt8) (c : UInt8), (∀ b ∈ l, b ≠ c) → Go.Lib.indexByte l c = -1
  | [], _, _ => rfl
  | b :: l, c, h => by
    have h1 : (b == c) = false := by rw [beq_eq_false_iff_ne]; exact h b (by simp)
    have h2 := indexByte_none' l c (fun b hb => h b (List.mem_cons_of_mem _ hb))
    simp [Go.Lib.indexByte, h1, h2]

/-- Which sign a rune is; -1: none. -/
def si (c : Nat) : Int := if c < 128 then Go.Lib.indexByte [49, 50, 51, 52, 53, 54, 55, 56, 57, 48, 69, 84] c.toUInt8 else -1

end Go.Proofs.YtffnfchekbafmaaGreatDoor
