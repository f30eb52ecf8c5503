/- Plain: changes as they are printed, and read again. -/
import Derived.Test.YtgglbafcocbhbaaMach
import Derived.Test.YtgglbafcocbhbaaRno
import Derived.Test.YtgglbafcocbhbaaIdx
namespace Go.Proofs.Ytgglbafcocbhbaa
open Go.RowKit Go.Lib

/-- Is there a change ahead with places? -/
def dk (l : List (List Int)) (k : Nat) : Bool := decide (0 < k ∧ l.getD (k - 1) [] ≠ [])

def sgs (ps : List Int) : List Int := ps.map (fun p => ((sg (p - 1).toNat : Nat) : Int))

/-- How one change is printed. -/
def pcs (d : Bool) (ps : List Int) : List Int := if ps = [] then [120] else (if d = true then [46] else []) ++ sgs ps

/-- How the first k changes are printed. -/
def ptx (l : List (List Int)) : Nat → List Int
  | 0 => []
  | k + 1 => ptx l k ++ pcs (dk l k) (l.getD k [])

theorem sgs_length (ps : List Int) : (sgs ps).length = ps.length := by simp [sgs]

theorem pcs_length (d : Bool) (ps : List Int) : 1 ≤ (pcs d ps).length ∧ (pcs d ps).length ≤ ps.length + 1 := by
  unfold pcs
  by_cases h : ps = []
  · rw [if_pos h]; simp [h]
  · rw [if_neg h]
    have : 1 ≤ ps.length := by cases ps with
      | nil => exact absurd rfl h
      | cons => simp
    cases d <;> simp [sgs_length] <;> omega

theorem ptx_length (l : List (List Int)) (h : ∀ ps, ps ∈ l → ps.length ≤ 12) : ∀ k, (ptx l k).length ≤ 13 * k
  | 0 => by simp [ptx]
  | k + 1 => by
    have ih := ptx_length l h k
    have h1 := (pcs_length (dk l k) (l.getD k [])).2
    have h2 : (l.getD k []).length ≤ 12 := by
      rw [List.getD_eq_getElem?_getD]
      by_cases hk : k < l.length
      · rw [List.getElem?_eq_getElem hk]; exact h _ (List.getElem_mem hk)
      · rw [List.getElem?_eq_none (by omega)]; simp
    simp only [ptx, List.length_append]
    omega

theorem sgs_low (ps : List Int) : ∀ z, z ∈ sgs ps → 0 ≤ z ∧ z < 128 := by
  intro z hz
  simp only [sgs, List.mem_map] at hz
  obtain ⟨p, _, rfl⟩ := hz
  have := sg_lt (p - 1).toNat
  omega

theorem pcs_low (d : Bool) (ps : List Int) : ∀ z, z ∈ pcs d ps → 0 ≤ z ∧ z < 128 := by
  intro z hz
  unfold pcs at hz
  split at hz
  · simp at hz; omega
  · rcases List.mem_append.1 hz with hz | hz
    · split at hz
      · simp at hz; omega
      · cases hz
    · exact sgs_low ps z hz

theorem ptx_low (l : List (List Int)) : ∀ k z, z ∈ ptx l k → 0 ≤ z ∧ z < 128
  | 0, z, hz => by cases hz
  | k + 1, z, hz => by
    rcases List.mem_append.1 hz with hz | hz
    · exact ptx_low l k z hz
    · exact pcs_low _ _ z hz

/-- A text of low signs: its runes are these. -/
theorem runes_ascii (zs : List Int) (h : ∀ z, z ∈ zs → 0 ≤ z ∧ z < 128) : runesOf (strOfNums zs) = zs.map Int.toNat := by
  have hsz := strOfNums_size zs
  have key : ∀ k, k ≤ zs.length → RunesTo (strOfNums zs) ((zs.take k).map Int.toNat) k := by
    intro k
    induction k with
    | zero => intro _; exact runesTo_start _
    | succ k ih =>
      intro hk
      have h1 := (ih (by omega)).next (by omega)
      have hz := h zs[k] (List.getElem_mem (by omega))
      have hg : ((strOfNums zs).get! k).toNat = zs[k].toNat := by
        have : (strOfNums zs).get! k = UInt8.ofNat zs[k].toNat := by
          show (strOfNums zs).data[k]! = _
          rw [getElem!_pos _ k (by show k < (strOfNums zs).size; omega)]
          simp [strOfNums]
        rw [this, UInt8.toNat_ofNat']
        omega
      have hd : Utf8.decode (strOfNums zs) k = (zs[k].toNat, 1) := by
        rw [decode_at, hg]
        unfold decodeN
        rw [if_pos (by omega)]
      rw [hd] at h1
      rw [List.take_add_one, List.getElem?_eq_getElem (by omega : k < zs.length), List.map_append]
      exact h1
  have := (key zs.length (Nat.le_refl _)).done (by omega)
  rw [this, List.take_length]

/-- Read so far. -/
def Rn (n : Int) (cs : List Nat) (st : RS) : Prop := RS.run n si RS.new cs = (0, st)

theorem Rn.snoc {n : Int} {cs : List Nat} {st st' : RS} {c : Nat} (h : Rn n cs st) (hc : st.take n c (si c) = (0, st')) : Rn n (cs ++ [c]) st' := by
  unfold Rn at *
  rw [RS.run_snoc n si cs RS.new c (by rw [h]), h]
  exact hc

theorem si_sg (m : Nat) (h : m < 12) : si (sg m) = m := by
  have key : ∀ k : Fin 12, si (sg k.1) = ((k.1 : Nat) : Int) := by decide +kernel
  exact key ⟨m, h⟩

theorem Rn.signs {n : Int} : ∀ (ps : List Int) {cs : List Nat} {st : RS}, Rn n cs st → (∀ p, p ∈ ps → 1 ≤ p ∧ p ≤ 12) → Rn n (cs ++ (sgs ps).map Int.toNat) { st with opn := st.opn ++ ps }
  | [], cs, st, h, _ => by simpa [sgs] using h
  | p :: ps, cs, st, h, hp => by
    have hb := hp p (by simp)
    have hs : si (sg (p - 1).toNat) = p - 1 := by rw [si_sg _ (by omega)]; omega
    have h1 : Rn n (cs ++ [sg (p - 1).toNat]) { st with opn := st.opn ++ [p] } := h.snoc (by unfold RS.take; rw [hs, if_pos (by omega), show p - 1 + 1 = p from by omega])
    have h2 := Rn.signs ps h1 (fun q hq => hp q (by simp [hq]))
    have e : cs ++ (sgs (p :: ps)).map Int.toNat = (cs ++ [sg (p - 1).toNat]) ++ (sgs ps).map Int.toNat := by simp [sgs]
    rw [e]
    have e2 : ({ st with opn := st.opn ++ p :: ps } : RS) = { ({ st with opn := st.opn ++ [p] } : RS) with opn := ({ st with opn := st.opn ++ [p] } : RS).opn ++ ps } := by simp
    rw [e2]
    exact h2

theorem okc_last {n : Int} : ∀ (ps : List Int) (L : Int), okc n L ps = true → (n - ps.getLastD L) % 2 = 0
  | [], L, h => by simpa [okc] using h
  | p :: ps, L, h => by
    simp only [okc, Bool.and_eq_true] at h
    have := okc_last ps p h.2
    rw [List.getLastD_cons]
    exact this

theorem fill_ok {n : Int} {ps : List Int} (h : okc n 0 ps = true) (h0 : ps ≠ []) : fill2 n (fill1 ps) = ps := by
  have h1 : fill1 ps = ps := by
    unfold fill1
    cases ps with
    | nil => exact absurd rfl h0
    | cons p qs =>
      simp only [okc, Bool.and_eq_true, decide_eq_true_eq] at h
      rw [if_neg (by simp only [List.headD_cons]; omega)]
  rw [h1]
  unfold fill2
  rw [if_neg]
  have := okc_last ps 0 h
  rintro ⟨_, h3⟩
  omega

/-- What is known behind k changes. -/
def AtK (l : List (List Int)) (k : Nat) (st : RS) : Prop :=
  st.all = [] ∧ st.marked = false ∧ st.mirrored = false ∧ ((dk l k = true ∧ 0 < k ∧ st.opn = l.getD (k - 1) [] ∧ st.opn ≠ [] ∧ st.block = l.take (k - 1)) ∨ (dk l k = false ∧ st.opn = [] ∧ st.block = l.take k ∧ st.dot = false))

def stK (l : List (List Int)) (k : Nat) : RS := ⟨[], l.take k, false, false, [], false⟩

theorem takeL_snoc (l : List (List Int)) (k : Nat) (h : k < l.length) : l.take (k + 1) = l.take k ++ [l.getD k []] := by
  rw [List.take_add_one, List.getElem?_eq_getElem h]; simp [List.getD, List.getElem?_eq_getElem h]

theorem getL_mem (l : List (List Int)) (k : Nat) (h : k < l.length) : l.getD k [] ∈ l := by
  rw [List.getD_eq_getElem?_getD, List.getElem?_eq_getElem h]; exact List.getElem_mem h

theorem AtK.ends {n : Int} {l : List (List Int)} {k : Nat} {st : RS} (h : AtK l k st) (hk : k ≤ l.length) (h2 : l.length ≤ 200) (hl : ∀ ps, ps ∈ l → okc n 0 ps = true) : st.endSigns n = (0, stK l k) := by
  obtain ⟨al, bl, mk, mi, op, dt⟩ := st
  obtain ⟨h3, h4, h5, h6⟩ := h
  simp only at h3 h4 h5 h6
  subst h3 h4 h5
  unfold RS.endSigns stK
  rcases h6 with ⟨_, h0, h7, h8, h9⟩ | ⟨_, h7, h8, h9⟩
  · subst h7 h9
    rw [if_neg h8]
    simp only
    have hok := hl _ (getL_mem l (k - 1) (by omega))
    rw [fill_ok hok h8]
    unfold RS.add
    rw [if_pos hok]
    have e : l.take (k - 1) ++ [l.getD (k - 1) []] = l.take k := by rw [← takeL_snoc l (k - 1) (by omega), show k - 1 + 1 = k from by omega]
    simp only [e]
    rw [if_neg (by rw [List.length_take]; omega)]
  · subst h7 h8 h9
    rw [if_pos rfl]

theorem AtK.next {n : Int} {l : List (List Int)} {k : Nat} {st : RS} {cs : List Nat} (hr : Rn n cs st) (h : AtK l k st) (hk : k < l.length) (h2 : l.length ≤ 200) (hl : ∀ ps, ps ∈ l → okc n 0 ps = true) (hb : ∀ ps, ps ∈ l → ∀ p, p ∈ ps → 1 ≤ p ∧ p ≤ 12) :
    ∃ st', Rn n (cs ++ (pcs (dk l k) (l.getD k [])).map Int.toNat) st' ∧ AtK l (k + 1) st' := by
  have hE := h.ends (n := n) (by omega) h2 hl
  have hm := getL_mem l k hk
  have hok := hl _ hm
  have hbk := hb _ hm
  have ht := takeL_snoc l k hk
  have hd : dk l (k + 1) = decide (l.getD k [] ≠ []) := by unfold dk; simp
  by_cases h0 : l.getD k [] = []
  · refine ⟨stK l (k + 1), ?_, rfl, rfl, rfl, Or.inr ⟨by rw [hd, h0]; rfl, rfl, rfl, rfl⟩⟩
    unfold pcs
    rw [if_pos h0]
    refine hr.snoc ?_
    show st.take n 120 (si 120) = _
    unfold RS.take
    rw [if_neg (by decide), hE, if_pos rfl]
    simp only
    unfold RS.other
    rw [if_pos (by decide)]
    unfold RS.add
    rw [h0] at hok
    rw [if_pos hok]
    have e : (stK l k).block ++ [[]] = l.take (k + 1) := by rw [ht, h0]; rfl
    rw [e, if_neg (by rw [List.length_take]; omega)]
    rfl
  · cases hdk : dk l k with
    | true =>
      have hk0 : 0 < k := by unfold dk at hdk; exact (of_decide_eq_true hdk).1
      have h1 : Rn n (cs ++ [46]) { stK l k with dot := true } := by
        refine hr.snoc ?_
        show st.take n 46 (si 46) = _
        unfold RS.take
        rw [if_neg (by decide), hE, if_pos rfl]
        simp only
        unfold RS.other
        rw [if_neg (by decide), if_pos rfl]
        have hne : (stK l k).needs = false := by
          unfold RS.needs stK
          simp only [Bool.or_false]
          rw [decide_eq_false_iff_not]
          intro e
          have : (l.take k).length = 0 := by rw [e]; rfl
          rw [List.length_take] at this
          omega
        rw [hne]
        rfl
      refine ⟨⟨[], l.take k, false, false, [] ++ l.getD k [], true⟩, ?_, ?_⟩
      · unfold pcs
        rw [if_neg h0, if_pos rfl, List.map_append, ← List.append_assoc]
        exact h1.signs _ hbk
      · exact ⟨rfl, rfl, rfl, Or.inl ⟨by rw [hd]; exact decide_eq_true h0, by omega, by show [] ++ _ = _; simp, by show [] ++ _ ≠ _; simpa using h0, by show l.take k = _; simp⟩⟩
    | false =>
      obtain ⟨al, bl, mk, mi, op, dt⟩ := st
      obtain ⟨h3, h4, h5, h6⟩ := h
      simp only at h3 h4 h5 h6
      subst h3 h4 h5
      rcases h6 with ⟨h7, _⟩ | ⟨_, h7, h8, h9⟩
      · rw [hdk] at h7; cases h7
      · subst h7 h8 h9
        refine ⟨⟨[], l.take k, false, false, [] ++ l.getD k [], false⟩, ?_, ?_⟩
        · unfold pcs
          rw [if_neg h0, if_neg (by decide), List.nil_append]
          exact hr.signs _ hbk
        · exact ⟨rfl, rfl, rfl, Or.inl ⟨by rw [hd]; exact decide_eq_true h0, by omega, by show [] ++ _ = _; simp, by show [] ++ _ ≠ _; simpa using h0, by show l.take k = _; simp⟩⟩

theorem ptx_read {n : Int} {l : List (List Int)} (h2 : l.length ≤ 200) (hl : ∀ ps, ps ∈ l → okc n 0 ps = true) (hb : ∀ ps, ps ∈ l → ∀ p, p ∈ ps → 1 ≤ p ∧ p ≤ 12) : ∀ k, k ≤ l.length → ∃ st, Rn n ((ptx l k).map Int.toNat) st ∧ AtK l k st
  | 0, _ => ⟨RS.new, rfl, rfl, rfl, rfl, Or.inr ⟨by unfold dk; simp, rfl, by simp [RS.new], rfl⟩⟩
  | k + 1, hk => by
    obtain ⟨st, h1, h3⟩ := ptx_read h2 hl hb k (by omega)
    obtain ⟨st', h4, h5⟩ := AtK.next h1 h3 (by omega) h2 hl hb
    refine ⟨st', ?_, h5⟩
    simp only [ptx, List.map_append]
    exact h4

theorem okc_bound {n : Int} (hn1 : 1 ≤ n) (hn2 : n ≤ 12) {ps : List Int} (h : okc n 0 ps = true) : ps.length ≤ 12 ∧ ∀ p, p ∈ ps → 1 ≤ p ∧ p ≤ 12 := by
  obtain ⟨m, rfl⟩ := Int.eq_ofNat_of_zero_le (show 0 ≤ n by omega)
  obtain ⟨t, e1, rfl⟩ := (okc_iff m ps).1 h
  have h1 := tpl_length t
  refine ⟨by omega, fun p hp => ?_⟩
  have := tpl_bound t p hp
  omega

/-- What is printed is read as it was. -/
theorem parse_ptx {n : Int} {l : List (List Int)} (hn1 : 1 ≤ n) (hn2 : n ≤ 12) (h1 : 1 ≤ l.length) (h2 : l.length ≤ 200) (hl : ∀ ps, ps ∈ l → okc n 0 ps = true) : RS.parse n si (runesOf (strOfNums (ptx l l.length))) = (0, l) := by
  rw [runes_ascii _ (ptx_low l l.length)]
  obtain ⟨st, h3, h4⟩ := ptx_read h2 hl (fun ps hp => (okc_bound hn1 hn2 (hl ps hp)).2) l.length (Nat.le_refl _)
  have hE := h4.ends (n := n) (Nat.le_refl _) h2 hl
  have hF : st.fin n = (0, { stK l l.length with all := l, block := [] }) := by
    unfold RS.fin
    rw [hE, if_pos rfl]
    simp only
    have hne : (stK l l.length).needs = false := by
      unfold RS.needs stK
      simp only [Bool.or_false, List.take_length]
      rw [decide_eq_false_iff_not]
      intro e
      rw [e] at h1
      simp at h1
    rw [hne]
    simp only [Bool.false_eq_true, if_false]
    unfold RS.endBlock RS.back stK
    simp only [Bool.false_eq_true, if_false, List.nil_append, List.append_nil, List.take_length]
    rw [if_neg (by omega)]
  unfold RS.parse
  unfold Rn at h3
  rw [h3, if_pos rfl, hF, if_pos rfl]

end Go.Proofs.Ytgglbafcocbhbaa
