/- Joined: Sign, Text, Bell, Read, At, Ranks, RefA, RefB, Rno, Name. -/
import Derived.Test.YtffnfchekbafmaaGreatDoorJ1
import Derived.WalkSmall
import Derived.Lib.OthersKept
import Derived.Shelf.Slices.Delete
import Derived.Lib.OwnBridge
import Derived.Lib.RuneCount
import Derived.Lib.DecodeN
/- Plain: the parity that the cycles tell is the parity of the pairs that are the wrong way about. -/
namespace Go.Proofs.YtffnfchekbafmaaGreatDoor

theorem cycsTo_succ (r : List Int) (k : Nat) : cycsTo r (k + 1) = if (k : Int) ∈ (cycsTo r k).flatten then cycsTo r k else cycsTo r k ++ [orb r k (per r k)] := rfl

theorem mem_orb {r : List Int} {x p : Nat} {y : Int} : y ∈ orb r x p ↔ ∃ i, i < p ∧ y = ((it r i x : Nat) : Int) := by
  unfold orb
  rw [List.mem_map]
  constructor
  · rintro ⟨i, hi, rfl⟩; exact ⟨i, List.mem_range.1 hi, rfl⟩
  · rintro ⟨i, hi, rfl⟩; exact ⟨i, List.mem_range.2 hi, rfl⟩

theorem cyc_form {r : List Int} {k : Nat} {c : List Int} (h : c ∈ cycsTo r k) : ∃ y, y < k ∧ c = orb r y (per r y) := by
  induction k with
  | zero => cases h
  | succ k ih =>
    rw [cycsTo_succ] at h
    split at h
    · obtain ⟨y, hy, e⟩ := ih h; exact ⟨y, by omega, e⟩
    · rcases List.mem_append.1 h with h | h
      · obtain ⟨y, hy, e⟩ := ih h; exact ⟨y, by omega, e⟩
      · exact ⟨k, by omega, List.mem_singleton.1 h⟩

theorem flat_back {r : List Int} (hr : isRow r) {k i : Nat} (hk : k ≤ r.length) (hi : i < r.length) (h : ((nx r i : Nat) : Int) ∈ (cycsTo r k).flatten) : (i : Int) ∈ (cycsTo r k).flatten := by
  obtain ⟨c, hc, hm⟩ := List.mem_flatten.1 h
  obtain ⟨y, hy, rfl⟩ := cyc_form hc
  obtain ⟨j, hj, e⟩ := mem_orb.1 hm
  have hy' : y < r.length := by omega
  obtain ⟨p1, _, p3, _⟩ := per_spec hr hy'
  refine List.mem_flatten.2 ⟨_, hc, mem_orb.2 ?_⟩
  have e' : nx r i = it r j y := by omega
  cases j with
  | zero =>
    refine ⟨per r y - 1, by omega, ?_⟩
    have e2 : nx r i = nx r (it r (per r y - 1) y) := by
      rw [e']
      show y = it r (per r y - 1 + 1) y
      rw [show per r y - 1 + 1 = per r y from by omega, p3]
    rw [nx_inj hr hi (it_lt hr hy' _) e2]
  | succ j =>
    refine ⟨j, by omega, ?_⟩
    rw [nx_inj hr hi (it_lt hr hy' j) e']

theorem it_notin {r : List Int} (hr : isRow r) {k : Nat} (hk : k < r.length) (h : ¬ (k : Int) ∈ (cycsTo r k).flatten) (j : Nat) : ¬ ((it r j k : Nat) : Int) ∈ (cycsTo r k).flatten := by
  induction j with
  | zero => exact h
  | succ j ih => exact fun h' => ih (flat_back hr (by omega) (it_lt hr hk j) h')

theorem orb_inj {r : List Int} (hr : isRow r) {x i j : Nat} (hx : x < r.length) (hi : i < per r x) (hj : j < per r x) (e : it r i x = it r j x) : i = j := by
  obtain ⟨_, _, _, p4⟩ := per_spec hr hx
  have key : ∀ i j, i < j → j < per r x → it r i x ≠ it r j x := by
    intro i j hij hj e
    have e1 : it r j x = it r i (it r (j - i) x) := by rw [← it_add, show i + (j - i) = j from by omega]
    rw [e1] at e
    have e2 := it_inj hr hx (it_lt hr hx (j - i)) i e
    exact p4 (j - i) (by omega) (by omega) e2.symm
  rcases Nat.lt_trichotomy i j with h | h | h
  · exact absurd e (key i j h hj)
  · exact h
  · exact absurd e.symm (key j i h hi)

/-- r on the cycles that are found so far; else nothing is moved. -/
def gk (r : List Int) (k i : Nat) : Nat := if (i : Int) ∈ (cycsTo r k).flatten then nx r i else i

/-- .. and j steps of the next cycle. -/
def hk (r : List Int) (k j i : Nat) : Nat := if (i : Int) ∈ (cycsTo r k).flatten then nx r i else if (i : Int) ∈ orb r k j then nx r i else if i = it r j k then k else i

theorem hk_zero (r : List Int) (k i : Nat) : hk r k 0 i = gk r k i := by
  unfold hk gk
  split
  · rfl
  · rw [if_neg (by simp [orb])]
    show (if i = k then k else i) = i
    split
    · omega
    · rfl

theorem hk_step {r : List Int} (hr : isRow r) {k j i : Nat} (hkl : k < r.length) (hn : ¬ (k : Int) ∈ (cycsTo r k).flatten) (hj : j + 1 < per r k) : hk r k (j + 1) i = hk r k j (swp (it r j k) (it r (j + 1) k) i) := by
  have n1 := it_notin hr hkl hn j
  have n2 := it_notin hr hkl hn (j + 1)
  have hne : it r j k ≠ it r (j + 1) k := fun e => by have := orb_inj hr hkl (by omega) hj e; omega
  have m1 : ¬ ((it r (j + 1) k : Nat) : Int) ∈ orb r k (j + 1) := by
    intro h
    obtain ⟨a, ha, e⟩ := mem_orb.1 h
    have := orb_inj hr hkl hj (by omega) (show it r (j + 1) k = it r a k by omega)
    omega
  have m2 : ¬ ((it r (j + 1) k : Nat) : Int) ∈ orb r k j := by
    intro h
    obtain ⟨a, ha, e⟩ := mem_orb.1 h
    exact m1 (mem_orb.2 ⟨a, by omega, e⟩)
  have m3 : ¬ ((it r j k : Nat) : Int) ∈ orb r k j := by
    intro h
    obtain ⟨a, ha, e⟩ := mem_orb.1 h
    have := orb_inj hr hkl (show j < per r k by omega) (by omega) (show it r j k = it r a k by omega)
    omega
  by_cases h1 : i = it r j k
  · subst h1
    have e : swp (it r j k) (it r (j + 1) k) (it r j k) = it r (j + 1) k := by unfold swp; rw [if_pos rfl]
    rw [e]
    unfold hk
    rw [if_neg n1, if_pos (mem_orb.2 ⟨j, by omega, rfl⟩), if_neg n2, if_neg m2, if_neg (Ne.symm hne)]
    rfl
  · by_cases h2 : i = it r (j + 1) k
    · subst h2
      have e : swp (it r j k) (it r (j + 1) k) (it r (j + 1) k) = it r j k := by unfold swp; rw [if_neg (Ne.symm hne), if_pos rfl]
      rw [e]
      unfold hk
      rw [if_neg n2, if_neg m1, if_pos rfl, if_neg n1, if_neg m3, if_pos rfl]
    · have e : swp (it r j k) (it r (j + 1) k) i = i := by unfold swp; rw [if_neg h1, if_neg h2]
      rw [e]
      unfold hk
      by_cases h3 : (i : Int) ∈ (cycsTo r k).flatten
      · rw [if_pos h3, if_pos h3]
      · rw [if_neg h3, if_neg h3, if_neg h2, if_neg h1]
        have : ((i : Int) ∈ orb r k (j + 1)) ↔ ((i : Int) ∈ orb r k j) := by
          rw [mem_orb, mem_orb]
          constructor
          · rintro ⟨a, ha, e⟩
            by_cases e2 : a = j
            · subst e2; exact absurd (by omega) h1
            · exact ⟨a, by omega, e⟩
          · rintro ⟨a, ha, e⟩; exact ⟨a, by omega, e⟩
        by_cases h4 : (i : Int) ∈ orb r k j
        · rw [if_pos (this.2 h4), if_pos h4]
        · rw [if_neg (fun h => h4 (this.1 h)), if_neg h4]

theorem hk_end {r : List Int} (hr : isRow r) {k : Nat} (hkl : k < r.length) (hn : ¬ (k : Int) ∈ (cycsTo r k).flatten) (i : Nat) : hk r k (per r k - 1) i = gk r (k + 1) i := by
  obtain ⟨p1, _, p3, _⟩ := per_spec hr hkl
  unfold hk gk
  rw [cycsTo_succ, if_neg hn, List.flatten_append]
  have hm : ((i : Int) ∈ (cycsTo r k).flatten ++ [orb r k (per r k)].flatten) ↔ ((i : Int) ∈ (cycsTo r k).flatten ∨ (i : Int) ∈ orb r k (per r k)) := by simp
  by_cases h1 : (i : Int) ∈ (cycsTo r k).flatten
  · rw [if_pos h1, if_pos (hm.2 (Or.inl h1))]
  · rw [if_neg h1]
    by_cases h2 : (i : Int) ∈ orb r k (per r k - 1)
    · obtain ⟨a, ha, e⟩ := mem_orb.1 h2
      rw [if_pos h2, if_pos (hm.2 (Or.inr (mem_orb.2 ⟨a, by omega, e⟩)))]
    · rw [if_neg h2]
      by_cases h3 : i = it r (per r k - 1) k
      · rw [if_pos h3, if_pos (hm.2 (Or.inr (mem_orb.2 ⟨per r k - 1, by omega, by omega⟩)))]
        subst h3
        show k = it r (per r k - 1 + 1) k
        rw [show per r k - 1 + 1 = per r k from by omega, p3]
      · rw [if_neg h3, if_neg]
        intro h
        rcases hm.1 h with h | h
        · exact h1 h
        · obtain ⟨a, ha, e⟩ := mem_orb.1 h
          by_cases e2 : a = per r k - 1
          · subst e2; exact h3 (by omega)
          · exact h2 (mem_orb.2 ⟨a, by omega, e⟩)

theorem hk_inv {r : List Int} (hr : isRow r) {k : Nat} (hkl : k < r.length) (hn : ¬ (k : Int) ∈ (cycsTo r k).flatten) (hg : ∀ i j, i < r.length → j < r.length → gk r k i = gk r k j → i = j) (j : Nat) (hj : j < per r k) :
    (∀ a b, a < r.length → b < r.length → hk r k j a = hk r k j b → a = b) ∧ inv r.length (hk r k j) % 2 = (inv r.length (gk r k) + j) % 2 := by
  induction j with
  | zero =>
    refine ⟨fun a b ha hb e => hg a b ha hb (by rw [← hk_zero, ← hk_zero]; exact e), ?_⟩
    rw [inv_congr (fun i _ => hk_zero r k i)]; rfl
  | succ j ih =>
    obtain ⟨i1, i2⟩ := ih (by omega)
    have hl1 := it_lt hr hkl j
    have hl2 := it_lt hr hkl (j + 1)
    have hp := swp_perm hl1 hl2
    have hne : it r j k ≠ it r (j + 1) k := fun e => by have := orb_inj hr hkl (by omega) hj e; omega
    constructor
    · intro a b ha hb e
      rw [hk_step hr hkl hn hj, hk_step hr hkl hn hj] at e
      exact hp.2 a b ha hb (i1 _ _ (hp.1 a ha) (hp.1 b hb) e)
    · rw [inv_congr (fun i _ => hk_step hr hkl hn hj), inv_mul hp i1]
      have := inv_swp hne hl1 hl2
      omega

theorem oddTo_snoc (xss : List (List Int)) (c : List Int) : oddTo (xss ++ [c]) (xss.length + 1) = if c.length % 2 = 0 then !(oddTo xss xss.length) else oddTo xss xss.length := by
  have hp : ∀ j, j ≤ xss.length → oddTo (xss ++ [c]) j = oddTo xss j := by
    intro j hj
    induction j with
    | zero => rfl
    | succ j ih =>
      have e : (xss ++ [c]).getD j [] = xss.getD j [] := by
        simp only [List.getD]; rw [List.getElem?_append_left (by omega)]
      show (if ((xss ++ [c]).getD j []).length % 2 = 0 then !(oddTo (xss ++ [c]) j) else oddTo (xss ++ [c]) j) = (if (xss.getD j []).length % 2 = 0 then !(oddTo xss j) else oddTo xss j)
      rw [e, ih (by omega)]
  have e : (xss ++ [c]).getD xss.length [] = c := by simp [List.getD]
  show (if ((xss ++ [c]).getD xss.length []).length % 2 = 0 then !(oddTo (xss ++ [c]) xss.length) else oddTo (xss ++ [c]) xss.length) = _
  rw [e, hp _ (Nat.le_refl _)]

theorem gk_inv {r : List Int} (hr : isRow r) (k : Nat) (hkl : k ≤ r.length) :
    (∀ a b, a < r.length → b < r.length → gk r k a = gk r k b → a = b) ∧ inv r.length (gk r k) % 2 = (if oddTo (cycsTo r k) (cycsTo r k).length = true then 1 else 0) := by
  induction k with
  | zero =>
    have e : ∀ i, gk r 0 i = i := fun i => by unfold gk; rw [if_neg (by simp [cycsTo])]
    refine ⟨fun a b _ _ h => by rwa [e, e] at h, ?_⟩
    rw [inv_congr (fun i _ => e i), inv_id]; rfl
  | succ k ih =>
    obtain ⟨i1, i2⟩ := ih (by omega)
    by_cases h : (k : Int) ∈ (cycsTo r k).flatten
    · have e : cycsTo r (k + 1) = cycsTo r k := by rw [cycsTo_succ, if_pos h]
      have e2 : ∀ i, gk r (k + 1) i = gk r k i := fun i => by unfold gk; rw [e]
      refine ⟨fun a b ha hb h' => i1 a b ha hb (by rwa [e2, e2] at h'), ?_⟩
      rw [inv_congr (fun i _ => e2 i), e]; exact i2
    · have hlt : k < r.length := by omega
      obtain ⟨p1, _, _, _⟩ := per_spec hr hlt
      obtain ⟨j1, j2⟩ := hk_inv hr hlt h i1 (per r k - 1) (by omega)
      have e := hk_end hr hlt h
      refine ⟨fun a b ha hb h' => j1 a b ha hb (by rw [e, e]; exact h'), ?_⟩
      rw [← inv_congr (fun i _ => e i), j2]
      have e3 : cycsTo r (k + 1) = cycsTo r k ++ [orb r k (per r k)] := by rw [cycsTo_succ, if_neg h]
      rw [e3, List.length_append, show ([orb r k (per r k)] : List (List Int)).length = 1 from rfl, oddTo_snoc, orb_length]
      cases hd : oddTo (cycsTo r k) (cycsTo r k).length with
      | true =>
        rw [hd] at i2
        simp only [if_true] at i2
        by_cases hp : per r k % 2 = 0
        · rw [if_pos hp]; simp; omega
        · rw [if_neg hp]; simp; omega
      | false =>
        rw [hd] at i2
        simp at i2
        by_cases hp : per r k % 2 = 0
        · rw [if_pos hp]; simp; omega
        · rw [if_neg hp]; simp; omega

theorem flat_all {r : List Int} (hr : isRow r) (k : Nat) (hkl : k ≤ r.length) (i : Nat) (hi : i < k) : (i : Int) ∈ (cycsTo r k).flatten := by
  induction k with
  | zero => omega
  | succ k ih =>
    rw [cycsTo_succ]
    by_cases h : (k : Int) ∈ (cycsTo r k).flatten
    · rw [if_pos h]
      by_cases e : i = k
      · subst e; exact h
      · exact ih (by omega) (by omega)
    · rw [if_neg h, List.flatten_append]
      by_cases e : i = k
      · subst e
        refine List.mem_append.2 (Or.inr ?_)
        simp only [List.flatten_cons, List.flatten_nil, List.append_nil]
        exact mem_orb.2 ⟨0, by have := (per_spec hr (show i < r.length by omega)).1; omega, rfl⟩
      · exact List.mem_append.2 (Or.inl (ih (by omega) (by omega)))

/-- Is the row odd, by its cycles? -/
def odd (r : List Int) : Bool := oddTo (cycsTo r r.length) (cycsTo r r.length).length

theorem odd_inv {r : List Int} (hr : isRow r) : inv r.length (nx r) % 2 = (if odd r = true then 1 else 0) := by
  have h := (gk_inv hr r.length (Nat.le_refl _)).2
  rw [inv_congr (q := gk r r.length) (fun i hi => by unfold gk; rw [if_pos (flat_all hr _ (Nat.le_refl _) i hi)])]
  exact h

theorem nx_perm {r : List Int} (hr : isRow r) : PermOn r.length (nx r) := ⟨fun _ hi => nx_lt hr hi, fun _ _ hi hj e => nx_inj hr hi hj e⟩

theorem isRow_by {a b : List Int} (ha : isRow a) (hb : isRow b) (hl : b.length = a.length) : isRow (by_ a b) := by
  have hat : ∀ j, j < b.length → (b.getD j 0).toNat < a.length := fun j hj => by have := hb.at hj; omega
  constructor
  · intro y hy
    obtain ⟨j, hj, rfl⟩ := List.getElem_of_mem hy
    have hj' : j < b.length := by rwa [by_length] at hj
    have e := by_get (a := a) hj'
    rw [show (by_ a b).getD j 0 = (by_ a b)[j] from by simp [List.getD, List.getElem?_eq_getElem hj]] at e
    rw [e, by_length, hl]
    exact ha.at (hat j hj')
  · rw [List.nodup_iff_pairwise_ne, List.pairwise_iff_getElem]
    intro i j hi hj hij e
    have hi' : i < b.length := by rwa [by_length] at hi
    have hj' : j < b.length := by rwa [by_length] at hj
    have e1 := by_get (a := a) hi'
    have e2 := by_get (a := a) hj'
    rw [show (by_ a b).getD i 0 = (by_ a b)[i] from by simp [List.getD, List.getElem?_eq_getElem hi]] at e1
    rw [show (by_ a b).getD j 0 = (by_ a b)[j] from by simp [List.getD, List.getElem?_eq_getElem hj]] at e2
    rw [e1, e2] at e
    have h1 := ha.inj (hat i hi') (hat j hj') e
    have b1 := hb.at hi'
    have b2 := hb.at hj'
    have := hb.inj hi' hj' (by omega)
    omega

theorem nx_by {a b : List Int} {i : Nat} (hi : i < b.length) : nx (by_ a b) i = nx a (nx b i) := by
  unfold nx; rw [by_get hi]

theorem odd_by {a b : List Int} (ha : isRow a) (hb : isRow b) (hl : b.length = a.length) : odd (by_ a b) = (odd a != odd b) := by
  have h1 := odd_inv (isRow_by ha hb hl)
  have h2 := odd_inv ha
  have h3 := odd_inv hb
  rw [by_length, inv_congr (fun i hi => nx_by hi), inv_mul (nx_perm hb) (by rw [hl]; exact (nx_perm ha).2)] at h1
  rw [hl] at h1 h3
  cases e1 : odd (by_ a b) <;> cases e2 : odd a <;> cases e3 : odd b <;> rw [e1] at h1 <;> rw [e2] at h2 <;> rw [e3] at h3 <;> simp at h1 h2 h3 ⊢ <;> omega

end Go.Proofs.YtffnfchekbafmaaGreatDoor

/- Contract: Text. -/
namespace Go.Proofs.YtffnfchekbafmaaGreatDoor
open Go.RowKit
set_option maxRecDepth 20000

theorem Tryz.info5 : (Tryz.prog.info? 5).map (fun i => (i.zero, i.size, i.bytes)) = some (some (.int .u8 0), 1, 1) := by kernel_rfl

/-- The signs. -/
def sg (m : Nat) : Nat := [49, 50, 51, 52, 53, 54, 55, 56, 57, 48, 69, 84].getD m 0

theorem sg_lt (m : Nat) : sg m < 128 := by
  match m with
  | 0 | 1 | 2 | 3 | 4 | 5 | 6 | 7 | 8 | 9 | 10 | 11 => decide
  | n + 12 => simp [sg]

/-- The text of a row, as numbers. -/
def txt (xs : List Int) : List Int := xs.map (fun x => ((sg x.toNat : Nat) : Int))

theorem txt_length (xs : List Int) : (txt xs).length = xs.length := by simp [txt]

theorem txt_snoc (xs : List Int) (m : Nat) : txt (xs ++ [(m : Int)]) = txt xs ++ [((sg m : Nat) : Int)] := by simp [txt]

theorem index_sign (m : Nat) (hm : m < 12) (w : World) : (Instr.index 9 (.string { data := #[49, 50, 51, 52, 53, 54, 55, 56, 57, 48, 69, 84] }) (.int .i64 (m : Int))).run Tryz.prog w = .ok (.int .u8 ((sg m : Nat) : Int)) w := by
  rw [run_index_string w 9 _ .i64 (m : Int) Tryz.underlying9, dif_pos ⟨by omega, by show (m : Int) < 12; omega⟩]
  match m, hm with
  | 0, _ | 1, _ | 2, _ | 3, _ | 4, _ | 5, _ | 6, _ | 7, _ | 8, _ | 9, _ | 10, _ | 11, _ => rfl

theorem owns_bytes {w : World} {base e g n cap : Nat} {zs : List Int} (h : w.ownsRow base e 1 (.slice (some ⟨g, 0, none⟩) n cap) n (zs.map (Value.int .u8))) (j : Nat) (hj : j < n) :
    w.cell? ⟨g, 0 + j, none⟩ = some (.int .u8 (zs.getD j 0)) := by
  have hl : zs.length = n := by have := h.1; simpa using this
  have := h.cells (g := g) rfl j (.int .u8 (zs.getD j 0)) (by simp [List.getElem?_map, List.getD, List.getElem?_eq_getElem (by omega : j < zs.length)])
  rw [Addr.add_lit] at this
  exact this

end Go.Proofs.YtffnfchekbafmaaGreatDoor

/- Contract: bellOf. -/
namespace Go.Proofs.YtffnfchekbafmaaGreatDoor
open Go.RowKit
set_option maxRecDepth 20000

theorem byte_sign (m : Nat) (hm : m < 12) : (({ data := #[49, 50, 51, 52, 53, 54, 55, 56, 57, 48, 69, 84] } : ByteArray)[m]'(by exact hm)).toNat = sg m := by
  match m, hm with
  | 0, _ | 1, _ | 2, _ | 3, _ | 4, _ | 5, _ | 6, _ | 7, _ | 8, _ | 9, _ | 10, _ | 11, _ => rfl

theorem decode_sign (m : Nat) (hm : m < 12) : Utf8.decode { data := #[49, 50, 51, 52, 53, 54, 55, 56, 57, 48, 69, 84] } m = (sg m, 1) := by
  have h := byte_sign m hm
  rw [decode_ascii _ m (by exact hm) (by rw [h]; exact sg_lt m), h]

theorem sg_inj {i j : Nat} (hi : i < 12) (hj : j < 12) (h : sg i = sg j) : i = j := by
  have key : ∀ i : Fin 12, ∀ j : Fin 12, sg i.val = sg j.val → i = j := by decide
  have := key ⟨i, hi⟩ ⟨j, hj⟩ h
  exact congrArg Fin.val this

theorem next_sign (w : World) (k : Nat) (hk : k < 12) : ∀ ty, (Instr.next (.pointer (some ⟨w.heap.size, 0, none⟩)) true ty).run Tryz.prog (w.iter { data := #[49, 50, 51, 52, 53, 54, 55, 56, 57, 48, 69, 84] } k) =
    .ok (.tuple #[.bool true, .int .i64 (k : Int), .int .i32 ((sg k : Nat) : Int)]) (w.iter { data := #[49, 50, 51, 52, 53, 54, 55, 56, 57, 48, 69, 84] } (k + 1)) := by
  intro ty
  rw [run_next_any w _ k ty (by exact hk), decode_sign k hk]

theorem next_done (w : World) (k : Nat) (hk : ¬ k < 12) : ∀ ty, (Instr.next (.pointer (some ⟨w.heap.size, 0, none⟩)) true ty).run Tryz.prog (w.iter { data := #[49, 50, 51, 52, 53, 54, 55, 56, 57, 48, 69, 84] } k) =
    .ok (.tuple #[.bool false]) (w.iter { data := #[49, 50, 51, 52, 53, 54, 55, 56, 57, 48, 69, 84] } k) := by
  intro ty
  exact run_next_end w _ k ty (by exact hk)

theorem below_iter (w : World) (s : ByteArray) (k : Nat) : Below w.heap.size w (w.iter s k) := (Below.refl _ _).alloc (Nat.le_refl _) _

theorem ret_bell {k m : Nat} (h : k = m) : Ending.returned (.tuple #[.int .i64 (k : Int), .bool true]) = Ending.returned (.tuple #[.int .i64 (m : Int), .bool true]) := by rw [h]

end Go.Proofs.YtffnfchekbafmaaGreatDoor

/- Contract: Read, at every text. -/
namespace Go.Proofs.YtffnfchekbafmaaGreatDoor
open Go.RowKit Go.Lib

/-- The bell of a sign; 12: none. -/
def bl (b : UInt8) : Nat := ((List.range 12).find? (fun m => sg m == b.toNat)).getD 12

theorem bl_sg {b : UInt8} (h : bl b < 12) : sg (bl b) = b.toNat := by
  unfold bl at h ⊢
  cases hf : (List.range 12).find? (fun m => sg m == b.toNat) with
  | none => rw [hf] at h; simp at h
  | some p => rw [Option.getD_some]; simpa using List.find?_some hf

theorem bl_of {b : UInt8} {m : Nat} (hm : m < 12) (h : sg m = b.toNat) : bl b = m := by
  have h1 : bl b < 12 := by
    unfold bl
    cases hf : (List.range 12).find? (fun m => sg m == b.toNat) with
    | none =>
      have := List.find?_eq_none.1 hf m (List.mem_range.2 hm)
      simp [h] at this
    | some p =>
      rw [Option.getD_some]
      exact List.mem_range.1 (List.mem_of_find?_eq_some hf)
  have h2 := bl_sg h1
  exact sg_inj h1 hm (by rw [h2, h])

/-- The bells of a text's bytes. -/
def bells (l : List UInt8) : List Int := l.map (fun b => ((bl b : Nat) : Int))

theorem bells_length (l : List UInt8) : (bells l).length = l.length := by simp [bells]

theorem bells_snoc (s : ByteArray) (k : Nat) (h : k < s.size) : bells (s.data.toList.take (k + 1)) = bells (s.data.toList.take k) ++ [((bl (s[k]'h) : Nat) : Int)] := by
  rw [List.take_succ_eq_append_getElem (by simpa using h)]
  simp [bells]
  rfl

theorem chk_take (xs : List Int) : chk (xs.take 13) = chk xs := by
  by_cases h : xs.length ≤ 13
  · rw [List.take_of_length_le h]
  · rw [chk_count (by rw [List.length_take]; omega), chk_count (by omega)]

/-- What the loop's relation says of the world. -/
structure ReadRel (w wr : World) (s : ByteArray) (v : Value) (pos : Nat) : Prop where
  iter : wr.heap[w.heap.size]? = some (.stringIter s pos)
  signs : ∀ j, (h : j < s.size) → j < pos → bl s[j] < 12
  row : wr.ownsRow (w.heap.size + 1) 3 1 v (min pos 13) (((bells (s.data.toList.take pos)).take 13).map (Value.int .i64))
  size : w.heap.size < wr.heap.size
  below : Below w.heap.size w wr

theorem ReadRel.next {w wr w1 : World} {s : ByteArray} {v : Value} {pos : Nat} (h : ReadRel w wr s v pos) (hp : pos < s.size) (hs : bl (s[pos]'hp) < 12) (hb : Below wr.heap.size (wr.iterAt w.heap.size s (pos + 1)) w1) :
    w1.heap[w.heap.size]? = some (.stringIter s (pos + 1)) ∧ w1.ownsRow (w.heap.size + 1) 3 1 v (min pos 13) (((bells (s.data.toList.take pos)).take 13).map (Value.int .i64)) ∧ w.heap.size < w1.heap.size ∧ Below w.heap.size w w1 ∧
      ∀ j, (h : j < s.size) → j < pos + 1 → bl s[j] < 12 := by
  have hz : (wr.iterAt w.heap.size s (pos + 1)).heap.size = wr.heap.size := iterAt_size _ _ _ _
  refine ⟨?_, ?_, ?_, ?_, ?_⟩
  · rw [hb.block _ h.size]; exact iterAt_heap wr _ s pos (pos + 1) h.iter
  · exact owns_below (ownsRow_iterAt h.row (Nat.lt_succ_self _) s (pos + 1)) hb (by rw [hz]; exact Nat.le_refl _)
  · have h1 := h.size; have h2 := hb.size; omega
  · exact (below_iterAt h.below (Nat.le_refl _) s (pos + 1)).trans (hb.mono (Nat.le_of_lt h.size))
  · intro j hj hjp
    by_cases e : j = pos
    · subst e; exact hs
    · exact h.signs j hj (by omega)

theorem not_sign {s : ByteArray} {pos : Nat} (hp : pos < s.size) (hs : ¬ bl (s[pos]'hp) < 12) : ∀ m, m < 12 → (((Utf8.decode s pos).1 : Nat) : Int) ≠ ((sg m : Nat) : Int) := by
  intro m hm e
  by_cases ha : (s[pos]'hp).toNat < 128
  · rw [decode_ascii s pos hp ha] at e
    exact hs (by rw [bl_of hm (by simp only at e; omega)]; exact hm)
  · have h1 := (decode_high s pos hp (by omega)).1
    have h2 := sg_lt m
    omega

theorem ret_read {v : Value} {a b : Int} (h : a = b) : Ending.returned (.tuple #[v, .int .i64 a]) = Ending.returned (.tuple #[v, .int .i64 b]) := by rw [h]

/-- What Read answers. -/
def ReadSays (s : ByteArray) (e : Ending) (w' : World) : Prop :=
  ((∃ q, ∃ h : q < s.size, ¬ bl s[q] < 12) ∧ e = .returned (.tuple #[.slice none 0 0, .int .i64 4])) ∨
  ((∀ q, (h : q < s.size) → bl s[q] < 12) ∧ ((chk (bells s.data.toList) = 0 ∧ ∃ v, e = .returned (.tuple #[v, .int .i64 0]) ∧ Ints w' v (bells s.data.toList)) ∨
    (chk (bells s.data.toList) ≠ 0 ∧ e = .returned (.tuple #[.slice none 0 0, .int .i64 (chk (bells s.data.toList))]))))

theorem take_room {l : List Int} {pos : Nat} {m : Int} (h : l.length = pos) (h13 : pos ≤ 12) : (l ++ [m]).take 13 = l.take 13 ++ [m] := by
  rw [List.take_of_length_le (by simp; omega), List.take_of_length_le (by omega)]

theorem take_full {l : List Int} {pos : Nat} {m : Int} (h : l.length = pos) (h13 : ¬ pos ≤ 12) : (l ++ [m]).take 13 = l.take 13 := by
  rw [List.take_append_of_le_length (by omega)]

theorem bells_take_length {s : ByteArray} {pos : Nat} (h : pos ≤ s.size) : (bells (s.data.toList.take pos)).length = pos := by
  have h' : s.size = s.data.size := rfl
  rw [bells_length, List.length_take, Array.length_toList]; omega

end Go.Proofs.YtffnfchekbafmaaGreatDoor

/- Contracts: slices.Delete (off the library's shelf), At. -/
namespace Go.Proofs.YtffnfchekbafmaaGreatDoor
open Go.RowKit Go.Lib

theorem erase_take_drop (zs : List Int) (i : Nat) (h : i < zs.length) : (zs.take i ++ zs.drop (i + 1) ++ List.replicate (i + 1 - i) 0).take (zs.length - 1) = zs.eraseIdx i := by
  rw [List.eraseIdx_eq_take_drop_succ, List.take_append_of_le_length (by simp; omega), List.take_of_length_le (by simp; omega)]

/-- The row with a rank, out of the bells that are left. -/
def atl : Nat → List Int → Nat → List Int
  | 0, _, _ => []
  | m + 1, L, k => L.getD (k / fct m) 0 :: atl m (L.eraseIdx (k / fct m)) (k % fct m)

end Go.Proofs.YtffnfchekbafmaaGreatDoor

/- Plain: the row at a rank has that rank; texts come back; what undoes a row. -/
namespace Go.Proofs.YtffnfchekbafmaaGreatDoor

theorem cons_erase_perm (L : List Int) (q : Nat) (h : q < L.length) : (L.getD q 0 :: L.eraseIdx q).Perm L := by
  rw [show L.getD q 0 = L[q] from by simp [List.getD, List.getElem?_eq_getElem h]]
  have e : L = L.take q ++ L[q] :: L.drop (q + 1) := by rw [← List.drop_eq_getElem_cons h, List.take_append_drop]
  rw [List.eraseIdx_eq_take_drop_succ]
  exact (List.perm_middle (l₁ := L.take q)).symm.trans (by rw [← e])

theorem atl_perm : ∀ (m : Nat) (L : List Int) (k : Nat), L.length = m → k < fct m → (atl m L k).Perm L
  | 0, L, _, hl, _ => by rw [List.length_eq_zero_iff.1 hl]; exact List.Perm.refl _
  | m + 1, L, k, hl, hk => by
    have hG := fct_pos m
    have hq : k / fct m < L.length := by rw [hl, Nat.div_lt_iff_lt_mul hG]; exact hk
    have ih := atl_perm m (L.eraseIdx (k / fct m)) (k % fct m) (by rw [List.length_eraseIdx_of_lt hq]; omega) (Nat.mod_lt _ hG)
    exact (ih.cons _).trans (cons_erase_perm L _ hq)

theorem rnd_sorted (n : Nat) : (rnd n).Pairwise (· < ·) := by
  unfold rnd
  rw [List.pairwise_map]
  exact List.Pairwise.imp (fun h => by omega) (List.pairwise_lt_range (n := n))

theorem isRow_rnd (n : Nat) : isRow (rnd n) := by
  constructor
  · intro y hy
    rw [rnd_length]
    obtain ⟨i, hi, rfl⟩ := List.mem_map.1 hy
    have := List.mem_range.1 hi
    omega
  · rw [List.nodup_iff_pairwise_ne]
    exact List.Pairwise.imp (fun h => by omega) (rnd_sorted n)

theorem isRow_perm {xs ys : List Int} (h : xs.Perm ys) (hy : isRow ys) : isRow xs :=
  ⟨fun y hm => by rw [h.length_eq]; exact hy.1 y (h.mem_iff.1 hm), h.nodup_iff.2 hy.2⟩

/-- The row with rank k. -/
def rowAt (n k : Nat) : List Int := atl n (rnd n) k

theorem rowAt_perm {n k : Nat} (hk : k < fct n) : (rowAt n k).Perm (rnd n) := atl_perm n (rnd n) k (rnd_length n) hk

theorem rowAt_row {n k : Nat} (hk : k < fct n) : isRow (rowAt n k) := isRow_perm (rowAt_perm hk) (isRow_rnd n)

theorem rowAt_length {n k : Nat} (hk : k < fct n) : (rowAt n k).length = n := by rw [(rowAt_perm hk).length_eq, rnd_length]

/-- The rank, from the first bell on. -/
def rankR : List Int → Nat
  | [] => 0
  | x :: xs => cnt x xs * fct xs.length + rankR xs

theorem rkTo_rankR (xs : List Int) (k : Nat) (h : k ≤ xs.length) : rkTo xs k * fct (xs.length - k) + rankR (xs.drop k) = rankR xs := by
  induction k with
  | zero => simp [rkTo]
  | succ k ih =>
    rw [← ih (by omega)]
    have e : xs.drop k = xs.getD k 0 :: xs.drop (k + 1) := by
      rw [List.drop_eq_getElem_cons (by omega)]; simp [List.getD, List.getElem?_eq_getElem (show k < xs.length by omega)]
    rw [e]
    show (rkTo xs k * (xs.length - k) + cnt (xs.getD k 0) (xs.drop (k + 1))) * fct (xs.length - (k + 1)) + rankR (xs.drop (k + 1)) = rkTo xs k * fct (xs.length - k) + (cnt (xs.getD k 0) (xs.drop (k + 1)) * fct (xs.drop (k + 1)).length + rankR (xs.drop (k + 1)))
    have e2 : fct (xs.length - k) = (xs.length - k) * fct (xs.length - (k + 1)) := by
      rw [show xs.length - k = (xs.length - (k + 1)) + 1 from by omega]; rfl
    rw [e2, List.length_drop, Nat.add_mul, Nat.mul_assoc]
    omega

theorem rkTo_all (xs : List Int) : rkTo xs xs.length = rankR xs := by
  have h := rkTo_rankR xs xs.length (Nat.le_refl _)
  rw [Nat.sub_self, List.drop_length] at h
  simpa [fct, rankR] using h

theorem cnt_perm {x : Int} {l m : List Int} (h : l.Perm m) : cnt x l = cnt x m := (h.filter _).length_eq

theorem cnt_erase {L : List Int} (hs : L.Pairwise (· < ·)) {q : Nat} (h : q < L.length) : cnt (L.getD q 0) (L.eraseIdx q) = q := by
  rw [show L.getD q 0 = L[q] from by simp [List.getD, List.getElem?_eq_getElem h]]
  have e : L = L.take q ++ L[q] :: L.drop (q + 1) := by rw [← List.drop_eq_getElem_cons h, List.take_append_drop]
  rw [List.eraseIdx_eq_take_drop_succ]
  have hp := hs
  rw [e, List.pairwise_append] at hp
  obtain ⟨_, hp2, hp3⟩ := hp
  have hp4 := (List.pairwise_cons.1 hp2).1
  unfold cnt
  rw [List.filter_append, List.length_append]
  have e1 : (L.take q).filter (fun y => decide (y < L[q])) = L.take q := List.filter_eq_self.2 (fun y hy => by simpa using hp3 y hy L[q] (List.mem_cons_self))
  have e2 : (L.drop (q + 1)).filter (fun y => decide (y < L[q])) = [] := List.filter_eq_nil_iff.2 (fun y hy => by have := hp4 y hy; simp; omega)
  rw [e1, e2, List.length_take]
  simp; omega

theorem rankR_atl : ∀ (m : Nat) (L : List Int) (k : Nat), L.length = m → L.Pairwise (· < ·) → k < fct m → rankR (atl m L k) = k
  | 0, L, k, hl, _, hk => by
    have : k = 0 := by have : fct 0 = 1 := rfl; omega
    rw [this]; rfl
  | m + 1, L, k, hl, hs, hk => by
    have hG := fct_pos m
    have hq : k / fct m < L.length := by rw [hl, Nat.div_lt_iff_lt_mul hG]; exact hk
    have hl' : (L.eraseIdx (k / fct m)).length = m := by rw [List.length_eraseIdx_of_lt hq]; omega
    have hr := Nat.mod_lt k hG
    have hp := atl_perm m (L.eraseIdx (k / fct m)) (k % fct m) hl' hr
    have ih := rankR_atl m (L.eraseIdx (k / fct m)) (k % fct m) hl' (hs.sublist (List.eraseIdx_sublist _ _)) hr
    show cnt (L.getD (k / fct m) 0) (atl m (L.eraseIdx (k / fct m)) (k % fct m)) * fct (atl m (L.eraseIdx (k / fct m)) (k % fct m)).length + rankR (atl m (L.eraseIdx (k / fct m)) (k % fct m)) = k
    rw [cnt_perm hp, cnt_erase hs hq, hp.length_eq, hl', ih, Nat.mul_comm]
    exact Nat.div_add_mod k (fct m)

theorem rank_rowAt {n k : Nat} (hk : k < fct n) : rkTo (rowAt n k) (rowAt n k).length = k := by
  rw [rkTo_all]; exact rankR_atl n (rnd n) k (rnd_length n) (rnd_sorted n) hk

/-! texts -/

theorem bl_sign {m : Nat} (hm : m < 12) : bl (UInt8.ofNat (sg m)) = m := by
  refine bl_of hm ?_
  have := sg_lt m
  rw [UInt8.toNat_ofNat']; omega

theorem isRow_lt12 {xs : List Int} (h : isRow xs) (h12 : xs.length ≤ 12) : ∀ x ∈ xs, 0 ≤ x ∧ x.toNat < 12 := fun x hx => by have := h.1 x hx; omega

theorem bells_txt {xs : List Int} (h : isRow xs) (h12 : xs.length ≤ 12) : bells (strOfNums (txt xs)).data.toList = xs := by
  rw [strOfNums_data]
  unfold bells txt
  rw [List.map_map, List.map_map]
  have hx := isRow_lt12 h h12
  conv => rhs; rw [← List.map_id xs]
  refine List.map_congr_left (fun x hm => ?_)
  have := hx x hm
  show ((bl (UInt8.ofNat ((sg x.toNat : Nat) : Int).toNat) : Nat) : Int) = x
  rw [Int.toNat_natCast, bl_sign this.2]
  omega

theorem txt_signs {xs : List Int} (h : isRow xs) (h12 : xs.length ≤ 12) : ∀ q, (hq : q < (strOfNums (txt xs)).size) → bl (strOfNums (txt xs))[q] < 12 := by
  intro q hq
  have hx := isRow_lt12 h h12
  have hm : (strOfNums (txt xs))[q] ∈ (strOfNums (txt xs)).data.toList := by
    exact Array.mem_toList_iff.2 (Array.getElem_mem (xs := (strOfNums (txt xs)).data) hq)
  rw [strOfNums_data] at hm
  obtain ⟨t, ht, e⟩ := List.mem_map.1 hm
  obtain ⟨x, hx', rfl⟩ := List.mem_map.1 ht
  rw [← e, Int.toNat_natCast, bl_sign (hx x hx').2]
  exact (hx x hx').2

/-! what undoes a row -/

theorem isRow_onto {a : List Int} (h : isRow a) {i : Nat} (hi : i < a.length) : ∃ j, j < a.length ∧ a.getD j 0 = (i : Int) := by
  apply Classical.byContradiction
  intro hn
  have hni : ¬ (i : Int) ∈ a := by
    intro hm
    obtain ⟨j, hj, e⟩ := List.getElem_of_mem hm
    exact hn ⟨j, hj, by simp [List.getD, List.getElem?_eq_getElem hj, e]⟩
  have hl := nodup_len ((i : Int) :: a) (rnd a.length) (List.nodup_cons.2 ⟨hni, h.2⟩) (fun x hx => by
    have hx' : 0 ≤ x ∧ x < a.length := by
      rcases List.mem_cons.1 hx with rfl | hx
      · omega
      · exact h.1 x hx
    exact List.mem_map.2 ⟨x.toNat, List.mem_range.2 (by omega), by omega⟩)
  rw [rnd_length] at hl
  simp at hl
  omega

theorem undoes_at {zs a : List Int} (ha : isRow a) (hz : Undoes zs a) {i : Nat} (hi : i < a.length) : ∃ j, j < a.length ∧ a.getD j 0 = (i : Int) ∧ zs.getD i 0 = (j : Int) := by
  obtain ⟨j, hj, e⟩ := isRow_onto ha hi
  have := hz.2 j hj
  rw [e, Int.toNat_natCast] at this
  exact ⟨j, hj, e, this⟩

theorem isRow_undoes {zs a : List Int} (ha : isRow a) (hz : Undoes zs a) : isRow zs := by
  constructor
  · intro y hy
    obtain ⟨i, hi, rfl⟩ := List.getElem_of_mem hy
    obtain ⟨j, hj, _, e⟩ := undoes_at ha hz (show i < a.length by rw [← hz.1]; exact hi)
    rw [show zs.getD i 0 = zs[i] from by simp [List.getD, List.getElem?_eq_getElem hi]] at e
    rw [e, hz.1]; omega
  · rw [List.nodup_iff_pairwise_ne, List.pairwise_iff_getElem]
    intro i j hi hj hij e
    obtain ⟨i', _, a1, e1⟩ := undoes_at ha hz (show i < a.length by rw [← hz.1]; exact hi)
    obtain ⟨j', _, a2, e2⟩ := undoes_at ha hz (show j < a.length by rw [← hz.1]; exact hj)
    rw [show zs.getD i 0 = zs[i] from by simp [List.getD, List.getElem?_eq_getElem hi]] at e1
    rw [show zs.getD j 0 = zs[j] from by simp [List.getD, List.getElem?_eq_getElem hj]] at e2
    rw [e1, e2] at e
    have : i' = j' := by omega
    subst this
    omega

theorem by_undoes {zs a : List Int} (ha : isRow a) (hz : Undoes zs a) : by_ a zs = rnd a.length := by
  refine eq_rnd (by rw [by_length, hz.1]) (fun i hi => ?_)
  obtain ⟨j, hj, a1, e⟩ := undoes_at ha hz hi
  rw [by_get (by rw [hz.1]; exact hi), e, Int.toNat_natCast, a1]

theorem by_assoc {x y z : List Int} (hz : isRow z) (hl : z.length = y.length) : by_ (by_ x y) z = by_ x (by_ y z) := by
  refine ext_getD (by rw [by_length, by_length, by_length]) (fun j hj => ?_)
  rw [by_length] at hj
  have h1 := hz.at hj
  rw [by_get (a := by_ x y) hj, by_get (a := x) (b := y) (by omega), by_get (a := x) (b := by_ y z) (by rw [by_length]; exact hj), by_get (a := y) hj]

end Go.Proofs.YtffnfchekbafmaaGreatDoor

/- Contracts of the answer's functions: RowMay, Undo, By. -/
namespace Go.Proofs.YtffnfchekbafmaaGreatDoor
open Go.RowKit

/-- How often b is in the list. -/
def occ (b : Int) (xs : List Int) : Nat := (xs.filter (fun y => y == b)).length

theorem occ_le (b : Int) (xs : List Int) : occ b xs ≤ xs.length := List.length_filter_le _ _

theorem occ_snoc (b y : Int) (xs : List Int) : occ b (xs ++ [y]) = occ b xs + if y = b then 1 else 0 := by
  unfold occ
  rw [List.filter_append, List.length_append]
  by_cases h : y = b <;> simp [h]

theorem perm_of_sub {α : Type} [DecidableEq α] : ∀ (l m : List α), l.Nodup → (∀ x ∈ l, x ∈ m) → l.length = m.length → l.Perm m := by
  intro l
  induction l with
  | nil => intro m _ _ hl; rw [List.length_eq_zero_iff.1 hl.symm]
  | cons a l ih =>
    intro m hn hs hl
    have ha : a ∈ m := hs a List.mem_cons_self
    have hn' := List.nodup_cons.1 hn
    have h1 := ih (m.erase a) hn'.2 (fun x hx => (List.mem_erase_of_ne (fun e => hn'.1 (by rw [← e]; exact hx))).2 (hs x (List.mem_cons_of_mem _ hx))) (by rw [List.length_erase_of_mem ha]; simp at hl; omega)
    exact (h1.cons a).trans (List.perm_cons_erase ha).symm

theorem occ_mem {b : Int} {xs : List Int} (h : occ b xs = 1) : b ∈ xs := by
  unfold occ at h
  have h1 : 0 < (xs.filter (fun y => y == b)).length := by omega
  obtain ⟨y, hy⟩ := List.exists_mem_of_length_pos h1
  have h2 := List.mem_filter.1 hy
  have e : y = b := by simpa using h2.2
  rw [← e]; exact h2.1

theorem row_of_occ {xs : List Int} (h : ∀ b, b < xs.length → occ (b : Int) xs = 1) : isRow xs := by
  have hp := perm_of_sub (rnd xs.length) xs (isRow_rnd _).2 (fun x hx => by
    obtain ⟨i, hi, rfl⟩ := List.mem_map.1 hx
    exact occ_mem (h i (List.mem_range.1 hi))) (rnd_length _)
  exact isRow_perm hp.symm (isRow_rnd _)

theorem occ_of_row {xs : List Int} (h : isRow xs) {b : Nat} (hb : b < xs.length) : occ (b : Int) xs = 1 := by
  obtain ⟨j, hj, e⟩ := isRow_onto h hb
  have hm : (b : Int) ∈ xs := by
    rw [← e, show xs.getD j 0 = xs[j] from by simp [List.getD, List.getElem?_eq_getElem hj]]
    exact List.getElem_mem hj
  have key : ∀ (l : List Int), l.Nodup → (b : Int) ∈ l → occ (b : Int) l = 1 := by
    intro l
    induction l with
    | nil => intro _ hm; cases hm
    | cons x l ih =>
      intro hn hm
      have hn' := List.nodup_cons.1 hn
      unfold occ
      by_cases e : x = (b : Int)
      · subst e
        rw [List.filter_cons_of_pos (by simp), List.filter_eq_nil_iff.2 (fun y hy => by
          intro h2
          have e2 : y = (b : Int) := by simpa using h2
          exact hn'.1 (e2 ▸ hy))]
        rfl
      · rw [List.filter_cons_of_neg (by simpa using e)]
        rcases List.mem_cons.1 hm with h2 | h2
        · exact absurd h2.symm e
        · exact ih hn'.2 h2
  exact key xs h.2 hm

theorem by_take_snoc (a b : List Int) (k m : Nat) (hk : k < b.length) (hm : b[k]?.getD 0 = (m : Int)) : by_ a (b.take (k + 1)) = by_ a (b.take k) ++ [a[m]?.getD 0] := by
  rw [take_snoc b k hk, hm]
  simp [by_, List.getD]

end Go.Proofs.YtffnfchekbafmaaGreatDoor

/- Contracts of the answer's functions: BellOf, SignOf, Text, ReadRow. -/
namespace Go.Proofs.YtffnfchekbafmaaGreatDoor
open Go.RowKit
set_option maxRecDepth 20000

theorem bl_none {b : UInt8} (h : ¬ bl b < 12) {m : Nat} (hm : m < 12) : sg m ≠ b.toNat := fun e => h (by rw [bl_of hm e]; exact hm)

theorem slice_sign (m : Nat) (hm : m < 12) (w : World) : (Instr.slice 9 (.string { data := #[49, 50, 51, 52, 53, 54, 55, 56, 57, 48, 69, 84] }) (some (.int .i64 (m : Int))) (some (.int .i64 ((m : Int) + 1))) none).run Tryz.prog w = .ok (.string (strOfNums [((sg m : Nat) : Int)])) w := by
  match m, hm with
  | 0, _ | 1, _ | 2, _ | 3, _ | 4, _ | 5, _ | 6, _ | 7, _ | 8, _ | 9, _ | 10, _ | 11, _ => rfl

theorem str_append (xs ys : List Int) : strOfNums xs ++ strOfNums ys = strOfNums (xs ++ ys) := by
  apply ByteArray.ext
  rw [ByteArray.data_append]
  simp [strOfNums]

/-- A byte of a text, as the index gives it. -/
theorem index_byte (s : ByteArray) (k : Nat) (hk : k < s.size) (w : World) : (Instr.index 9 (.string s) (.int .i64 (k : Int))).run Tryz.prog w = .ok (.int .u8 (((s[k]'hk).toNat : Nat) : Int)) w := by
  rw [run_index_string w 9 _ .i64 (k : Int) Tryz.underlying9, dif_pos ⟨by omega, by omega⟩]
  rfl

end Go.Proofs.YtffnfchekbafmaaGreatDoor

/- Plain: the runes of a text. -/
namespace Go.Proofs.YtffnfchekbafmaaGreatDoor
open Go.RowKit Go.Lib

/-- The runes of a text from a place on, at most so many. -/
def rns (s : ByteArray) : Nat → Nat → List Nat
  | 0, _ => []
  | f + 1, pos => if pos < s.size then (Utf8.decode s pos).1 :: rns s f (pos + (Utf8.decode s pos).2) else []

def runesOf (s : ByteArray) : List Nat := rns s s.size 0

theorem rns_length (s : ByteArray) : ∀ f pos, (rns s f pos).length ≤ f
  | 0, _ => by simp [rns]
  | f + 1, pos => by
    have ih := rns_length s f (pos + (Utf8.decode s pos).2)
    unfold rns
    split
    · simp; omega
    · simp

theorem runesOf_length (s : ByteArray) : (runesOf s).length ≤ s.size := rns_length s _ _

/-- Runes up to a place, and the rest. -/
def RunesTo (s : ByteArray) (pre : List Nat) (pos : Nat) : Prop := ∃ f, s.size - pos ≤ f ∧ runesOf s = pre ++ rns s f pos

theorem runesTo_start (s : ByteArray) : RunesTo s [] 0 := ⟨s.size, by omega, rfl⟩

theorem RunesTo.next {s : ByteArray} {pre : List Nat} {pos : Nat} (h : RunesTo s pre pos) (hp : pos < s.size) : RunesTo s (pre ++ [(Utf8.decode s pos).1]) (pos + (Utf8.decode s pos).2) := by
  obtain ⟨f, hf, e⟩ := h
  have hw := decode_width_pos s pos hp
  match f, hf, e with
  | 0, hf, _ => omega
  | f + 1, hf, e =>
    refine ⟨f, by omega, ?_⟩
    rw [e, rns, if_pos hp, List.append_assoc, List.singleton_append]

theorem RunesTo.done {s : ByteArray} {pre : List Nat} {pos : Nat} (h : RunesTo s pre pos) (hp : ¬ pos < s.size) : runesOf s = pre := by
  obtain ⟨f, hf, e⟩ := h
  rw [e]
  cases f with
  | zero => simp [rns]
  | succ f => rw [rns, if_neg hp, List.append_nil]

theorem RunesTo.mem {s : ByteArray} {pre : List Nat} {pos : Nat} (h : RunesTo s pre pos) (hp : pos < s.size) : (Utf8.decode s pos).1 ∈ runesOf s ∧ pre.length < s.size := by
  obtain ⟨f, hf, e⟩ := h.next hp
  constructor
  · rw [e]; simp
  · have := runesOf_length s
    rw [e] at this
    simp at this
    omega

theorem decode_le (s : ByteArray) (pos : Nat) : (Utf8.decode s pos).1 ≤ 1114111 := by
  rw [decode_at]
  have h0 : (s.get! pos).toNat < 256 := UInt8.toNat_lt _
  unfold decodeN
  repeat' split
  all_goals simp only
  all_goals omega

end Go.Proofs.YtffnfchekbafmaaGreatDoor

/- Contracts: ofName, Name of package method, at every text. -/
namespace Go.Proofs.YtffnfchekbafmaaGreatDoor
open Go.RowKit Go.Lib

/-- May a rune be in a name? -/
def ofn (r : Nat) : Bool := decide (65 ≤ r ∧ r ≤ 90 ∨ 97 ≤ r ∧ r ≤ 122 ∨ 48 ≤ r ∧ r ≤ 57 ∨ r = 32 ∨ (192 ≤ r ∧ r ≤ 382 ∧ r ≠ 215 ∧ r ≠ 247))

set_option maxRecDepth 20000 in
set_option maxHeartbeats 4000000 in
theorem ofName_any (r : Nat) (w : World) (hr : r ≤ 1114111) : Calls Tryz.prog 67 #[.int .i32 r] w fun e w' => e = .returned (.bool (ofn r)) ∧ w = w' := by
  have hcase : r < 32 ∨ r = 32 ∨ (33 ≤ r ∧ r ≤ 47) ∨ (48 ≤ r ∧ r ≤ 57) ∨ (58 ≤ r ∧ r ≤ 64) ∨ (65 ≤ r ∧ r ≤ 90) ∨ (91 ≤ r ∧ r ≤ 96) ∨ (97 ≤ r ∧ r ≤ 122) ∨ (123 ≤ r ∧ r ≤ 191) ∨ (192 ≤ r ∧ r ≤ 214) ∨ r = 215 ∨ (216 ≤ r ∧ r ≤ 246) ∨ r = 247 ∨ (248 ≤ r ∧ r ≤ 382) ∨ 383 ≤ r := by omega
  rcases hcase with h | h | ⟨h1, h2⟩ | ⟨h1, h2⟩ | ⟨h1, h2⟩ | ⟨h1, h2⟩ | ⟨h1, h2⟩ | ⟨h1, h2⟩ | ⟨h1, h2⟩ | ⟨h1, h2⟩ | h | ⟨h1, h2⟩ | h | ⟨h1, h2⟩ | h
  · have hb : Hid (ofn r = false) := by show _ = _; unfold ofn; exact decide_eq_false (by omega)
    have e32 : ((r : Int) == 32) = false := by rw [beq_eq_false_iff_ne]; omega
    have e215 : ((r : Int) == 215) = false := by rw [beq_eq_false_iff_ne]; omega
    have e247 : ((r : Int) == 247) = false := by rw [beq_eq_false_iff_ne]; omega
    go_enter Tryz.func67, Tryz.ntmps67
    go_wp2
    go_ret
    exact ⟨ret_bool (by first | exact hb.out.symm | (rw [hb.out]; exact decide_eq_true (by omega)) | (rw [hb.out]; exact decide_eq_false (by omega))), rfl⟩
  · have hb : Hid (ofn r = true) := by show _ = _; unfold ofn; exact decide_eq_true (by omega)
    subst h
    go_enter Tryz.func67, Tryz.ntmps67
    go_wp2
    go_ret
    exact ⟨ret_bool (by first | exact hb.out.symm | (rw [hb.out]; exact decide_eq_true (by omega)) | (rw [hb.out]; exact decide_eq_false (by omega))), rfl⟩
  · have hb : Hid (ofn r = false) := by show _ = _; unfold ofn; exact decide_eq_false (by omega)
    have e32 : ((r : Int) == 32) = false := by rw [beq_eq_false_iff_ne]; omega
    have e215 : ((r : Int) == 215) = false := by rw [beq_eq_false_iff_ne]; omega
    have e247 : ((r : Int) == 247) = false := by rw [beq_eq_false_iff_ne]; omega
    go_enter Tryz.func67, Tryz.ntmps67
    go_wp2
    go_ret
    exact ⟨ret_bool (by first | exact hb.out.symm | (rw [hb.out]; exact decide_eq_true (by omega)) | (rw [hb.out]; exact decide_eq_false (by omega))), rfl⟩
  · have hb : Hid (ofn r = true) := by show _ = _; unfold ofn; exact decide_eq_true (by omega)
    have e32 : ((r : Int) == 32) = false := by rw [beq_eq_false_iff_ne]; omega
    have e215 : ((r : Int) == 215) = false := by rw [beq_eq_false_iff_ne]; omega
    have e247 : ((r : Int) == 247) = false := by rw [beq_eq_false_iff_ne]; omega
    go_enter Tryz.func67, Tryz.ntmps67
    go_wp2
    go_ret
    exact ⟨ret_bool (by first | exact hb.out.symm | (rw [hb.out]; exact decide_eq_true (by omega)) | (rw [hb.out]; exact decide_eq_false (by omega))), rfl⟩
  · have hb : Hid (ofn r = false) := by show _ = _; unfold ofn; exact decide_eq_false (by omega)
    have e32 : ((r : Int) == 32) = false := by rw [beq_eq_false_iff_ne]; omega
    have e215 : ((r : Int) == 215) = false := by rw [beq_eq_false_iff_ne]; omega
    have e247 : ((r : Int) == 247) = false := by rw [beq_eq_false_iff_ne]; omega
    go_enter Tryz.func67, Tryz.ntmps67
    go_wp2
    go_ret
    exact ⟨ret_bool (by first | exact hb.out.symm | (rw [hb.out]; exact decide_eq_true (by omega)) | (rw [hb.out]; exact decide_eq_false (by omega))), rfl⟩
  · have hb : Hid (ofn r = true) := by show _ = _; unfold ofn; exact decide_eq_true (by omega)
    have e32 : ((r : Int) == 32) = false := by rw [beq_eq_false_iff_ne]; omega
    have e215 : ((r : Int) == 215) = false := by rw [beq_eq_false_iff_ne]; omega
    have e247 : ((r : Int) == 247) = false := by rw [beq_eq_false_iff_ne]; omega
    go_enter Tryz.func67, Tryz.ntmps67
    go_wp2
    go_ret
    exact ⟨ret_bool (by first | exact hb.out.symm | (rw [hb.out]; exact decide_eq_true (by omega)) | (rw [hb.out]; exact decide_eq_false (by omega))), rfl⟩
  · have hb : Hid (ofn r = false) := by show _ = _; unfold ofn; exact decide_eq_false (by omega)
    have e32 : ((r : Int) == 32) = false := by rw [beq_eq_false_iff_ne]; omega
    have e215 : ((r : Int) == 215) = false := by rw [beq_eq_false_iff_ne]; omega
    have e247 : ((r : Int) == 247) = false := by rw [beq_eq_false_iff_ne]; omega
    go_enter Tryz.func67, Tryz.ntmps67
    go_wp2
    go_ret
    exact ⟨ret_bool (by first | exact hb.out.symm | (rw [hb.out]; exact decide_eq_true (by omega)) | (rw [hb.out]; exact decide_eq_false (by omega))), rfl⟩
  · have hb : Hid (ofn r = true) := by show _ = _; unfold ofn; exact decide_eq_true (by omega)
    have e32 : ((r : Int) == 32) = false := by rw [beq_eq_false_iff_ne]; omega
    have e215 : ((r : Int) == 215) = false := by rw [beq_eq_false_iff_ne]; omega
    have e247 : ((r : Int) == 247) = false := by rw [beq_eq_false_iff_ne]; omega
    go_enter Tryz.func67, Tryz.ntmps67
    go_wp2
    go_ret
    exact ⟨ret_bool (by first | exact hb.out.symm | (rw [hb.out]; exact decide_eq_true (by omega)) | (rw [hb.out]; exact decide_eq_false (by omega))), rfl⟩
  · have hb : Hid (ofn r = false) := by show _ = _; unfold ofn; exact decide_eq_false (by omega)
    have e32 : ((r : Int) == 32) = false := by rw [beq_eq_false_iff_ne]; omega
    have e215 : ((r : Int) == 215) = false := by rw [beq_eq_false_iff_ne]; omega
    have e247 : ((r : Int) == 247) = false := by rw [beq_eq_false_iff_ne]; omega
    go_enter Tryz.func67, Tryz.ntmps67
    go_wp2
    go_ret
    exact ⟨ret_bool (by first | exact hb.out.symm | (rw [hb.out]; exact decide_eq_true (by omega)) | (rw [hb.out]; exact decide_eq_false (by omega))), rfl⟩
  · have hb : Hid (ofn r = true) := by show _ = _; unfold ofn; exact decide_eq_true (by omega)
    have e32 : ((r : Int) == 32) = false := by rw [beq_eq_false_iff_ne]; omega
    have e215 : ((r : Int) == 215) = false := by rw [beq_eq_false_iff_ne]; omega
    have e247 : ((r : Int) == 247) = false := by rw [beq_eq_false_iff_ne]; omega
    go_enter Tryz.func67, Tryz.ntmps67
    go_wp2
    go_ret
    exact ⟨ret_bool (by first | exact hb.out.symm | (rw [hb.out]; exact decide_eq_true (by omega)) | (rw [hb.out]; exact decide_eq_false (by omega))), rfl⟩
  · have hb : Hid (ofn r = false) := by show _ = _; unfold ofn; exact decide_eq_false (by omega)
    subst h
    go_enter Tryz.func67, Tryz.ntmps67
    go_wp2
    go_ret
    exact ⟨ret_bool (by first | exact hb.out.symm | (rw [hb.out]; exact decide_eq_true (by omega)) | (rw [hb.out]; exact decide_eq_false (by omega))), rfl⟩
  · have hb : Hid (ofn r = true) := by show _ = _; unfold ofn; exact decide_eq_true (by omega)
    have e32 : ((r : Int) == 32) = false := by rw [beq_eq_false_iff_ne]; omega
    have e215 : ((r : Int) == 215) = false := by rw [beq_eq_false_iff_ne]; omega
    have e247 : ((r : Int) == 247) = false := by rw [beq_eq_false_iff_ne]; omega
    go_enter Tryz.func67, Tryz.ntmps67
    go_wp2
    go_ret
    exact ⟨ret_bool (by first | exact hb.out.symm | (rw [hb.out]; exact decide_eq_true (by omega)) | (rw [hb.out]; exact decide_eq_false (by omega))), rfl⟩
  · have hb : Hid (ofn r = false) := by show _ = _; unfold ofn; exact decide_eq_false (by omega)
    subst h
    go_enter Tryz.func67, Tryz.ntmps67
    go_wp2
    go_ret
    exact ⟨ret_bool (by first | exact hb.out.symm | (rw [hb.out]; exact decide_eq_true (by omega)) | (rw [hb.out]; exact decide_eq_false (by omega))), rfl⟩
  · have hb : Hid (ofn r = true) := by show _ = _; unfold ofn; exact decide_eq_true (by omega)
    have e32 : ((r : Int) == 32) = false := by rw [beq_eq_false_iff_ne]; omega
    have e215 : ((r : Int) == 215) = false := by rw [beq_eq_false_iff_ne]; omega
    have e247 : ((r : Int) == 247) = false := by rw [beq_eq_false_iff_ne]; omega
    go_enter Tryz.func67, Tryz.ntmps67
    go_wp2
    go_ret
    exact ⟨ret_bool (by first | exact hb.out.symm | (rw [hb.out]; exact decide_eq_true (by omega)) | (rw [hb.out]; exact decide_eq_false (by omega))), rfl⟩
  · have hb : Hid (ofn r = false) := by show _ = _; unfold ofn; exact decide_eq_false (by omega)
    have e32 : ((r : Int) == 32) = false := by rw [beq_eq_false_iff_ne]; omega
    have e215 : ((r : Int) == 215) = false := by rw [beq_eq_false_iff_ne]; omega
    have e247 : ((r : Int) == 247) = false := by rw [beq_eq_false_iff_ne]; omega
    go_enter Tryz.func67, Tryz.ntmps67
    go_wp2
    go_ret
    exact ⟨ret_bool (by first | exact hb.out.symm | (rw [hb.out]; exact decide_eq_true (by omega)) | (rw [hb.out]; exact decide_eq_false (by omega))), rfl⟩

/-- The k-th byte; 0 beyond. -/
def bt (s : ByteArray) (k : Nat) : Nat := ((s.data.toList[k]?).getD 0).toNat

theorem bt_get {s : ByteArray} {k : Nat} (h : k < s.size) : (s[k]'h).toNat = bt s k := by
  have h' : k < s.data.toList.length := by rw [Array.length_toList]; exact h
  unfold bt
  rw [List.getElem?_eq_getElem h', Option.getD_some]
  rfl

theorem bt_lt (s : ByteArray) (k : Nat) : bt s k < 256 := by unfold bt; exact UInt8.toNat_lt _

/-- Is it a name? -/
def nm (s : ByteArray) : Bool := (runesOf s).all ofn && decide (1 ≤ (runesOf s).length ∧ (runesOf s).length ≤ 20 ∧ bt s 0 ≠ 32 ∧ bt s (s.size - 1) ≠ 32)

theorem nm_bad {s : ByteArray} {r : Nat} (h : r ∈ runesOf s) (hr : ofn r = false) : nm s = false := by
  unfold nm
  rw [show (runesOf s).all ofn = false from by rw [List.all_eq_false]; exact ⟨r, h, by simp [hr]⟩]
  rfl

structure NameRel (w wr : World) (s : ByteArray) (pre : List Nat) (pos : Nat) : Prop where
  iter : wr.heap[w.heap.size]? = some (.stringIter s pos)
  rto : RunesTo s pre pos
  all : pre.all ofn = true
  size : w.heap.size < wr.heap.size
  below : Below w.heap.size w wr
set_option maxRecDepth 20000 in
set_option maxHeartbeats 4000000 in
theorem name_any (s : ByteArray) (w : World) (hs : s.size ≤ 9223372036854775807) :
    Calls Tryz.prog 50 #[.string s] w fun e w' => e = .returned (.bool (nm s)) ∧ Below w.heap.size w w' := by
  go_enter Tryz.func50, Tryz.ntmps50
  go_wp2
  go_loopw [3] (fun c wr => ∃ pos pre, c = .int .i64 ((pre.length : Nat) : Int) ∧ NameRel w wr s pre pos) (fun _ wr => s.size - wr.iterPos w.heap.size)
  case atStart => exact ⟨0, [], rfl, ⟨World.iter_heap w s 0, runesTo_start s, rfl, by simp [World.iter], below_iter w s 0⟩⟩
  case round =>
    obtain ⟨pos, pre, rfl, hr⟩ := hrel
    by_cases hp : pos < s.size
    · have hnx : ∀ ty, (Instr.next (.pointer (some ⟨w.heap.size, 0, none⟩)) true ty).run Tryz.prog wr = .ok (.tuple #[.bool true, .int .i64 (pos : Int), .int .i32 (((Utf8.decode s pos).1 : Nat) : Int)]) (wr.iterAt w.heap.size s (pos + (Utf8.decode s pos).2)) := by
        intro ty
        exact run_next_any_at wr w.heap.size s pos ty hr.iter hp
      have hmem := hr.rto.mem hp
      have HO := hide (ofName_any (Utf8.decode s pos).1 (wr.iterAt w.heap.size s (pos + (Utf8.decode s pos).2)) (decode_le s pos))
      have HIt := hide (iterAt_heap wr w.heap.size s pos (pos + (Utf8.decode s pos).2) hr.iter)
      have HTo := hide (hr.rto.next hp)
      have HI := hide (iterPos_of hr.iter)
      have hbw := hide (below_iterAt hr.below (Nat.le_refl _) s (pos + (Utf8.decode s pos).2))
      have HA := hide hr.all
      have HSz : Hid (w.heap.size < (wr.iterAt w.heap.size s (pos + (Utf8.decode s pos).2)).heap.size) := by show _ < _; rw [iterAt_size]; exact hr.size
      have HW := hide (decode_width_pos s pos hp)
      have hc := hmem.2
      have HM := hide hmem.1
      clear hmem hr
      generalize (Utf8.decode s pos).1 = r at *
      generalize (Utf8.decode s pos).2 = n at *
      cases ho : ofn r with
      | false =>
        have HNM := hide (nm_bad HM.out ho)
        rw [ho] at HO
        clear ho
        go_wp2_with fail
        refine HO.out.mono ?_
        rintro e w' ⟨rfl, rfl⟩
        go_wp2
        go_ret
        exact ⟨ret_bool HNM.out.symm, hbw.out⟩
      | true =>
        rw [ho] at HO
        have HAA : Hid ((pre ++ [r]).all ofn = true) := by show _ = _; rw [List.all_append, HA.out]; simp [ho]
        clear ho
        go_wp2_with fail
        refine HO.out.mono ?_
        rintro e w' ⟨rfl, rfl⟩
        go_wp2
        go_roundw
        case rel => exact ⟨pos + n, pre ++ [r], by rw [List.length_append]; go_num, ⟨HIt.out, HTo.out, HAA.out, HSz.out, hbw.out⟩⟩
        case measure => rw [HI.out, iterPos_of HIt.out]; have := HW.out; omega
    · have hnx := fun ty => run_next_end_at (P := Tryz.prog) wr w.heap.size s pos ty hr.iter hp
      have HE := hide (hr.rto.done hp)
      have HA := hide hr.all
      have hbw := hr.below
      have hle := runesOf_length s
      rw [HE.out] at hle
      have HNM : Hid (nm s = decide (1 ≤ pre.length ∧ pre.length ≤ 20 ∧ bt s 0 ≠ 32 ∧ bt s (s.size - 1) ≠ 32)) := by
        show _ = _; unfold nm; rw [HE.out, HA.out, Bool.true_and]
      clear hr hp
      generalize pre.length = L at *
      by_cases c1 : 1 ≤ L
      · by_cases c2 : L ≤ 20
        · have hs0 : 0 < s.size := by omega
          have hs1 : s.size - 1 < s.size := by omega
          have hx1 := index_byte s (s.size - 1) hs1 wr
          rw [bt_get hs1] at hx1
          rw [show ((s.size - 1 : Nat) : Int) = (s.size : Int) - 1 from by omega] at hx1
          generalize bt s (s.size - 1) = b1 at *
          have hb0 := bt_get hs0
          generalize hq : (s[0]'hs0).toNat = b0 at *
          by_cases c3 : b0 = 32
          · have hv : Hid (nm s = false) := by show _ = _; rw [HNM.out]; exact decide_eq_false (by omega)
            have hn0 : (((s[0]'hs0).toNat : Int) != 32) = false := by rw [hq, c3]; rfl
            clear c3 hb0 hq
            go_wp2
            go_ret
            exact ⟨ret_bool hv.out.symm, hbw⟩
          · have hn0 : (((s[0]'hs0).toNat : Int) != 32) = true := by rw [hq, bne_iff_ne]; omega
            by_cases c4 : b1 = 32
            · have hv : Hid (nm s = false) := by show _ = _; rw [HNM.out]; exact decide_eq_false (by omega)
              subst c4
              clear c3 hb0 hq
              go_wp2
              go_ret
              exact ⟨ret_bool hv.out.symm, hbw⟩
            · have hv : Hid (nm s = true) := by show _ = _; rw [HNM.out]; exact decide_eq_true (by omega)
              have hn1 : ((b1 : Int) != 32) = true := by rw [bne_iff_ne]; omega
              clear c3 c4 hb0 hq
              go_wp2
              go_ret
              exact ⟨ret_bool hv.out.symm, hbw⟩
        · have hv : Hid (nm s = false) := by show _ = _; rw [HNM.out]; exact decide_eq_false (by omega)
          go_wp2
          go_ret
          exact ⟨ret_bool hv.out.symm, hbw⟩
      · have hv : Hid (nm s = false) := by show _ = _; rw [HNM.out]; exact decide_eq_false (by omega)
        go_wp2
        go_ret
        exact ⟨ret_bool hv.out.symm, hbw⟩

end Go.Proofs.YtffnfchekbafmaaGreatDoor
