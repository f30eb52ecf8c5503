/- Contract: cycleFrom. -/
import Derived.Test.YtgglbafcocbhbaaRank
namespace Go.Proofs.Ytgglbafcocbhbaa
open Go.RowKit

/-- From a bell to the next one. -/
def nx (r : List Int) (x : Nat) : Nat := (r.getD x 0).toNat

/-- k steps on. -/
def it (r : List Int) : Nat → Nat → Nat
  | 0, x => x
  | k + 1, x => nx r (it r k x)

/-- The first k bells of a cycle. -/
def orb (r : List Int) (x k : Nat) : List Int := (List.range k).map (fun i => ((it r i x : Nat) : Int))

/-- The cycle's length. -/
def per (r : List Int) (x : Nat) : Nat := ((List.range r.length).find? (fun q => it r (q + 1) x == x)).getD 0 + 1

theorem orb_length (r : List Int) (x k : Nat) : (orb r x k).length = k := by simp [orb]

theorem orb_snoc (r : List Int) (x k : Nat) : orb r x (k + 1) = orb r x k ++ [((it r k x : Nat) : Int)] := by simp [orb, List.range_succ]

theorem nx_lt {r : List Int} (h : isRow r) {x : Nat} (hx : x < r.length) : nx r x < r.length := by
  have := h.at hx
  unfold nx; omega

theorem it_lt {r : List Int} (h : isRow r) {x : Nat} (hx : x < r.length) (k : Nat) : it r k x < r.length := by
  induction k with
  | zero => exact hx
  | succ k ih => exact nx_lt h ih

theorem nx_inj {r : List Int} (h : isRow r) {x y : Nat} (hx : x < r.length) (hy : y < r.length) (e : nx r x = nx r y) : x = y := by
  have h1 := h.at hx
  have h2 := h.at hy
  unfold nx at e
  exact h.inj hx hy (by omega)

theorem it_add (r : List Int) (i j x : Nat) : it r (i + j) x = it r i (it r j x) := by
  induction i with
  | zero => simp [it]
  | succ i ih => rw [Nat.succ_add]; show nx r (it r (i + j) x) = nx r (it r i (it r j x)); rw [ih]

theorem it_inj {r : List Int} (h : isRow r) {x y : Nat} (hx : x < r.length) (hy : y < r.length) (k : Nat) (e : it r k x = it r k y) : x = y := by
  induction k with
  | zero => exact e
  | succ k ih => exact ih (nx_inj h (it_lt h hx k) (it_lt h hy k) e)

theorem nodup_len {α : Type} [DecidableEq α] : ∀ (l m : List α), l.Nodup → (∀ x ∈ l, x ∈ m) → l.length ≤ m.length
  | [], _, _, _ => Nat.zero_le _
  | a :: l, m, hn, hs => by
    have ha : a ∈ m := hs a (List.mem_cons_self)
    have hn' := List.nodup_cons.1 hn
    have h := nodup_len l (m.erase a) hn'.2 (fun x hx => (List.mem_erase_of_ne (fun e => hn'.1 (by rw [← e]; exact hx))).2 (hs x (List.mem_cons_of_mem _ hx)))
    rw [List.length_erase_of_mem ha] at h
    have h0 : 0 < m.length := List.length_pos_of_mem ha
    simp only [List.length_cons]
    omega

/-- Some step of the first n comes back. -/
theorem it_back {r : List Int} (h : isRow r) {x : Nat} (hx : x < r.length) : ∃ q, q < r.length ∧ it r (q + 1) x = x := by
  apply Classical.byContradiction
  intro hn
  have hne : ∀ q, q < r.length → it r (q + 1) x ≠ x := fun q hq e => hn ⟨q, hq, e⟩
  have hd : ((List.range (r.length + 1)).map (fun i => it r i x)).Nodup := by
    rw [List.nodup_iff_pairwise_ne, List.pairwise_map]
    refine List.Pairwise.imp_of_mem ?_ (List.pairwise_lt_range (n := r.length + 1))
    intro i j hi hj hij e
    rw [List.mem_range] at hi hj
    have e1 : it r j x = it r i (it r (j - i) x) := by rw [← it_add, show i + (j - i) = j from by omega]
    rw [e1] at e
    have e2 := it_inj h hx (it_lt h hx (j - i)) i e
    exact hne (j - i - 1) (by omega) (by rw [show j - i - 1 + 1 = j - i from by omega]; exact e2.symm)
  have hl := nodup_len _ (List.range r.length) hd (fun y hy => by
    obtain ⟨i, _, rfl⟩ := List.mem_map.1 hy
    exact List.mem_range.2 (it_lt h hx i))
  simp at hl
  omega

theorem per_spec {r : List Int} (h : isRow r) {x : Nat} (hx : x < r.length) : 1 ≤ per r x ∧ per r x ≤ r.length ∧ it r (per r x) x = x ∧ ∀ q, 1 ≤ q → q < per r x → it r q x ≠ x := by
  unfold per
  cases hf : (List.range r.length).find? (fun q => it r (q + 1) x == x) with
  | none =>
    obtain ⟨q, hq, e⟩ := it_back h hx
    have := List.find?_eq_none.1 hf q (List.mem_range.2 hq)
    simp [e] at this
  | some p =>
    rw [Option.getD_some]
    obtain ⟨h1, l1, l2, h2, h3⟩ := List.find?_eq_some_iff_append.1 hf
    have hlen : l1.length = p := by
      have hp : (List.range r.length)[l1.length]? = some p := by rw [h2]; simp
      rw [List.getElem?_range] at hp
      · exact Option.some.inj hp
      · have := congrArg List.length h2; simp at this; omega
    have hp : p < r.length := by have := congrArg List.length h2; simp at this; omega
    refine ⟨by omega, by omega, by simpa using h1, fun q hq1 hq2 => ?_⟩
    have hm : (q - 1) ∈ l1 := by
      have h4 : (List.range r.length)[q - 1]? = some (q - 1) := by rw [List.getElem?_range (by omega)]
      rw [h2, List.getElem?_append_left (by omega)] at h4
      exact List.mem_of_getElem? h4
    have := h3 _ hm
    rw [show q - 1 + 1 = q from by omega] at this
    simpa using this

def sliceLen : Value → Nat
  | .slice _ n _ => n
  | _ => 0

theorem owns_len {w : World} {base e n : Nat} {v : Value} {xs : List Value} (h : w.ownsRow base e 1 v n xs) : sliceLen v = n := by
  rcases h.2 with ⟨rfl, h0⟩ | ⟨g, cap, cur, rfl, _⟩
  · rw [h0]; rfl
  · rfl

theorem owns_base {w : World} {base base' e n : Nat} {v : Value} {xs : List Value} (h : w.ownsRow base e 1 v n xs) (hb : base' ≤ base) : w.ownsRow base' e 1 v n xs := by
  obtain ⟨h1, h2⟩ := h
  refine ⟨h1, ?_⟩
  rcases h2 with h2 | ⟨g, cap, cur, hv, hg, r⟩
  · exact Or.inl h2
  · exact Or.inr ⟨g, cap, cur, hv, Nat.le_trans hb hg, r⟩

theorem one_owned (w : World) (x : Int) : (w.alloc (.cells #[.int .i64 x] 3)).ownsRow w.heap.size 3 1 (.slice (some ⟨w.heap.size, 0, none⟩) 1 1) 1 ([x].map (Value.int .i64)) :=
  ⟨by simp, Or.inr ⟨w.heap.size, 1, #[.int .i64 x], rfl, Nat.le_refl _, heap_alloc_new w _, Nat.le_refl _, by decide, by simp, by simp⟩⟩

set_option maxRecDepth 20000 in
set_option maxHeartbeats 1000000 in
theorem cycleFrom_ok (v1 : Value) (a : List Int) (x : Nat) (w : World) (i1 : Ints w v1 a) (r1 : isRow a) (n2 : a.length ≤ 12) (hx : x < a.length) :
    Calls Try.prog 40 #[v1, .int .i64 x] w fun e w' => ∃ v, e = .returned v ∧ w'.ownsRow w.heap.size 3 1 v (per a x) ((orb a x (per a x)).map (Value.int .i64)) ∧ Below w.heap.size w w' := by
  obtain ⟨i0, hi, hz0, hz1, hz2⟩ := info_parts Try.info3
  obtain ⟨p1, p2, p3, p4⟩ := per_spec r1 hx
  generalize per a x = p at p1 p2 p3 p4 ⊢
  have P3 := hide p3
  have P4 := hide p4
  have R1 := hide r1
  clear p3 p4 r1
  rcases i1 with ⟨rfl, q, c, rfl⟩ | ⟨b1, o1, cap1, rfl, h01, hcp1, hm1, hb1, hcell1⟩
  · simp at hx
  have hnx : ∀ y, y < a.length → a.getD y 0 = ((nx a y : Nat) : Int) := fun y hy => by
    have := R1.out.at hy
    unfold nx; omega
  obtain ⟨y, hy, hcy⟩ := cellAt hcell1 hx
  have hyx : y = ((it a 1 x : Nat) : Int) := hy.out.symm.trans (hnx x hx)
  rw [hyx] at hcy
  clear hyx hy
  have HNX := hide hnx
  have HCell := hide hcell1
  clear hnx hcell1
  go_enter Try.func40, Try.ntmps40
  go_wp2
  go_loopw [5, 6] (fun v bell wr => ∃ (k y : Nat), 1 ≤ k ∧ k ≤ p ∧ Hid (it a k x = y) ∧ y < a.length ∧ bell = .int .i64 (y : Int) ∧ wr.ownsRow w.heap.size 3 1 v k ((orb a x k).map (Value.int .i64)) ∧ Below w.heap.size w wr) (fun v _ _ => p - sliceLen v)
  case atStart => exact ⟨1, it a 1 x, by omega, p1, rfl, it_lt R1.out hx 1, rfl, one_owned w x, (Below.refl _ _).alloc (Nat.le_refl _) _⟩
  case round =>
    obtain ⟨k, y, hk1, hk2, hyk, hya, rfl, hown, hbw⟩ := hrel
    by_cases hlt : k < p
    · have hne : (((y : Nat) : Int) != ((x : Nat) : Int)) = true := by
        have := P4.out k hk1 hlt
        rw [hyk.out] at this
        rw [bne_iff_ne]; omega
      have hbs := hbw.size
      have hsl := hide (owns_len hown)
      have gy : wr.cell? ⟨b1, o1 + y, none⟩ = some (.int .i64 ((nx a y : Nat) : Int)) := (hbw.cell (by exact hb1)).trans ((HCell.out y hya).trans (by rw [HNX.out y hya]))
      go_wp2_with (at_builtin; refine wpList_append_own _ rfl _ _ 22 rfl w.heap.size 3 i0 (.int .i64 0) 1 8 Try.underlying22 hi hz0 hz1 hz2 rfl (by decide) _ _ _ rfl (hown.alloc _) ⟨wr.heap.size, 0, none⟩ 1 1 [.int .i64 (y : Int)] rfl rfl ?c1 ?c2 ?c3 ?c4 ?c5 ?_)
      case c1 => exact cell_one_new _ _ _
      case c2 => intro u hu; simp at hu; subst hu; rfl
      case c3 => unfold maxLen; omega
      case c4 => omega
      case c5 => simp; omega
      · intro v' w1 hown' hgrow _
        have hB1 : Below w.heap.size w w1 := (hbw.alloc hbw.size _).grown hgrow (by simp; omega) (fun g hg => (hown.lt g hg).1)
        have gy1 : w1.cell? ⟨b1, o1 + y, none⟩ = some (.int .i64 ((nx a y : Nat) : Int)) := (hB1.cell (by exact hb1)).trans ((hbw.cell (by exact hb1)).symm.trans gy)
        have hsl' := hide (owns_len hown')
        clear gy
        go_wp2
        go_roundw
        case rel => exact ⟨k + 1, nx a y, by omega, by omega, by show nx a (it a k x) = _; rw [hyk.out], nx_lt R1.out hya, rfl, by rw [orb_snoc, List.map_append, hyk.out]; exact hown', hB1⟩
        case measure => rw [hsl.out, hsl'.out]; omega
    · obtain rfl : k = p := by omega
      have hne : (((y : Nat) : Int) != ((x : Nat) : Int)) = false := by
        have := P3.out
        rw [hyk.out] at this
        rw [this]; simp
      go_wp2
      go_ret
      exact ⟨_, rfl, hown, hbw⟩

end Go.Proofs.Ytgglbafcocbhbaa
