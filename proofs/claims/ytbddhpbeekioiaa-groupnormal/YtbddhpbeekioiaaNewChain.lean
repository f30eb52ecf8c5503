/- Contract: newChain (bases in order). -/
import Derived.Test.YtbddhpbeekioiaaChain
namespace Go.Proofs.Ytbddhpbeekioiaa
open Go.RowKit

/-! a chain of no generators -/

def lk0 (b : Nat) : Lk := ⟨b, [(b, 1)], []⟩

theorem prd_lk0 (bs : List Nat) (p : Pm) : Prd (bs.map lk0) p ↔ p = 1 := by
  induction bs generalizing p with
  | nil => exact Iff.rfl
  | cons b bs ih =>
    constructor
    · rintro ⟨e, he, h, hh, rfl⟩
      rw [List.mem_singleton.1 he, (ih h).1 hh]
      exact Pm.one_mul 1
    · intro hp
      exact ⟨(b, 1), List.mem_singleton.2 rfl, 1, (ih 1).2 rfl, by rw [hp, Pm.one_mul]⟩

theorem gen_none {p : Pm} (h : Gen (fun x => x ∈ ([] : List Pm)) p) : p = 1 := by
  induction h with
  | one => rfl
  | mul hs _ _ => cases hs

theorem whole_lk0 (bs : List Nat) (F : Nat → Prop) (h : ∀ b, b < 12 → F b ∨ b ∈ bs) : Whole F (bs.map lk0) := by
  induction bs generalizing F with
  | nil => exact fun b hb => (h b hb).resolve_right (by simp)
  | cons b bs ih =>
    refine ⟨⟨by simp [lk0], fun e he => ?_, List.mem_singleton.2 rfl, fun e he => ?_⟩, ih _ (fun x hx => ?_), fun p => ?_⟩
    · rw [List.mem_singleton.1 he]; exact Pm.act_one b
    · rw [List.mem_singleton.1 he]; exact (fixes_sub F).one
    · rcases h x hx with h1 | h1
      · exact Or.inl (Or.inl h1)
      · rcases List.mem_cons.1 h1 with rfl | h1
        · exact Or.inl (Or.inr rfl)
        · exact Or.inr h1
    · rw [show lk0 b :: bs.map lk0 = (b :: bs).map lk0 from rfl, prd_lk0]
      exact ⟨fun e => by rw [e]; exact Gen.one, gen_none⟩

/-! the links, as they are laid one behind the other -/

structure PreAt (w : World) (B g n : Nat) (R : List Raw) (st : Nat → St) : Prop where
  obj : ∃ cs, w.heap[g]? = some (.cells cs 122) ∧ cs.size = 4 * n
  gB : B ≤ g
  link : ∀ j r, R[j]? = some r → LinkAt w B g j r (st j)
  mdis : ∀ i j, i < R.length → j < R.length → i ≠ j → (st i).m ≠ (st j).m
  bdis : ∀ i j, i < R.length → j < R.length → i ≠ j → ∀ b, (st i).vb.ownBlock = some b → (st j).vb.ownBlock ≠ some b
  gdis : ∀ i j, i < R.length → j < R.length → i ≠ j → ∀ b, (st i).vg.ownBlock = some b → (st j).vg.ownBlock ≠ some b

theorem PreAt.all {w : World} {B g n : Nat} {R : List Raw} {st : Nat → St} (h : PreAt w B g n R st) (hn : R.length = n) : ChainAt w B g R st :=
  ⟨by rw [hn]; exact h.obj, h.gB, h.link, h.mdis, h.bdis, h.gdis⟩

theorem obj_setCells (g T : Nat) : ∀ (vs : List Value) (o : Nat) (w : World) (cs : Array Value), w.heap[g]? = some (.cells cs T) → ∃ cs', (w.setCells g o vs).heap[g]? = some (.cells cs' T) ∧ cs'.size = cs.size
  | [], _, _, cs, h => ⟨cs, h, rfl⟩
  | v :: r, o, w, cs, h => by
    obtain ⟨c1, h1, h2⟩ := obj_setCell (x := o) v h
    obtain ⟨c2, h3, h4⟩ := obj_setCells g T r (o + 1) _ c1 h1
    exact ⟨c2, by rw [World.setCells]; exact h3, by rw [h4, h2]⟩

theorem there_obj {w : World} {g T N : Nat} {cs : Array Value} (h : w.heap[g]? = some (.cells cs T)) (hs : cs.size = N) (o k : Nat) (hk : o + k ≤ N) : w.there g o k := fun j hj => by
  constructor
  · rw [cell_of_row w g (o + j) cs T (0, 0) h, Array.getElem?_eq_getElem (by omega)]; rfl
  · simp [World.frozen?, h]

set_option maxHeartbeats 1000000 in
theorem PreAt.step {w w1 : World} {B g n m vbb : Nat} {R : List Raw} {st : Nat → St} {base : Nat} (h : PreAt w B g n R st) (hj : R.length < n) (hb : Below w.heap.size w w1) (hm : IMap w1 m 1 (tabF [(base, (1 : Pm))])) (hmB : B ≤ m) (hml : w.heap.size ≤ m)
    (hv : w1.ownsRow B 3 1 (.slice (some ⟨vbb, 0, none⟩) 1 1) 1 [.int .i64 (base : Int)]) (hvl : w.heap.size ≤ vbb) :
    PreAt (w1.setCells g (R.length * 4) [.int .i64 (base : Int), .map (some m), .slice (some ⟨vbb, 0, none⟩) 1 1, .slice none 0 0]) B g n (R ++ [rawOf (lk0 base)]) (updS st R.length ⟨m, .slice (some ⟨vbb, 0, none⟩) 1 1, .slice none 0 0⟩) := by
  obtain ⟨cs, ho, hos⟩ := h.obj
  have hgl : g < w.heap.size := (Array.getElem?_eq_some_iff.1 ho).1
  have ho1 : w1.heap[g]? = some (.cells cs 122) := (hb.block g hgl).trans ho
  have hth : w1.there g (R.length * 4) 4 := there_obj ho1 hos _ _ (by omega)
  have hne : ∀ x, x ≠ g → (w1.setCells g (R.length * 4) [.int .i64 (base : Int), .map (some m), .slice (some ⟨vbb, 0, none⟩) 1 1, .slice none 0 0]).heap[x]? = w1.heap[x]? := fun x hx => heap_setCells_ne g _ _ _ x hx
  have hin := World.rangeAt_setCells_same w1 g (R.length * 4) [.int .i64 (base : Int), .map (some m), .slice (some ⟨vbb, 0, none⟩) 1 1, .slice none 0 0] hth
  have e4 : R.length * 4 = 4 * R.length := Nat.mul_comm _ _
  generalize hW2 : w1.setCells g (R.length * 4) [.int .i64 (base : Int), .map (some m), .slice (some ⟨vbb, 0, none⟩) 1 1, .slice none 0 0] = W2 at *
  have k0 : W2.cell? ⟨g, 4 * R.length, none⟩ = some (.int .i64 (base : Int)) := by have := hin 0 (.int .i64 (base : Int)) (by simp); rw [e4] at this; exact this
  have k1 : W2.cell? ⟨g, 4 * R.length + 1, none⟩ = some (.map (some m)) := by have := hin 1 (.map (some m)) (by simp); rw [e4] at this; exact this
  have k2 : W2.cell? ⟨g, 4 * R.length + 2, none⟩ = some (.slice (some ⟨vbb, 0, none⟩) 1 1) := by have := hin 2 (.slice (some ⟨vbb, 0, none⟩) 1 1) (by simp); rw [e4] at this; exact this
  have k3 : W2.cell? ⟨g, 4 * R.length + 3, none⟩ = some (.slice none 0 0) := by have := hin 3 (.slice none 0 0) (by simp); rw [e4] at this; exact this
  clear hin
  have hmg : m ≠ g := by omega
  have hvg : vbb ≠ g := by omega
  have hlt : ∀ i r, R[i]? = some r → (st i).m < w.heap.size ∧ (∀ b, (st i).vb.ownBlock = some b → b < w.heap.size) ∧ (∀ b, (st i).vg.ownBlock = some b → b < w.heap.size) ∧ (st i).m ≠ g ∧ (∀ b, (st i).vb.ownBlock = some b → b ≠ g) ∧ (∀ b, (st i).vg.ownBlock = some b → b ≠ g) := fun i r hr => by
    have l := h.link i r hr
    refine ⟨l.mp.lt, fun b hb => (l.bells.lt b hb).2, fun b hb => (l.gens.lt b hb).2, fun e => ?_, fun b hb e => ?_, fun b hb e => ?_⟩
    · obtain ⟨es, cl, hq⟩ := l.mp.obj; rw [e, ho] at hq; cases hq
    · obtain ⟨c, hc⟩ := owns_obj l.bells hb; rw [e, ho] at hc; injection hc with hc; injection hc with _ h2 _; exact absurd h2 (by decide)
    · obtain ⟨c, hc⟩ := owns_obj l.gens hb; rw [e, ho] at hc; injection hc with hc; injection hc with _ h2 _; exact absurd h2 (by decide)
  have get_i : ∀ i, i < R.length → ∃ r, R[i]? = some r := fun i hi => ⟨_, List.getElem?_eq_getElem hi⟩
  refine ⟨?_, h.gB, ?_, ?_, ?_, ?_⟩
  · obtain ⟨cs', h3, h4⟩ := obj_setCells g _ [.int .i64 (base : Int), .map (some m), .slice (some ⟨vbb, 0, none⟩) 1 1, .slice none 0 0] (R.length * 4) w1 cs ho1
    exact ⟨cs', by rw [← hW2]; exact h3, by rw [h4, hos]⟩
  · intro j r hr
    by_cases e : j = R.length
    · subst e
      rw [List.getElem?_append_right (Nat.le_refl _), Nat.sub_self] at hr
      have hr' : rawOf (lk0 base) = r := by simpa using hr
      subst hr'
      have es : updS st R.length ⟨m, .slice (some ⟨vbb, 0, none⟩) 1 1, .slice none 0 0⟩ R.length = ⟨m, .slice (some ⟨vbb, 0, none⟩) 1 1, .slice none 0 0⟩ := by simp [updS]
      rw [es]
      refine ⟨k0, k1, k2, k3, hm.of_block (hne m hmg), hmB, ?_, World.ownsRow_nil _ _ _ _⟩
      exact owns_of_block hv (fun b hb => by have : vbb = b := by simpa [Value.ownBlock] using hb
                                             subst this; exact hne vbb hvg)
    · have hjl : j < R.length := by have := (List.getElem?_eq_some_iff.1 hr).1; rw [List.length_append] at this; simp at this; omega
      rw [List.getElem?_append_left hjl] at hr
      have es : updS st R.length ⟨m, .slice (some ⟨vbb, 0, none⟩) 1 1, .slice none 0 0⟩ j = st j := by unfold updS; rw [if_neg e]
      rw [es]
      have l := h.link j r hr
      have hl := hlt j r hr
      refine l.of_block (fun x h1 h2 => ?_) ((hne _ hl.2.2.2.1).trans (hb.block _ hl.1)) (fun b hb' => (hne _ (hl.2.2.2.2.1 b hb')).trans (hb.block _ (hl.2.1 b hb'))) (fun b hb' => (hne _ (hl.2.2.2.2.2 b hb')).trans (hb.block _ (hl.2.2.1 b hb')))
      rw [← hW2, World.cell?_setCells_out g _ _ w1 ⟨g, x, none⟩ (fun _ _ => Or.inl (by show x < R.length * 4; omega))]
      exact hb.cell (p := ⟨g, x, none⟩) hgl
  · intro i j hi hj' hne'
    rw [List.length_append, List.length_singleton] at hi hj'
    unfold updS
    by_cases ei : i = R.length
    · rw [if_pos ei, if_neg (by omega)]
      obtain ⟨r, hr⟩ := get_i j (by omega)
      have := (hlt j r hr).1
      show m ≠ _
      omega
    · rw [if_neg ei]
      obtain ⟨r, hr⟩ := get_i i (by omega)
      by_cases ej : j = R.length
      · rw [if_pos ej]
        have := (hlt i r hr).1
        show _ ≠ m
        omega
      · rw [if_neg ej]; exact h.mdis i j (by omega) (by omega) hne'
  · intro i j hi hj' hne' b hb1
    rw [List.length_append, List.length_singleton] at hi hj'
    unfold updS at hb1 ⊢
    by_cases ei : i = R.length
    · rw [if_pos ei] at hb1
      rw [if_neg (by omega)]
      obtain ⟨r, hr⟩ := get_i j (by omega)
      intro hb2
      have h1 := (hlt j r hr).2.1 b hb2
      have h2 : vbb = b := by simpa [Value.ownBlock] using hb1
      omega
    · rw [if_neg ei] at hb1
      obtain ⟨r, hr⟩ := get_i i (by omega)
      by_cases ej : j = R.length
      · rw [if_pos ej]
        intro hb2
        have h1 := (hlt i r hr).2.1 b hb1
        have h2 : vbb = b := by simpa [Value.ownBlock] using hb2
        omega
      · rw [if_neg ej]; exact h.bdis i j (by omega) (by omega) hne' b hb1
  · intro i j hi hj' hne' b hb1
    rw [List.length_append, List.length_singleton] at hi hj'
    unfold updS at hb1 ⊢
    by_cases ei : i = R.length
    · rw [if_pos ei] at hb1; cases hb1
    · rw [if_neg ei] at hb1
      by_cases ej : j = R.length
      · rw [if_pos ej]; intro hb2; cases hb2
      · rw [if_neg ej]; exact h.gdis i j (by omega) (by omega) hne' b hb1

theorem PreAt.below {w w' : World} {B g n X : Nat} {R : List Raw} {st : Nat → St} (h : PreAt w B g n R st) (hb : Below X w w') (hX : w.heap.size ≤ X) : PreAt w' B g n R st := by
  obtain ⟨cs, ho, hos⟩ := h.obj
  have hgl : g < w.heap.size := (Array.getElem?_eq_some_iff.1 ho).1
  refine ⟨⟨cs, (hb.block g (by omega)).trans ho, hos⟩, h.gB, fun j r hr => ?_, h.mdis, h.bdis, h.gdis⟩
  have l := h.link j r hr
  exact l.of_block (fun x _ _ => hb.cell (p := ⟨g, x, none⟩) (by show g < X; omega)) (hb.block _ (by have := l.mp.lt; omega)) (fun b hb' => hb.block _ (by have := (l.bells.lt b hb').2; omega)) (fun b hb' => hb.block _ (by have := (l.gens.lt b hb').2; omega))

/-- Rows of generators behind a slice value. -/
def Packs (w : World) (v : Value) (gs : List Pm) : Prop :=
  (gs = [] ∧ ∃ p c, v = .slice p 0 c) ∨
  ∃ b off cap, v = .slice (some ⟨b, off, none⟩) gs.length cap ∧ 0 < gs.length ∧ gs.length ≤ cap ∧ cap ≤ 9223372036854775807 ∧ b < w.heap.size ∧ ∀ i p, gs[i]? = some p → w.rangeAt b (off + i * 12) (p.l.map (Value.int .i8))

theorem Packs.below {w w' : World} {v : Value} {gs : List Pm} {X : Nat} (h : Packs w v gs) (hb : Below X w w') (hX : w.heap.size ≤ X) : Packs w' v gs := by
  rcases h with h | ⟨b, off, cap, h1, h2, h3, h4, h5, h6⟩
  · exact Or.inl h
  · refine Or.inr ⟨b, off, cap, h1, h2, h3, h4, Nat.lt_of_lt_of_le h5 hb.size, fun i p hi j u hu => ?_⟩
    rw [hb.cell (p := ⟨b, _, none⟩) (by show b < X; omega)]
    exact h6 i p hi j u hu

theorem wpList_insert {ops : Array Oper} {rest : List Oper} {o : Oper} {a : Act} {w : World} {Q : Exit → Act → World → Prop} (hg : o.guard = none) (m x v : Operand) (t : TypeId) (hop : o.op = Op.insert t m x v) (e : TypeId) (ht : Try.prog.underlying t = some (.map 3 e))
    {b n : Nat} {f : Int → Option Value} (h : IMap w b n f) (hn : n < maxLen) (k : Int) (val : Value) (hm : a.eval m = .map (some b)) (hx : a.eval x = .int .i64 k) (hv : a.eval v = val) (h1 : -9223372036854775808 ≤ k) (h2 : k ≤ 9223372036854775807)
    (hK : ∀ w', IMap w' b (n + 1) (upd f k val) → w.grownBy w' (some b) → wpList Try.prog ops Q rest (a.put o.dst undef) w') : wpList Try.prog ops Q (o :: rest) a w := by
  refine wpList_plain hg fun K' hK' => ?_
  obtain ⟨w', hrun, r1, r2⟩ := h.put ht hn h1 h2 val
  unfold Oper.wp
  simp [execOp, hop, hm, hx, hv, hrun, Result.andThen]
  exact hK' _ _ (hK w' r1 r2)

end Go.Proofs.Ytbddhpbeekioiaa
