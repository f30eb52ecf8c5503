/- Joined: FlR, FlT, FlU. -/
import Derived.Test.YthdlomgjmbldfaaJ3
/- Rows of floats that a call owns, several at once. -/
namespace Go.Proofs.Ythdlomgjmbldfaa
open Go.RowKit
set_option maxRecDepth 20000
set_option linter.unusedVariables false

theorem fr_block {w w' : World} {base e n : Nat} {v : Value} {xs : List Value} (h : w.ownsRow base e 1 v n xs) (hb : ∀ g, v.ownBlock = some g → w'.heap[g]? = w.heap[g]?) : w'.ownsRow base e 1 v n xs := by
  obtain ⟨h1, h2⟩ := h
  refine ⟨h1, ?_⟩
  rcases h2 with h2 | ⟨g, cap, cur, hv, hg, hh, r⟩
  · exact Or.inl h2
  · exact Or.inr ⟨g, cap, cur, hv, hg, (hb g (by rw [hv]; rfl)).trans hh, r⟩

/-- Rows of unlike elements are unlike blocks. -/
theorem fr_ty {w : World} {base base' e e' n m : Nat} {u v : Value} {xs ys : List Value} (h1 : w.ownsRow base e 1 u n xs) (h2 : w.ownsRow base' e' 1 v m ys) (he : e ≠ e') : ∀ g, u.ownBlock = some g → v.ownBlock ≠ some g := by
  intro g hu hv
  rcases h1.2 with ⟨rfl, _⟩ | ⟨g1, c1, cur1, rfl, _, hh1, _⟩
  · cases hu
  · rcases h2.2 with ⟨rfl, _⟩ | ⟨g2, c2, cur2, rfl, _, hh2, _⟩
    · cases hv
    · have e1 : g1 = g := by simpa [Value.ownBlock] using hu
      have e2 : g2 = g := by simpa [Value.ownBlock] using hv
      subst e1; subst e2
      rw [hh1] at hh2
      injection hh2 with hh2
      injection hh2 with _ e2 _
      exact he e2

structure FR (w : World) (base m : Nat) (R : Nat → Value × List Nat) : Prop where
  own : ∀ i, i < m → w.ownsRow base 23 1 (R i).1 (R i).2.length ((R i).2.map (Value.float .f64))
  apart : ∀ i j, i < m → j < m → i ≠ j → ∀ g, (R i).1.ownBlock = some g → (R j).1.ownBlock ≠ some g

theorem FR.of {w w' : World} {base m : Nat} {R : Nat → Value × List Nat} (h : FR w base m R) (hb : ∀ g, base ≤ g → g < w.heap.size → (∃ i, i < m ∧ (R i).1.ownBlock = some g) → w'.heap[g]? = w.heap[g]?) : FR w' base m R :=
  ⟨fun i hi => fr_block (h.own i hi) (fun g hg => hb g ((h.own i hi).lt g hg).1 ((h.own i hi).lt g hg).2 ⟨i, hi, hg⟩), h.apart⟩

theorem FR.push {w w' : World} {base m : Nat} {R : Nat → Value × List Nat} {i y : Nat} {v' : Value} (h : FR w base m R) (hi : i < m) (h4 : w'.ownsRow base 23 1 v' ((R i).2.length + 1) (((R i).2 ++ [y]).map (Value.float .f64)))
    (hg : w.grownBy w' (R i).1.ownBlock) (hv : v'.ownBlock = (R i).1.ownBlock ∨ v'.ownBlock = some w.heap.size) : FR w' base m (fun j => if j = i then (v', (R i).2 ++ [y]) else R j) := by
  have hlt : ∀ j, j < m → ∀ g, (R j).1.ownBlock = some g → g < w.heap.size := fun j hj g e => ((h.own j hj).lt g e).2
  refine ⟨fun j hj => ?_, fun a b ha hb hab g e1 e2 => ?_⟩
  · by_cases e : j = i
    · subst e
      simp only [if_true]
      rw [List.length_append, List.length_singleton]
      exact h4
    · simp only [if_neg e]
      exact fr_block (h.own j hj) (fun g hgb => hg.block g (hlt j hj g hgb) (fun e2 => h.apart j i hj hi e g hgb e2.symm))
  · by_cases ea : a = i
    · by_cases eb : b = i
      · exact hab (ea.trans eb.symm)
      · simp only [if_pos ea, if_neg eb] at e1 e2
        rcases hv with hv | hv
        · rw [hv] at e1; exact h.apart i b hi hb (fun e => eb e.symm) g e1 e2
        · rw [hv] at e1
          have := hlt b hb g e2
          injection e1 with e1
          omega
    · by_cases eb : b = i
      · simp only [if_neg ea, if_pos eb] at e1 e2
        rcases hv with hv | hv
        · rw [hv] at e2; exact h.apart a i ha hi ea g e1 e2
        · rw [hv] at e2
          have := hlt a ha g e1
          injection e2 with e2
          omega
      · simp only [if_neg ea, if_neg eb] at e1 e2
        exact h.apart a b ha hb hab g e1 e2

/-- One float is put behind others. -/
theorem wpList_push {w : World} {ops : Array Oper} {rest : List Oper} {o : Oper} {a : Act} {Q : Exit → Act → World → Prop} (hgd : o.guard = none) (s x : Operand)
    (ho : o.op = .call { callee := .builtin .append, args := #[s, x], argTypes := #[24, 24] })
    (base : Nat) (v : Value) (F : List Nat) (hs : a.eval s = v) (hown : w.ownsRow base 23 1 v F.length (F.map (Value.float .f64)))
    (B y : Nat) (hx : a.eval x = .slice (some ⟨B, 0, none⟩) 1 1) (hB : w.heap[B]? = some (.cells #[.float .f64 y] 23)) (hl : F.length ≤ 10000) (hbase : base ≤ w.heap.size)
    (h : ∀ v' w', w'.ownsRow base 23 1 v' (F.length + 1) ((F ++ [y]).map (Value.float .f64)) → w.grownBy w' v.ownBlock → (v'.ownBlock = v.ownBlock ∨ v'.ownBlock = some w.heap.size) → wpList Try.prog ops Q rest (a.put o.dst v') w') :
    wpList Try.prog ops Q (o :: rest) a w := by
  obtain ⟨i0, hi, hz0, hz1, hz2⟩ := info_parts Try.info23
  refine wpList_append_keep w hgd s x 24 ho base 23 i0 (.float .f64 0) 1 8 Try.underlying24 hi hz0 hz1 hz2 rfl (by decide) v F.length _ hs hown ⟨B, 0, none⟩ 1 1 [.float .f64 y] hx rfl (fun j u hu => ?_) (fun u hu => ?_) (by unfold maxLen; omega) (by omega) hbase (fun v' w' h1 h2 h3 => ?_)
  · rw [Addr.add_lit, Nat.zero_add]
    unfold World.cell?
    rw [hB]
    simpa using hu
  · rw [List.mem_singleton] at hu; subst hu; rfl
  · exact h v' w' (by rw [List.map_append]; exact h1) h2 (h3.imp id (fun e => e.1))

theorem wpList_pushI {w : World} {ops : Array Oper} {rest : List Oper} {o : Oper} {a : Act} {Q : Exit → Act → World → Prop} (hgd : o.guard = none) (s x : Operand)
    (ho : o.op = .call { callee := .builtin .append, args := #[s, x], argTypes := #[42, 42] })
    (base : Nat) (v : Value) (F : List Int) (hs : a.eval s = v) (hown : w.ownsRow base 3 1 v F.length (F.map (Value.int .i64)))
    (B : Nat) (y : Int) (hx : a.eval x = .slice (some ⟨B, 0, none⟩) 1 1) (hB : w.heap[B]? = some (.cells #[.int .i64 y] 3)) (hl : F.length ≤ 10000) (hbase : base ≤ w.heap.size)
    (h : ∀ v' w', w'.ownsRow base 3 1 v' (F.length + 1) ((F ++ [y]).map (Value.int .i64)) → w.grownBy w' v.ownBlock → (v'.ownBlock = v.ownBlock ∨ v'.ownBlock = some w.heap.size) → wpList Try.prog ops Q rest (a.put o.dst v') w') :
    wpList Try.prog ops Q (o :: rest) a w := by
  obtain ⟨i0, hi, hz0, hz1, hz2⟩ := info_parts Try.info3
  refine wpList_append_keep w hgd s x 42 ho base 3 i0 (.int .i64 0) 1 8 Try.underlying42 hi hz0 hz1 hz2 rfl (by decide) v F.length _ hs hown ⟨B, 0, none⟩ 1 1 [.int .i64 y] hx rfl (fun j u hu => ?_) (fun u hu => ?_) (by unfold maxLen; omega) (by omega) hbase (fun v' w' h1 h2 h3 => ?_)
  · rw [Addr.add_lit, Nat.zero_add]
    unfold World.cell?
    rw [hB]
    simpa using hu
  · rw [List.mem_singleton] at hu; subst hu; rfl
  · exact h v' w' (by rw [List.map_append]; exact h1) h2 (h3.imp id (fun e => e.1))

abbrev striking0 : Obj := .cells #[.float .f64 0, .float .f64 0, .float .f64 0, .float .f64 0, .slice none 0 0] 26

def beatsL (n k : Nat) : List Int := (List.range k).map (fun j => (beatN n j : Int))

theorem beatsL_succ (n k : Nat) : beatsL n (k + 1) = beatsL n k ++ [(beatN n k : Int)] := by simp [beatsL, List.range_succ]
theorem beatsL_length (n k : Nat) : (beatsL n k).length = k := by simp [beatsL]

abbrev two (a b : Value × List Nat) : Nat → Value × List Nat := fun i => if i = 0 then a else b

/-- The first loop of the answer's Judge. -/
structure L1 (w wr : World) (n : Nat) (L : List (Int × Nat)) (k1 k2 k3 : Nat) (bv tv uv : Value) : Prop where
  bt : wr.ownsRow (w.heap.size + 1) 3 1 bv k1 ((beatsL n k1).map (Value.int .i64))
  fr : FR wr (w.heap.size + 1) 2 (two (tv, fl (timeAt L) k2) (uv, fl (prodAt n L) k3))
  res : wr.heap[w.heap.size]? = some striking0
  bl : Below w.heap.size w wr
  sz : w.heap.size + 1 ≤ wr.heap.size

section
variable {w wr : World} {n : Nat} {L : List (Int × Nat)} {k1 k2 k3 : Nat} {bv tv uv : Value}

theorem L1.times (h : L1 w wr n L k1 k2 k3 bv tv uv) : wr.ownsRow (w.heap.size + 1) 23 1 tv k2 ((fl (timeAt L) k2).map (Value.float .f64)) := by
  have := h.fr.own 0 (by decide)
  simp only [two, if_true, fl_length] at this
  exact this

theorem L1.both (h : L1 w wr n L k1 k2 k3 bv tv uv) : wr.ownsRow (w.heap.size + 1) 23 1 uv k3 ((fl (prodAt n L) k3).map (Value.float .f64)) := by
  have := h.fr.own 1 (by decide)
  simp only [two, fl_length, show ¬ (1 : Nat) = 0 from by decide, if_false] at this
  exact this

theorem L1.alloc (h : L1 w wr n L k1 k2 k3 bv tv uv) (o : Obj) : L1 w (wr.alloc o) n L k1 k2 k3 bv tv uv :=
  ⟨h.bt.alloc _, h.fr.of (fun g _ hg _ => Below.heap_alloc wr o g hg), (Below.heap_alloc wr o _ (by have := h.sz; omega)).trans h.res, h.bl.alloc (by have := h.sz; omega) o, by have := h.sz; simp; omega⟩

theorem L1.keep {w' : World} (h : L1 w wr n L k1 k2 k3 bv tv uv) (hd : Drw wr w') : L1 w w' n L k1 k2 k3 bv tv uv :=
  ⟨fr_block h.bt (fun g _ => by rw [hd.heap]), h.fr.of (fun g _ _ _ => by rw [hd.heap]), by rw [hd.heap]; exact h.res, h.bl.trans (hd.below _), by rw [hd.heap]; exact h.sz⟩

theorem L1.pushB {w' : World} {bv' : Value} (h : L1 w wr n L k1 k2 k3 bv tv uv) (h4 : w'.ownsRow (w.heap.size + 1) 3 1 bv' (k1 + 1) ((beatsL n k1 ++ [(beatN n k1 : Int)]).map (Value.int .i64))) (hg : wr.grownBy w' bv.ownBlock) : L1 w w' n L (k1 + 1) k2 k3 bv' tv uv := by
  refine ⟨by rw [beatsL_succ]; exact h4, h.fr.of (fun g _ hl ⟨i, hi, e⟩ => hg.block g hl (fun e2 => fr_ty (h.fr.own i hi) h.bt (by decide) g e e2.symm)), (hg.block _ (by have := h.sz; omega) (fun e => by have := (h.bt.lt _ e.symm).1; omega)).trans h.res, h.bl.grown hg (by have := h.sz; omega) (fun k hk => by have := (h.bt.lt k hk).1; omega), Nat.le_trans h.sz hg.size⟩

theorem L1.pushT {w' : World} {tv' : Value} (h : L1 w wr n L k1 k2 k3 bv tv uv) (h4 : w'.ownsRow (w.heap.size + 1) 23 1 tv' (k2 + 1) ((fl (timeAt L) k2 ++ [timeAt L k2]).map (Value.float .f64))) (hg : wr.grownBy w' tv.ownBlock) (hv : tv'.ownBlock = tv.ownBlock ∨ tv'.ownBlock = some wr.heap.size) : L1 w w' n L k1 (k2 + 1) k3 bv tv' uv := by
  have hf := h.fr.push (i := 0) (y := timeAt L k2) (v' := tv') (w' := w') (by decide) (by simp only [two, if_true, fl_length]; exact h4) (by simp only [two, if_true]; exact hg) (by simp only [two, if_true]; exact hv)
  refine ⟨fr_block h.bt (fun g e => hg.block g (h.bt.lt g e).2 (fun e2 => fr_ty h.bt h.times (by decide) g e e2.symm)), ?_, (hg.block _ (by have := h.sz; omega) (fun e => by have := (h.times.lt _ e.symm).1; omega)).trans h.res, h.bl.grown hg (by have := h.sz; omega) (fun k hk => by have := (h.times.lt k hk).1; omega), Nat.le_trans h.sz hg.size⟩
  have e : (fun j => if j = 0 then (tv', (two (tv, fl (timeAt L) k2) (uv, fl (prodAt n L) k3) 0).2 ++ [timeAt L k2]) else two (tv, fl (timeAt L) k2) (uv, fl (prodAt n L) k3) j) = two (tv', fl (timeAt L) (k2 + 1)) (uv, fl (prodAt n L) k3) := by
    funext j
    unfold two
    by_cases hj : j = 0
    · simp [hj, fl_succ]
    · simp [hj]
  rw [e] at hf
  exact hf

theorem L1.pushU {w' : World} {uv' : Value} (h : L1 w wr n L k1 k2 k3 bv tv uv) (h4 : w'.ownsRow (w.heap.size + 1) 23 1 uv' (k3 + 1) ((fl (prodAt n L) k3 ++ [prodAt n L k3]).map (Value.float .f64))) (hg : wr.grownBy w' uv.ownBlock) (hv : uv'.ownBlock = uv.ownBlock ∨ uv'.ownBlock = some wr.heap.size) : L1 w w' n L k1 k2 (k3 + 1) bv tv uv' := by
  have hf := h.fr.push (i := 1) (y := prodAt n L k3) (v' := uv') (w' := w') (by decide) (by simp only [two, show ¬ (1 : Nat) = 0 from by decide, if_false, fl_length]; exact h4) (by simp only [two, show ¬ (1 : Nat) = 0 from by decide, if_false]; exact hg) (by simp only [two, show ¬ (1 : Nat) = 0 from by decide, if_false]; exact hv)
  refine ⟨fr_block h.bt (fun g e => hg.block g (h.bt.lt g e).2 (fun e2 => fr_ty h.bt h.both (by decide) g e e2.symm)), ?_, (hg.block _ (by have := h.sz; omega) (fun e => by have := (h.both.lt _ e.symm).1; omega)).trans h.res, h.bl.grown hg (by have := h.sz; omega) (fun k hk => by have := (h.both.lt k hk).1; omega), Nat.le_trans h.sz hg.size⟩
  refine ⟨fun i hi => ?_, fun i j hi hj hij => ?_⟩
  · have := hf.own i hi
    by_cases h0 : i = 0
    · subst h0
      simpa [two] using this
    · obtain rfl : i = 1 := by omega
      simp only [two, show ¬ (1 : Nat) = 0 from by decide, if_false, if_true] at this ⊢
      rw [fl_succ]
      exact this
  · have := hf.apart i j hi hj hij
    rcases (show i = 0 ∨ i = 1 by omega) with rfl | rfl <;> rcases (show j = 0 ∨ j = 1 by omega) with rfl | rfl
    · exact absurd rfl hij
    · simpa [two] using this
    · simpa [two] using this
    · exact absurd rfl hij

end
end Go.Proofs.Ythdlomgjmbldfaa

/- The second and third loops of the answer's Judge: what is kept. -/
namespace Go.Proofs.Ythdlomgjmbldfaa
open Go.RowKit
set_option maxRecDepth 20000
set_option linter.unusedVariables false

/-- The heads of the bells' own rows, as cells. -/
def heads (n : Nat) (R : Nat → Value × List Nat) : List Value := (List.range n).map (fun j => (R (2 + j)).1)

structure L2 (w wr : World) (n : Nat) (L : List (Int × Nat)) (kf kq ko : Nat) (bv : Value) (go : Nat) (R : Nat → Value × List Nat) : Prop where
  bt : wr.ownsRow (w.heap.size + 1) 3 1 bv L.length ((beatsL n L.length).map (Value.int .i64))
  fr : FR wr (w.heap.size + 1) (n + 2) R
  gob : wr.heap[go]? = some (.cells (heads n R).toArray 24)
  far : (R 0).2 = fl (farR n L) kf
  sq : (R 1).2 = fl (sqR n L) kq
  ow : ∀ j, j < n → (R (2 + j)).2 = ownR n L ko j
  res : wr.heap[w.heap.size]? = some striking0
  bl : Below w.heap.size w wr
  gb : w.heap.size + 1 ≤ go ∧ go < wr.heap.size

theorem heads_get {n : Nat} {R : Nat → Value × List Nat} {j : Nat} (h : j < n) : (heads n R)[j]? = some (R (2 + j)).1 := by simp [heads, h]

theorem heads_length (n : Nat) (R : Nat → Value × List Nat) : (heads n R).length = n := by simp [heads]

section
variable {w wr : World} {n : Nat} {L : List (Int × Nat)} {kf kq ko : Nat} {bv : Value} {go : Nat} {R : Nat → Value × List Nat}

theorem L2.sz (h : L2 w wr n L kf kq ko bv go R) : w.heap.size + 1 ≤ wr.heap.size := by have := h.gb; omega

/-- No row of floats lies in the block of heads. -/
theorem L2.go_ne (h : L2 w wr n L kf kq ko bv go R) {i : Nat} (hi : i < n + 2) : (R i).1.ownBlock ≠ some go := by
  intro e
  have ho := h.fr.own i hi
  rcases ho.2 with ⟨e1, _⟩ | ⟨g1, c1, cur1, e1, _, hh1, _⟩
  · rw [e1] at e; cases e
  · rw [e1] at e
    have e2 : g1 = go := by simpa [Value.ownBlock] using e
    subst e2
    rw [h.gob] at hh1
    injection hh1 with hh1
    injection hh1 with _ e3 _
    exact absurd e3 (by decide)

theorem L2.bt_ne (h : L2 w wr n L kf kq ko bv go R) : bv.ownBlock ≠ some go := by
  intro e
  rcases h.bt.2 with ⟨e1, _⟩ | ⟨g1, c1, cur1, e1, _, hh1, _⟩
  · rw [e1] at e; cases e
  · rw [e1] at e
    have e2 : g1 = go := by simpa [Value.ownBlock] using e
    subst e2
    rw [h.gob] at hh1
    injection hh1 with hh1
    injection hh1 with _ e3 _
    exact absurd e3 (by decide)

theorem L2.alloc (h : L2 w wr n L kf kq ko bv go R) (o : Obj) : L2 w (wr.alloc o) n L kf kq ko bv go R :=
  ⟨h.bt.alloc _, h.fr.of (fun g _ hg _ => Below.heap_alloc wr o g hg), (Below.heap_alloc wr o _ h.gb.2).trans h.gob, h.far, h.sq, h.ow, (Below.heap_alloc wr o _ (by have := h.sz; omega)).trans h.res, h.bl.alloc (by have := h.sz; omega) o, ⟨h.gb.1, by have := h.gb.2; simp; omega⟩⟩

theorem L2.keep {w' : World} (h : L2 w wr n L kf kq ko bv go R) (hd : Drw wr w') : L2 w w' n L kf kq ko bv go R :=
  ⟨fr_block h.bt (fun g _ => by rw [hd.heap]), h.fr.of (fun g _ _ _ => by rw [hd.heap]), by rw [hd.heap]; exact h.gob, h.far, h.sq, h.ow, by rw [hd.heap]; exact h.res, h.bl.trans (hd.below _), by rw [hd.heap]; exact h.gb⟩

/-- Only other blocks are written. -/
theorem L2.write {b c : Nat} {u : Value} (h : L2 w wr n L kf kq ko bv go R) (hb : wr.heap.size ≤ b ∨ ∃ cs, wr.heap[b]? = some (.cells cs 26) ∧ w.heap.size < b) : L2 w (wr.setCell ⟨b, c, none⟩ u) n L kf kq ko bv go R := by
  have hty : ∀ g cs e, e ≠ 26 → wr.heap[g]? = some (.cells cs e) → g ≠ b := fun g cs e he hg eb => by
    rcases hb with hb | ⟨cs', hb, _⟩
    · have := (Array.getElem?_eq_some_iff.1 hg).1; omega
    · rw [eb, hb] at hg
      injection hg with hg
      injection hg with _ e2 _
      exact he e2.symm
  have hk : ∀ g, g ≠ b → (wr.setCell ⟨b, c, none⟩ u).heap[g]? = wr.heap[g]? := fun g hg => Below.heap_setCell _ _ _ _ hg
  have hown : ∀ {e n' : Nat} {v : Value} {xs : List Value}, e ≠ 26 → wr.ownsRow (w.heap.size + 1) e 1 v n' xs → (wr.setCell ⟨b, c, none⟩ u).ownsRow (w.heap.size + 1) e 1 v n' xs := fun he ho => fr_block ho (fun g hg => hk g (by
    rcases ho.2 with ⟨e1, _⟩ | ⟨g1, c1, cur1, e1, _, hh1, _⟩
    · rw [e1] at hg; cases hg
    · rw [e1] at hg
      have e2 : g1 = g := by simpa [Value.ownBlock] using hg
      subst e2
      exact hty _ _ _ he hh1))
  have hwb : w.heap.size < b := by
    rcases hb with hb | ⟨_, _, hb⟩
    · have := h.sz; omega
    · exact hb
  refine ⟨hown (by decide) h.bt, ⟨fun i hi => hown (by decide) (h.fr.own i hi), h.fr.apart⟩, (hk _ (hty _ _ _ (by decide) h.gob)).trans h.gob, h.far, h.sq, h.ow, (hk _ (by omega)).trans h.res, h.bl.setCell (p := ⟨b, c, none⟩) (by show w.heap.size ≤ b; omega) u, ⟨h.gb.1, ?_⟩⟩
  simp only [World.setCell, Array.size_modify]
  exact h.gb.2

/-- From the first loop to the second. -/
theorem L2.start {tv uv : Value} (h : L1 w wr n L L.length L.length L.length bv tv uv) : L2 w (wr.alloc (.cells (List.replicate n (Value.slice none 0 0)).toArray 24)) n L 0 0 0 bv wr.heap.size (fun _ => (.slice none 0 0, [])) := by
  have h' := h.alloc (.cells (List.replicate n (Value.slice none 0 0)).toArray 24)
  refine ⟨h'.bt, ⟨fun i _ => World.ownsRow_nil _ _ _ _, fun i j _ _ _ g e => by cases e⟩, ?_, rfl, rfl, fun j _ => rfl, h'.res, h'.bl, h.sz, by simp⟩
  have : heads n (fun _ => (Value.slice none 0 0, ([] : List Nat))) = List.replicate n (Value.slice none 0 0) := by
    unfold heads
    apply List.ext_getElem
    · simp
    · intro i h1 h2; simp
  rw [this]
  exact alloc_at _ _

/-- What append to one of the rows keeps. -/
theorem L2.grow {w' : World} {i : Nat} (h : L2 w wr n L kf kq ko bv go R) (hi : i < n + 2) (hg : wr.grownBy w' (R i).1.ownBlock) :
    w'.ownsRow (w.heap.size + 1) 3 1 bv L.length ((beatsL n L.length).map (Value.int .i64)) ∧ w'.heap[go]? = some (.cells (heads n R).toArray 24) ∧ w'.heap[w.heap.size]? = some striking0 ∧ Below w.heap.size w w' ∧ (w.heap.size + 1 ≤ go ∧ go < w'.heap.size) :=
  ⟨fr_block h.bt (fun g e => hg.block g (h.bt.lt g e).2 (fun e2 => fr_ty h.bt (h.fr.own i hi) (by decide) g e e2.symm)), (hg.block _ h.gb.2 (fun e => h.go_ne hi e.symm)).trans h.gob, (hg.block _ (by have := h.sz; omega) (fun e => by have := ((h.fr.own i hi).lt _ e.symm).1; omega)).trans h.res, h.bl.grown hg (by have := h.sz; omega) (fun k hk => by have := ((h.fr.own i hi).lt k hk).1; omega), h.gb.1, Nat.lt_of_lt_of_le h.gb.2 hg.size⟩

theorem heads_put {i : Nat} {p : Value × List Nat} (hi : i < 2) : heads n (fun j => if j = i then p else R j) = heads n R := by
  unfold heads
  apply List.map_congr_left
  intro j _
  show (if 2 + j = i then p else R (2 + j)).1 = _
  rw [if_neg (by omega)]

theorem heads_set {j : Nat} {p : Value × List Nat} (hj : j < n) : heads n (fun i => if i = 2 + j then p else R i) = (heads n R).set j p.1 := by
  apply List.ext_getElem
  · simp [heads]
  · intro i h1 h2
    simp only [heads, List.getElem_map, List.getElem_range, List.getElem_set]
    by_cases e : j = i
    · subst e; simp
    · rw [if_neg (by omega), if_neg e]

theorem L2.pushF {w' : World} {v' : Value} (h : L2 w wr n L kf kq ko bv go R) (h4 : w'.ownsRow (w.heap.size + 1) 23 1 v' (kf + 1) ((fl (farR n L) kf ++ [farR n L kf]).map (Value.float .f64))) (hg : wr.grownBy w' (R 0).1.ownBlock) (hv : v'.ownBlock = (R 0).1.ownBlock ∨ v'.ownBlock = some wr.heap.size) :
    L2 w w' n L (kf + 1) kq ko bv go (fun j => if j = 0 then (v', (R 0).2 ++ [farR n L kf]) else R j) := by
  obtain ⟨a1, a2, a3, a4, a5⟩ := h.grow (i := 0) (by omega) hg
  refine ⟨a1, h.fr.push (i := 0) (by omega) (by rw [h.far, fl_length]; exact h4) hg hv, by rw [heads_put (by decide)]; exact a2, by simp only [if_true]; rw [h.far, fl_succ], by simp only [show ¬ (1 : Nat) = 0 from by decide, if_false]; exact h.sq, fun j hj => by simp only [show ¬ (2 + j = 0) from by omega, if_false]; exact h.ow j hj, a3, a4, a5⟩

theorem L2.pushQ {w' : World} {v' : Value} (h : L2 w wr n L kf kq ko bv go R) (h4 : w'.ownsRow (w.heap.size + 1) 23 1 v' (kq + 1) ((fl (sqR n L) kq ++ [sqR n L kq]).map (Value.float .f64))) (hg : wr.grownBy w' (R 1).1.ownBlock) (hv : v'.ownBlock = (R 1).1.ownBlock ∨ v'.ownBlock = some wr.heap.size) :
    L2 w w' n L kf (kq + 1) ko bv go (fun j => if j = 1 then (v', (R 1).2 ++ [sqR n L kq]) else R j) := by
  obtain ⟨a1, a2, a3, a4, a5⟩ := h.grow (i := 1) (by omega) hg
  refine ⟨a1, h.fr.push (i := 1) (by omega) (by rw [h.sq, fl_length]; exact h4) hg hv, by rw [heads_put (by decide)]; exact a2, by simp only [show ¬ (0 : Nat) = 1 from by decide, if_false]; exact h.far, by simp only [if_true]; rw [h.sq, fl_succ], fun j hj => by simp only [show ¬ (2 + j = 1) from by omega, if_false]; exact h.ow j hj, a3, a4, a5⟩

theorem L2.pushO {w' : World} {v' : Value} {j : Nat} (h : L2 w wr n L kf kq ko bv go R) (hj : j < n) (hb : bellAt L ko = j) (h4 : w'.ownsRow (w.heap.size + 1) 23 1 v' ((ownR n L ko j).length + 1) ((ownR n L ko j ++ [dR n L ko]).map (Value.float .f64))) (hg : wr.grownBy w' (R (2 + j)).1.ownBlock) (hv : v'.ownBlock = (R (2 + j)).1.ownBlock ∨ v'.ownBlock = some wr.heap.size) :
    L2 w (w'.setCell ⟨go, j, none⟩ v') n L kf kq (ko + 1) bv go (fun i => if i = 2 + j then (v', (R (2 + j)).2 ++ [dR n L ko]) else R i) := by
  obtain ⟨a1, a2, a3, a4, a5⟩ := h.grow (i := 2 + j) (by omega) hg
  have hf := h.fr.push (i := 2 + j) (y := dR n L ko) (v' := v') (w' := w') (by omega) (by rw [h.ow j hj]; exact h4) hg hv
  have hk : ∀ g, g ≠ go → (w'.setCell ⟨go, j, none⟩ v').heap[g]? = w'.heap[g]? := fun g hg => Below.heap_setCell _ _ _ _ hg
  have hne : ∀ i, i < n + 2 → ∀ g, ((fun i => if i = 2 + j then (v', (R (2 + j)).2 ++ [dR n L ko]) else R i) i).1.ownBlock = some g → g ≠ go := fun i hi g e eg => by
    by_cases e2 : i = 2 + j
    · simp only [if_pos e2] at e
      rcases hv with hv | hv
      · rw [hv, eg] at e; exact h.go_ne (by omega) e
      · rw [hv] at e
        injection e with e
        have := h.gb.2
        omega
    · simp only [if_neg e2] at e
      rw [eg] at e
      exact h.go_ne hi e
  refine ⟨fr_block a1 (fun g e => hk g (fun eg => h.bt_ne (by rw [← eg]; exact e))), ⟨fun i hi => fr_block (hf.own i hi) (fun g e => hk g (hne i hi g e)), hf.apart⟩, ?_, by simp only [show ¬ (0 = 2 + j) from by omega, if_false]; exact h.far, by simp only [show ¬ (1 = 2 + j) from by omega, if_false]; exact h.sq, fun i hi => ?_, (hk _ (by have := h.gb.1; omega)).trans a3, a4.setCell (p := ⟨go, j, none⟩) (by show w.heap.size ≤ go; have := h.gb.1; omega) v', ⟨a5.1, by simp only [World.setCell, Array.size_modify]; exact a5.2⟩⟩
  · rw [heads_set hj]
    simp [World.setCell, Array.getElem?_modify, a2]
  · simp only [ownR]
    by_cases e : i = j
    · subst e
      simp only [if_true, hb]
      rw [h.ow i hi]
    · simp only [show ¬ (2 + i = 2 + j) from by omega, if_false, show ¬ bellAt L ko = i from by omega]
      exact h.ow i hi

end

theorem Try.info24 : (Try.prog.info? 24).map (fun i => (i.zero, i.size, i.bytes)) = some (some (.slice none 0 0), 1, 24) := by kernel_rfl

theorem made_heads (n : Nat) : (madeCells #[Value.slice none 0 0] n).toList = List.replicate n (Value.slice none 0 0) := by
  apply List.ext_getElem
  · simp [madeCells]
  · intro i h1 h2
    simp [madeCells, Nat.mod_one]

theorem run_make_rows (n : Nat) (hn : n ≤ 12) (w : World) : (Instr.makeSlice 48 (.int .i64 (n : Int)) (.int .i64 (n : Int))).run Try.prog w = .ok (.slice (some ⟨w.heap.size, 0, none⟩) n n) (w.alloc (.cells (List.replicate n (Value.slice none 0 0)).toArray 24)) := by
  obtain ⟨i, hi, hz0, hz1, hz2⟩ := info_parts Try.info24
  have := run_make (P := Try.prog) w 48 24 i _ Try.underlying48 hi hz0 .i64 .i64 n n (by omega) (Int.le_refl _) (by rw [hz2]; omega) (by omega)
  rw [this]
  simp only [Int.toNat_natCast, hz1, Nat.mul_one]
  rw [show (Value.slice none 0 0).cells = #[Value.slice none 0 0] from rfl, ← made_heads]

end Go.Proofs.Ythdlomgjmbldfaa

/- The third loop of the answer's Judge: what is kept. -/
namespace Go.Proofs.Ythdlomgjmbldfaa
open Go.RowKit
set_option maxRecDepth 20000
set_option linter.unusedVariables false

theorem uns_uns (x : Nat) : uns (uns x) = uns x := by
  by_cases h : (FloatKind.f64.format.order x 0 == some .eq) = true
  · have e : uns x = 0 := by unfold uns; rw [if_pos h]
    rw [e]
    exact (show isz 0 from Or.inl rfl).uns
  · have e : uns x = x := by unfold uns; rw [if_neg h]
    rw [e, e]

def belL (n : Nat) (L : List (Int × Nat)) (i : Nat) : List Nat := (List.range i).map (bellMean n L)

theorem belL_succ (n : Nat) (L : List (Int × Nat)) (i : Nat) : belL n L (i + 1) = belL n L i ++ [bellMean n L i] := by simp [belL, List.range_succ]
theorem belL_length (n : Nat) (L : List (Int × Nat)) (i : Nat) : (belL n L i).length = i := by simp [belL]

structure L3 (w wr : World) (n : Nat) (L : List (Int × Nat)) (go ob : Nat) (R : Nat → Value × List Nat) (st ga me sp : Nat) (i : Nat) (bv : Value) : Prop where
  own : ∀ j, j < n → wr.ownsRow (w.heap.size + 1) 23 1 (R (2 + j)).1 (ownR n L L.length j).length ((ownR n L L.length j).map (Value.float .f64))
  low : ∀ j, j < n → ∀ g, (R (2 + j)).1.ownBlock = some g → g < ob
  gob : wr.heap[go]? = some (.cells (heads n R).toArray 24)
  out : wr.heap[ob]? = some (.cells #[.float .f64 st, .float .f64 ga, .float .f64 me, .float .f64 sp, bv] 26)
  bel : wr.ownsRow (ob + 1) 23 1 bv i ((belL n L i).map (Value.float .f64))
  res : wr.heap[w.heap.size]? = some striking0
  bl : Below w.heap.size w wr
  gb : w.heap.size + 1 ≤ go ∧ go < ob

section
variable {w wr : World} {n : Nat} {L : List (Int × Nat)} {go ob : Nat} {R : Nat → Value × List Nat} {st ga me sp : Nat} {i : Nat} {bv : Value}

theorem L3.lt (h : L3 w wr n L go ob R st ga me sp i bv) : ob < wr.heap.size := (Array.getElem?_eq_some_iff.1 h.out).1

theorem L3.start {bt : Value} {k : Nat} (hk : L.length = k) (h : L2 w wr n L k k k bt go R) (ho : wr.heap[ob]? = some (.cells #[.float .f64 st, .float .f64 ga, .float .f64 me, .float .f64 sp, .slice none 0 0] 26)) (hlow : ∀ j, j < n → ∀ g, (R (2 + j)).1.ownBlock = some g → g < ob) (hgo : go < ob) : L3 w wr n L go ob R st ga me sp 0 (.slice none 0 0) := by
  subst hk
  exact ⟨fun j hj => by have := h.fr.own (2 + j) (by omega); rw [h.ow j hj] at this; exact this, hlow, h.gob, ho, World.ownsRow_nil _ _ _ _, h.res, h.bl, h.gb.1, hgo⟩

theorem L3.alloc (h : L3 w wr n L go ob R st ga me sp i bv) (o : Obj) : L3 w (wr.alloc o) n L go ob R st ga me sp i bv := by
  have hl := h.lt
  have hg := h.gb
  exact ⟨fun j hj => (h.own j hj).alloc _, h.low, (Below.heap_alloc wr o _ (by omega)).trans h.gob, (Below.heap_alloc wr o _ hl).trans h.out, h.bel.alloc _, (Below.heap_alloc wr o _ (by omega)).trans h.res, h.bl.alloc (by omega) o, hg⟩

theorem L3.keep {w' : World} (h : L3 w wr n L go ob R st ga me sp i bv) (hd : Drw wr w') : L3 w w' n L go ob R st ga me sp i bv :=
  ⟨fun j hj => fr_block (h.own j hj) (fun g _ => by rw [hd.heap]), h.low, by rw [hd.heap]; exact h.gob, by rw [hd.heap]; exact h.out, fr_block h.bel (fun g _ => by rw [hd.heap]), by rw [hd.heap]; exact h.res, h.bl.trans (hd.below _), h.gb⟩

/-- One bell's mean more. -/
theorem L3.push {w' : World} {bv' : Value} (h : L3 w wr n L go ob R st ga me sp i bv) (h4 : w'.ownsRow (ob + 1) 23 1 bv' (i + 1) ((belL n L i ++ [bellMean n L i]).map (Value.float .f64))) (hg : wr.grownBy w' bv.ownBlock) :
    L3 w (w'.setCell ⟨ob, 4, none⟩ bv') n L go ob R st ga me sp (i + 1) bv' := by
  have hl := h.lt
  have hgb := h.gb
  have hk : ∀ g, g < ob → (w'.setCell ⟨ob, 4, none⟩ bv').heap[g]? = wr.heap[g]? := fun g hg9 => (Below.heap_setCell _ _ _ _ (by show g ≠ ob; omega)).trans (hg.block g (by omega) (fun e => by have := (h.bel.lt g e.symm).1; omega))
  have ho : w'.heap[ob]? = some (.cells #[.float .f64 st, .float .f64 ga, .float .f64 me, .float .f64 sp, bv] 26) := (hg.block ob hl (fun e => by have := (h.bel.lt ob e.symm).1; omega)).trans h.out
  refine ⟨fun j hj => fr_block (h.own j hj) (fun g e => hk g (h.low j hj g e)), h.low, (hk _ hgb.2).trans h.gob, by simp [World.setCell, Array.getElem?_modify, ho], fr_block (by rw [belL_succ]; exact h4) (fun g e => Below.heap_setCell _ _ _ _ (by have := (h4.lt g e).1; show g ≠ ob; omega)), (hk _ (by omega)).trans h.res, (h.bl.grown hg (by omega) (fun g e => by have := (h.bel.lt g e).1; omega)).setCell (p := ⟨ob, 4, none⟩) (by show w.heap.size ≤ ob; omega) bv', hgb⟩

end
end Go.Proofs.Ythdlomgjmbldfaa
