/- Ahead of take and bring: bounds, tables with one more entry, what one says of the other. -/
import Derived.Test.YtbddhpbeekioiaaHas
namespace Go.Proofs.Ytbddhpbeekioiaa
open Go.RowKit

/-! how many different rows there may be -/

def enc : List Int → Nat
  | [] => 0
  | x :: t => x.toNat + 12 * enc t

theorem enc_lt : ∀ (l : List Int), (∀ x ∈ l, 0 ≤ x ∧ x < 12) → enc l < 12 ^ l.length
  | [], _ => by simp [enc]
  | x :: t, h => by
    have h1 := h x (by simp)
    have h2 := enc_lt t (fun y hy => h y (by simp [hy]))
    rw [List.length_cons, Nat.pow_succ]
    unfold enc
    omega

theorem enc_inj : ∀ (l m : List Int), l.length = m.length → (∀ x ∈ l, 0 ≤ x ∧ x < 12) → (∀ x ∈ m, 0 ≤ x ∧ x < 12) → enc l = enc m → l = m
  | [], [], _, _, _, _ => rfl
  | [], _ :: _, h, _, _, _ => by simp at h
  | _ :: _, [], h, _, _, _ => by simp at h
  | x :: t, y :: s, h, hl, hm, e => by
    have h1 := hl x (by simp)
    have h2 := hm y (by simp)
    unfold enc at e
    have e1 : x = y := by omega
    have e2 : enc t = enc s := by omega
    rw [e1, enc_inj t s (by simpa using h) (fun z hz => hl z (by simp [hz])) (fun z hz => hm z (by simp [hz])) e2]

theorem Pm.dig (x : Pm) : ∀ y ∈ x.l, 0 ≤ y ∧ y < 12 := fun y hy => by have := x.row.1 y hy; rw [x.len] at this; exact this

theorem gens_bound {gs : List Pm} (h : gs.Nodup) : gs.length ≤ 12 ^ 12 := by
  have h1 : (gs.map (fun x => enc x.l)).Nodup := by
    rw [List.nodup_iff_pairwise_ne, List.pairwise_map]
    rw [List.nodup_iff_pairwise_ne] at h
    refine h.imp (fun {a b} hne e => hne ?_)
    exact Pm.eq_of_l (enc_inj a.l b.l (by rw [a.len, b.len]) a.dig b.dig e)
  have h2 := nodup_len (gs.map (fun x => enc x.l)) (List.range (12 ^ 12)) h1 (fun y hy => by
    obtain ⟨x, _, rfl⟩ := List.mem_map.1 hy
    have := enc_lt x.l x.dig
    rw [x.len] at this
    exact List.mem_range.2 this)
  rw [List.length_map, List.length_range] at h2
  exact h2

theorem tab_len {F : Nat → Prop} {l : Lk} (h : LkOk F l) (hb : l.base < 12) : l.tab.length ≤ 12 := by
  have h2 := nodup_len (l.tab.map (·.1)) (List.range 12) h.nodup (fun y hy => by
    obtain ⟨e, he, rfl⟩ := List.mem_map.1 hy
    rw [← h.brings e he]
    exact List.mem_range.2 (e.2.act_lt hb))
  rw [List.length_map, List.length_range] at h2
  exact h2

theorem key_lt {F : Nat → Prop} {l : Lk} (h : LkOk F l) (hb : l.base < 12) {e : Nat × Pm} (he : e ∈ l.tab) : e.1 < 12 := by
  rw [← h.brings e he]; exact e.2.act_lt hb

/-! a table with one more entry -/

theorem lookup_snoc (tab : List (Nat × Pm)) (b : Nat) (p : Pm) (x : Nat) : (tab ++ [(b, p)]).lookup x = (tab.lookup x).or (if x = b then some p else none) := by
  induction tab with
  | nil =>
    show ([(b, p)] : List (Nat × Pm)).lookup x = _
    rw [List.lookup_cons]
    by_cases e : x = b
    · subst e; simp
    · simp [e, beq_eq_false_iff_ne.2 e]
  | cons e t ih =>
    rw [List.cons_append, List.lookup_cons, List.lookup_cons]
    cases h : x == e.1 with
    | true => simp
    | false => simpa using ih

theorem tabF_snoc {tab : List (Nat × Pm)} {b : Nat} (p : Pm) (h : tab.lookup b = none) : upd (tabF tab) (b : Int) (pv p) = tabF (tab ++ [(b, p)]) := by
  funext x
  unfold upd tabF
  by_cases hx : 0 ≤ x
  · obtain ⟨m, rfl⟩ := Int.eq_ofNat_of_zero_le hx
    rw [if_pos hx, if_pos hx, Int.toNat_natCast, lookup_snoc]
    by_cases e : m = b
    · subst e; rw [if_pos rfl, h, if_pos rfl]; rfl
    · rw [if_neg (by omega), if_neg e]; cases tab.lookup m <;> rfl
  · rw [if_neg (by omega), if_neg hx, if_neg hx]

theorem raw_add {l : Lk} {b : Nat} {p : Pm} (h : l.tab.lookup b = none) : ({ rawOf l with f := upd (rawOf l).f (b : Int) (pv p), n := (rawOf l).n + 1, bs := (rawOf l).bs ++ [.int .i64 (b : Int)] } : Raw) = rawOf (l.add b p) := by
  have e := tabF_snoc p h
  show (⟨l.base, l.tab.length + 1, upd (tabF l.tab) (b : Int) (pv p), l.tab.map (fun e => Value.int .i64 ((e.1 : Nat) : Int)) ++ [.int .i64 (b : Int)], l.gens⟩ : Raw) = ⟨l.base, (l.tab ++ [(b, p)]).length, tabF (l.tab ++ [(b, p)]), (l.tab ++ [(b, p)]).map (fun e => Value.int .i64 ((e.1 : Nat) : Int)), l.gens⟩
  rw [e]
  simp

theorem raw_gen (l : Lk) (p : Pm) : ({ rawOf l with gs := (rawOf l).gs ++ [p] } : Raw) = rawOf (l.gen p) := rfl

theorem map_mid (pre : List Lk) (l : Lk) (c : List Lk) : ((pre ++ l :: c).map rawOf)[pre.length]? = some (rawOf l) := by simp

theorem set_mid (pre : List Lk) (l l' : Lk) (c : List Lk) : ((pre ++ l :: c).map rawOf).set pre.length (rawOf l') = (pre ++ l' :: c).map rawOf := by
  simp

theorem set_mid2 (pre : List Lk) (l : Lk) (c : List Lk) (r r' : Raw) : (((pre ++ l :: c).map rawOf).set pre.length r).set pre.length r' = ((pre ++ l :: c).map rawOf).set pre.length r' := by
  rw [List.set_set]

theorem foot_succ {g k : Nat} {R : List Raw} {st : Nat → St} {b x : Nat} (h : Foot g (k + 1) R st b x) : Foot g k R st b x := by
  rcases h with ⟨h1, h2⟩ | ⟨j, r, hj, hr, h1⟩
  · exact Or.inl ⟨h1, by omega⟩
  · exact Or.inr ⟨j, r, by omega, hr, h1⟩

theorem foot_lt {w : World} {B g k : Nat} {R : List Raw} {st : Nat → St} (h : ChainAt w B g R st) {b x : Nat} (hf : Foot g k R st b x) : b < w.heap.size ∧ B ≤ b := by
  rcases hf with ⟨rfl, _⟩ | ⟨j, r, _, hr, h1⟩
  · exact ⟨h.lt_g, h.gB⟩
  · have l := h.link j r hr
    rcases h1 with rfl | ⟨h1, _⟩ | ⟨h1, _⟩
    · exact ⟨l.mp.lt, l.mB⟩
    · exact ⟨(l.bells.lt b h1).2, (l.bells.lt b h1).1⟩
    · exact ⟨(l.gens.lt b h1).2, (l.gens.lt b h1).1⟩

/-- What is no part of the chain is kept. -/
theorem keep_arr {w w' : World} {g k D : Nat} {R : List Raw} {st : Nat → St} {zs : List Int} (hK : Keep (Foot g k R st) w w') (hA : Arr w D zs) (hn : ∀ x, ¬ Foot g k R st D x) : Arr w' D zs :=
  ⟨by rw [hK.block D hA.lt hn]; exact hA.1, hA.2⟩

/-- Bells that a header had are there. -/
theorem keep_ints {w w' : World} {S : Nat → Nat → Prop} {B e : Nat} {v : Value} {xs : List Value} (hK : Keep S w w') (h : w.ownsRow B e 1 v xs.length xs) {b : Nat} (hb : v.ownBlock = some b) (hn : ∀ x, x < xs.length → ¬ S b x) {j : Nat} (hj : j < xs.length) :
    w'.cell? ⟨b, j, none⟩ = some (xs.getD j undef) := by
  rw [hK.cell b j (h.lt b hb).2 (hn j hj)]
  have := h.cells hb j (xs.getD j undef) (by simp [List.getD, List.getElem?_eq_getElem hj])
  rw [Addr.add_lit, Nat.zero_add] at this
  exact this

/-- Rows of generators that a header had are there. -/
theorem gcells_at : ∀ (gs : List Pm) (i : Nat) (p : Pm), gs[i]? = some p → ∀ j, j < 12 → (gcells gs)[i * 12 + j]? = some (.int .i8 (p.l.getD j 0))
  | [], _, _, h, _, _ => by simp at h
  | x :: t, 0, p, h, j, hj => by
    have : x = p := by simpa using h
    subst this
    show (x.l.map (Value.int .i8) ++ gcells t)[0 * 12 + j]? = _
    rw [List.getElem?_append_left (by rw [List.length_map, x.len]; omega)]
    simp [List.getD, x.len, hj]
  | x :: t, i + 1, p, h, j, hj => by
    show (x.l.map (Value.int .i8) ++ gcells t)[(i + 1) * 12 + j]? = _
    rw [List.getElem?_append_right (by rw [List.length_map, x.len]; omega), List.length_map, x.len, show (i + 1) * 12 + j - 12 = i * 12 + j from by omega]
    exact gcells_at t i p (by simpa using h) j hj

theorem keep_gens {w w' : World} {S : Nat → Nat → Prop} {B : Nat} {v : Value} {gs : List Pm} (hK : Keep S w w') (h : w.ownsRow B 92 12 v gs.length (gcells gs)) {b : Nat} (hb : v.ownBlock = some b) (hn : ∀ x, x < 12 * gs.length → ¬ S b x) {i : Nat} {p : Pm} (hi : gs[i]? = some p) :
    w'.rangeAt b (i * 12) (p.l.map (Value.int .i8)) := by
  intro j v hv
  have hil := (List.getElem?_eq_some_iff.1 hi).1
  have hj : j < 12 := by have := (List.getElem?_eq_some_iff.1 hv).1; rw [List.length_map, p.len] at this; exact this
  rw [hK.cell b _ (h.lt b hb).2 (hn _ (by omega))]
  have := h.cells hb (i * 12 + j) _ (gcells_at gs i p hi j hj)
  rw [Addr.add_lit, Nat.zero_add] at this
  rw [this, ← hv]
  simp [List.getD, p.len, hj]

/-- What take leaves. -/
def TakePost (B g : Nat) (pre cs : List Lk) (st : Nat → St) (p : Pm) (F : Nat → Prop) (w : World) (e : Ending) (w' : World) : Prop := ∃ v, e = .returned v ∧ ∃ cs' st', Whole F cs' ∧ Took cs cs' p ∧ ChainAt w' B g ((pre ++ cs').map rawOf) st' ∧
  Keep (Foot g pre.length ((pre ++ cs).map rawOf) st) w w' ∧ (∀ b x, b < w.heap.size → Foot g pre.length ((pre ++ cs').map rawOf) st' b x → Foot g pre.length ((pre ++ cs).map rawOf) st b x) ∧ (∀ l, l ∈ cs' → l.gens.Nodup) ∧ (∀ j, j < pre.length → st' j = st j)

/-- What take says at a level. -/
def TakeSays (n k : Nat) : Prop := ∀ (B g : Nat) (pre cs : List Lk) (st : Nat → St) (p : Pm) (F : Nat → Prop) (w : World), pre.length = k → k + cs.length = n → n ≤ 12 → (∀ l, l ∈ pre ++ cs → l.base < 12) → (∀ l, l ∈ cs → l.gens.Nodup) →
    ChainAt w B g ((pre ++ cs).map rawOf) st → Whole F cs → Fixes F p →
    Calls Try.prog 95 #[.slice (some ⟨g, 0, none⟩) n n, .int .i64 k, pv p] w fun e w' => TakePost B g pre cs st p F w e w'

/-- What bring leaves. -/
def BringPost (B g : Nat) (pre : List Lk) (l : Lk) (c : List Lk) (st : Nat → St) (p : Pm) (F : Nat → Prop) (w : World) (e : Ending) (w' : World) : Prop := ∃ v, e = .returned v ∧ ∃ l' c' st', Part F l' c' ∧ Brought l c l' c' p ∧ ChainAt w' B g ((pre ++ l' :: c').map rawOf) st' ∧
  Keep (Foot g pre.length ((pre ++ l :: c).map rawOf) st) w w' ∧ (∀ b x, b < w.heap.size → Foot g pre.length ((pre ++ l' :: c').map rawOf) st' b x → Foot g pre.length ((pre ++ l :: c).map rawOf) st b x) ∧ (∀ x, x ∈ l' :: c' → x.gens.Nodup) ∧ (∀ j, j < pre.length → st' j = st j)

/-- What bring says at a level, where at most m bells are still to come. -/
def BringFor (n k m B g : Nat) (pre : List Lk) (l : Lk) (c : List Lk) (st : Nat → St) (p : Pm) (F : Nat → Prop) (w : World) : Prop := pre.length = k → k + 1 + c.length = n → n ≤ 12 → 12 - l.tab.length ≤ m → (∀ x, x ∈ pre ++ l :: c → x.base < 12) → (∀ x, x ∈ l :: c → x.gens.Nodup) →
    ChainAt w B g ((pre ++ l :: c).map rawOf) st → Part F l c → Fixes F p → Gen (fun x => x ∈ l.gens) p →
    Calls Try.prog 102 #[.slice (some ⟨g, 0, none⟩) n n, .int .i64 k, pv p] w fun e w' => BringPost B g pre l c st p F w e w'

def BringSays (n k m : Nat) : Prop := ∀ (B g : Nat) (pre : List Lk) (l : Lk) (c : List Lk) (st : Nat → St) (p : Pm) (F : Nat → Prop) (w : World), BringFor n k m B g pre l c st p F w

theorem BringPost.mk {B g : Nat} {pre : List Lk} {l : Lk} {c : List Lk} {st : Nat → St} {p : Pm} {F : Nat → Prop} {w w' : World} {v : Value} {l' : Lk} {c' : List Lk} {st' : Nat → St} (h1 : Part F l' c') (h2 : Brought l c l' c' p) (h3 : ChainAt w' B g ((pre ++ l' :: c').map rawOf) st')
    (h4 : Keep (Foot g pre.length ((pre ++ l :: c).map rawOf) st) w w') (h5 : ∀ b x, b < w.heap.size → Foot g pre.length ((pre ++ l' :: c').map rawOf) st' b x → Foot g pre.length ((pre ++ l :: c).map rawOf) st b x) (h6 : ∀ x, x ∈ l' :: c' → x.gens.Nodup) (h7 : ∀ j, j < pre.length → st' j = st j) :
    BringPost B g pre l c st p F w (.returned v) w' := ⟨v, rfl, l', c', st', h1, h2, h3, h4, h5, h6, h7⟩

theorem TakePost.mk {B g : Nat} {pre cs : List Lk} {st : Nat → St} {p : Pm} {F : Nat → Prop} {w w' : World} {v : Value} {cs' : List Lk} {st' : Nat → St} (h1 : Whole F cs') (h2 : Took cs cs' p) (h3 : ChainAt w' B g ((pre ++ cs').map rawOf) st')
    (h4 : Keep (Foot g pre.length ((pre ++ cs).map rawOf) st) w w') (h5 : ∀ b x, b < w.heap.size → Foot g pre.length ((pre ++ cs').map rawOf) st' b x → Foot g pre.length ((pre ++ cs).map rawOf) st b x) (h6 : ∀ x, x ∈ cs' → x.gens.Nodup) (h7 : ∀ j, j < pre.length → st' j = st j) :
    TakePost B g pre cs st p F w (.returned v) w' := ⟨v, rfl, cs', st', h1, h2, h3, h4, h5, h6, h7⟩

/-- The links ahead, as they were: what the next level leaves, this one does. -/
theorem foot_up {g : Nat} {pre : List Lk} {l : Lk} {c c' : List Lk} {st st' : Nat → St} {b x : Nat} (hf : Foot g (pre.length + 1) ((pre ++ l :: c').map rawOf) st' b x → Foot g (pre.length + 1) ((pre ++ l :: c).map rawOf) st b x) (hs : st' pre.length = st pre.length)
    (h : Foot g pre.length ((pre ++ l :: c').map rawOf) st' b x) : Foot g pre.length ((pre ++ l :: c).map rawOf) st b x := by
  rcases h with h | ⟨j, r, hj, hr, h1⟩
  · exact Or.inl h
  · rcases Nat.lt_or_ge pre.length j with hlt | hge
    · exact foot_succ (hf (Or.inr ⟨j, r, hlt, hr, h1⟩))
    · have e : j = pre.length := by omega
      subst e
      rw [map_mid] at hr
      rw [hs] at h1
      exact Or.inr ⟨pre.length, r, Nat.le_refl _, by rw [map_mid]; exact hr, h1⟩

/-- What a run of steps has left of a chain. -/
structure Mid (w wr : World) (B g k : Nat) (R : List Raw) (st : Nat → St) (R' : List Raw) (st' : Nat → St) : Prop where
  chain : ChainAt wr B g R' st'
  keep : Keep (Foot g k R st) w wr
  foot : ∀ b x, b < w.heap.size → Foot g k R' st' b x → Foot g k R st b x
  low : ∀ j, j < k → st' j = st j

theorem Mid.start {w wr : World} {B g k : Nat} {R : List Raw} {st : Nat → St} (h : ChainAt w B g R st) (hb : Below w.heap.size w wr) : Mid w wr B g k R st R st :=
  ⟨h.below hb (Nat.le_refl _), Keep.of_below hb (Nat.le_refl _), fun _ _ _ h => h, fun _ _ => rfl⟩

theorem Mid.step {w w1 w2 : World} {B g k : Nat} {R R1 R2 : List Raw} {st st1 st2 : Nat → St} (h : Mid w w1 B g k R st R1 st1) (hc : ChainAt w2 B g R2 st2) (hk : Keep (Foot g k R1 st1) w1 w2) (hf : ∀ b x, b < w1.heap.size → Foot g k R2 st2 b x → Foot g k R1 st1 b x) (hl : ∀ j, j < k → st2 j = st1 j) : Mid w w2 B g k R st R2 st2 :=
  ⟨hc, h.keep.trans hk h.foot, fun b x hb hx => h.foot b x hb (hf b x (Nat.lt_of_lt_of_le hb h.keep.size) hx), fun j hj => (hl j hj).trans (h.low j hj)⟩

/-- The chain's cells that may change were there at the beginning, or are new. -/
theorem Mid.foot' {w wr : World} {B g k : Nat} {R R' : List Raw} {st st' : Nat → St} (h : Mid w wr B g k R st R' st') {b x : Nat} (hf : Foot g k R' st' b x) (hb : b < w.heap.size) : Foot g k R st b x := h.foot b x hb hf

theorem Mid.quiet {w w1 w2 : World} {B g k : Nat} {R R1 : List Raw} {st st1 : Nat → St} (h : Mid w w1 B g k R st R1 st1) (hb : Below w1.heap.size w1 w2) : Mid w w2 B g k R st R1 st1 :=
  h.step (h.chain.below hb (Nat.le_refl _)) (Keep.of_below hb (Nat.le_refl _)) (fun _ _ _ h => h) (fun _ _ => rfl)

/-- The cells of the generators that are there are kept. -/
theorem foot_gens {w : World} {B g k : Nat} {R : List Raw} {st : Nat → St} (h : ChainAt w B g R st) {r : Raw} (hk : R[k]? = some r) {b x : Nat} (hb : (st k).vg.ownBlock = some b) (hx : x < 12 * r.gs.length) : ¬ Foot g k R st b x := by
  have kd := h.kinds hk hk
  rintro (⟨rfl, _⟩ | ⟨j, q, hj, hq, h1⟩)
  · exact kd.2.2.1 hb
  · have kj := h.kinds hk hq
    have jk := h.kinds hq hk
    rcases h1 with rfl | ⟨h1, _⟩ | ⟨h1, h2⟩
    · exact kj.2.2.2.2.1 hb
    · exact jk.2.2.2.2.2 b h1 hb
    · by_cases e : j = k
      · subst e
        rw [hk] at hq
        injection hq with hq; subst hq
        omega
      · exact h.gdis j k (get_lt hq) (get_lt hk) e b h1 hb

/-- .. and of the bells. -/
theorem foot_bells {w : World} {B g k : Nat} {R : List Raw} {st : Nat → St} (h : ChainAt w B g R st) {r : Raw} (hk : R[k]? = some r) {b x : Nat} (hb : (st k).vb.ownBlock = some b) (hx : x < r.bs.length) : ¬ Foot g k R st b x := by
  have kd := h.kinds hk hk
  rintro (⟨rfl, _⟩ | ⟨j, q, hj, hq, h1⟩)
  · exact kd.2.1 hb
  · have kj := h.kinds hk hq
    rcases h1 with rfl | ⟨h1, h2⟩ | ⟨h1, _⟩
    · exact kj.2.2.2.1 hb
    · by_cases e : j = k
      · subst e
        rw [hk] at hq
        injection hq with hq; subst hq
        omega
      · exact h.bdis j k (get_lt hq) (get_lt hk) e b h1 hb
    · exact kj.2.2.2.2.2 b hb h1

theorem owns_some {w : World} {base e size n : Nat} {p : Option Addr} {m cap : Nat} {xs : List Value} (h : w.ownsRow base e size (.slice p m cap) n xs) (hn : 1 ≤ n) : ∃ b, p = some ⟨b, 0, none⟩ ∧ m = n ∧ n ≤ cap ∧ cap ≤ 9223372036854775807 := by
  rcases h.2 with ⟨_, h0⟩ | ⟨g, c, cur, e, _, _, hc, hm, _⟩
  · omega
  · injection e with e1 e2 e3
    exact ⟨g, e1, e2, by omega, by unfold maxLen at hm; omega⟩

theorem bases_of {pre cs cs' : List Lk} (h : cs'.map (·.base) = cs.map (·.base)) (hb : ∀ l, l ∈ pre ++ cs → l.base < 12) : ∀ l, l ∈ pre ++ cs' → l.base < 12 := by
  intro l hl
  rcases List.mem_append.1 hl with hl | hl
  · exact hb l (List.mem_append_left _ hl)
  · have : l.base ∈ cs.map (·.base) := by rw [← h]; exact List.mem_map.2 ⟨l, hl, rfl⟩
    obtain ⟨l0, hl0, e⟩ := List.mem_map.1 this
    rw [← e]; exact hb l0 (List.mem_append_right _ hl0)

end Go.Proofs.Ytbddhpbeekioiaa
