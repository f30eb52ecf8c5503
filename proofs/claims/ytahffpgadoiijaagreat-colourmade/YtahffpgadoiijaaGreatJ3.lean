/- Joined: GrowA, Bring, BringN, Take, Chain, NewChain. -/
import Derived.Test.YtahffpgadoiijaaGreatJ2
/- Ahead of take and bring: bounds, tables with one more entry, what one says of the other. -/
namespace Go.Proofs.YtahffpgadoiijaaGreat
open Go.RowKit

/-! how many different rows there may be -/

def enc : List Int → Nat
  | [] => 0
  | x :: t => x.toNat + 12 * enc t

theorem enc_lt : ∀ (l : List Int), (∀ x ∈ l, 0 ≤ x ∧ x < 12) → enc l < 12 ^ l.length
  | [], _ => by simp [enc]
  | x :: t, h => by
    have h1 := h x (by simp)
    have h2 := enc_lt t (fun y hy => h y (by simp [hy]))
    rw [List.length_cons, Nat.pow_succ]
    unfold enc
    omega

theorem enc_inj : ∀ (l m : List Int), l.length = m.length → (∀ x ∈ l, 0 ≤ x ∧ x < 12) → (∀ x ∈ m, 0 ≤ x ∧ x < 12) → enc l = enc m → l = m
  | [], [], _, _, _, _ => rfl
  | [], _ :: _, h, _, _, _ => by simp at h
  | _ :: _, [], h, _, _, _ => by simp at h
  | x :: t, y :: s, h, hl, hm, e => by
    have h1 := hl x (by simp)
    have h2 := hm y (by simp)
    unfold enc at e
    have e1 : x = y := by omega
    have e2 : enc t = enc s := by omega
    rw [e1, enc_inj t s (by simpa using h) (fun z hz => hl z (by simp [hz])) (fun z hz => hm z (by simp [hz])) e2]

theorem Pm.dig (x : Pm) : ∀ y ∈ x.l, 0 ≤ y ∧ y < 12 := fun y hy => by have := x.row.1 y hy; rw [x.len] at this; exact this

theorem gens_bound {gs : List Pm} (h : gs.Nodup) : gs.length ≤ 12 ^ 12 := by
  have h1 : (gs.map (fun x => enc x.l)).Nodup := by
    rw [List.nodup_iff_pairwise_ne, List.pairwise_map]
    rw [List.nodup_iff_pairwise_ne] at h
    refine h.imp (fun {a b} hne e => hne ?_)
    exact Pm.eq_of_l (enc_inj a.l b.l (by rw [a.len, b.len]) a.dig b.dig e)
  have h2 := nodup_len (gs.map (fun x => enc x.l)) (List.range (12 ^ 12)) h1 (fun y hy => by
    obtain ⟨x, _, rfl⟩ := List.mem_map.1 hy
    have := enc_lt x.l x.dig
    rw [x.len] at this
    exact List.mem_range.2 this)
  rw [List.length_map, List.length_range] at h2
  exact h2

theorem tab_len {F : Nat → Prop} {l : Lk} (h : LkOk F l) (hb : l.base < 12) : l.tab.length ≤ 12 := by
  have h2 := nodup_len (l.tab.map (·.1)) (List.range 12) h.nodup (fun y hy => by
    obtain ⟨e, he, rfl⟩ := List.mem_map.1 hy
    rw [← h.brings e he]
    exact List.mem_range.2 (e.2.act_lt hb))
  rw [List.length_map, List.length_range] at h2
  exact h2

theorem key_lt {F : Nat → Prop} {l : Lk} (h : LkOk F l) (hb : l.base < 12) {e : Nat × Pm} (he : e ∈ l.tab) : e.1 < 12 := by
  rw [← h.brings e he]; exact e.2.act_lt hb

/-! a table with one more entry -/

theorem lookup_snoc (tab : List (Nat × Pm)) (b : Nat) (p : Pm) (x : Nat) : (tab ++ [(b, p)]).lookup x = (tab.lookup x).or (if x = b then some p else none) := by
  induction tab with
  | nil =>
    show ([(b, p)] : List (Nat × Pm)).lookup x = _
    rw [List.lookup_cons]
    by_cases e : x = b
    · subst e; simp
    · simp [e, beq_eq_false_iff_ne.2 e]
  | cons e t ih =>
    rw [List.cons_append, List.lookup_cons, List.lookup_cons]
    cases h : x == e.1 with
    | true => simp
    | false => simpa using ih

theorem tabF_snoc {tab : List (Nat × Pm)} {b : Nat} (p : Pm) (h : tab.lookup b = none) : upd (tabF tab) (b : Int) (pv p) = tabF (tab ++ [(b, p)]) := by
  funext x
  unfold upd tabF
  by_cases hx : 0 ≤ x
  · obtain ⟨m, rfl⟩ := Int.eq_ofNat_of_zero_le hx
    rw [if_pos hx, if_pos hx, Int.toNat_natCast, lookup_snoc]
    by_cases e : m = b
    · subst e; rw [if_pos rfl, h, if_pos rfl]; rfl
    · rw [if_neg (by omega), if_neg e]; cases tab.lookup m <;> rfl
  · rw [if_neg (by omega), if_neg hx, if_neg hx]

theorem raw_add {l : Lk} {b : Nat} {p : Pm} (h : l.tab.lookup b = none) : ({ rawOf l with f := upd (rawOf l).f (b : Int) (pv p), n := (rawOf l).n + 1, bs := (rawOf l).bs ++ [.int .i64 (b : Int)] } : Raw) = rawOf (l.add b p) := by
  have e := tabF_snoc p h
  show (⟨l.base, l.tab.length + 1, upd (tabF l.tab) (b : Int) (pv p), l.tab.map (fun e => Value.int .i64 ((e.1 : Nat) : Int)) ++ [.int .i64 (b : Int)], l.gens⟩ : Raw) = ⟨l.base, (l.tab ++ [(b, p)]).length, tabF (l.tab ++ [(b, p)]), (l.tab ++ [(b, p)]).map (fun e => Value.int .i64 ((e.1 : Nat) : Int)), l.gens⟩
  rw [e]
  simp

theorem raw_gen (l : Lk) (p : Pm) : ({ rawOf l with gs := (rawOf l).gs ++ [p] } : Raw) = rawOf (l.gen p) := rfl

theorem map_mid (pre : List Lk) (l : Lk) (c : List Lk) : ((pre ++ l :: c).map rawOf)[pre.length]? = some (rawOf l) := by simp

theorem set_mid (pre : List Lk) (l l' : Lk) (c : List Lk) : ((pre ++ l :: c).map rawOf).set pre.length (rawOf l') = (pre ++ l' :: c).map rawOf := by
  simp

theorem set_mid2 (pre : List Lk) (l : Lk) (c : List Lk) (r r' : Raw) : (((pre ++ l :: c).map rawOf).set pre.length r).set pre.length r' = ((pre ++ l :: c).map rawOf).set pre.length r' := by
  rw [List.set_set]

theorem foot_succ {g k : Nat} {R : List Raw} {st : Nat → St} {b x : Nat} (h : Foot g (k + 1) R st b x) : Foot g k R st b x := by
  rcases h with ⟨h1, h2⟩ | ⟨j, r, hj, hr, h1⟩
  · exact Or.inl ⟨h1, by omega⟩
  · exact Or.inr ⟨j, r, by omega, hr, h1⟩

theorem foot_lt {w : World} {B g k : Nat} {R : List Raw} {st : Nat → St} (h : ChainAt w B g R st) {b x : Nat} (hf : Foot g k R st b x) : b < w.heap.size ∧ B ≤ b := by
  rcases hf with ⟨rfl, _⟩ | ⟨j, r, _, hr, h1⟩
  · exact ⟨h.lt_g, h.gB⟩
  · have l := h.link j r hr
    rcases h1 with rfl | ⟨h1, _⟩ | ⟨h1, _⟩
    · exact ⟨l.mp.lt, l.mB⟩
    · exact ⟨(l.bells.lt b h1).2, (l.bells.lt b h1).1⟩
    · exact ⟨(l.gens.lt b h1).2, (l.gens.lt b h1).1⟩

/-- What is no part of the chain is kept. -/
theorem keep_arr {w w' : World} {g k D : Nat} {R : List Raw} {st : Nat → St} {zs : List Int} (hK : Keep (Foot g k R st) w w') (hA : Arr w D zs) (hn : ∀ x, ¬ Foot g k R st D x) : Arr w' D zs :=
  ⟨by rw [hK.block D hA.lt hn]; exact hA.1, hA.2⟩

/-- Bells that a header had are there. -/
theorem keep_ints {w w' : World} {S : Nat → Nat → Prop} {B e : Nat} {v : Value} {xs : List Value} (hK : Keep S w w') (h : w.ownsRow B e 1 v xs.length xs) {b : Nat} (hb : v.ownBlock = some b) (hn : ∀ x, x < xs.length → ¬ S b x) {j : Nat} (hj : j < xs.length) :
    w'.cell? ⟨b, j, none⟩ = some (xs.getD j undef) := by
  rw [hK.cell b j (h.lt b hb).2 (hn j hj)]
  have := h.cells hb j (xs.getD j undef) (by simp [List.getD, List.getElem?_eq_getElem hj])
  rw [Addr.add_lit, Nat.zero_add] at this
  exact this

/-- Rows of generators that a header had are there. -/
theorem gcells_at : ∀ (gs : List Pm) (i : Nat) (p : Pm), gs[i]? = some p → ∀ j, j < 12 → (gcells gs)[i * 12 + j]? = some (.int .i8 (p.l.getD j 0))
  | [], _, _, h, _, _ => by simp at h
  | x :: t, 0, p, h, j, hj => by
    have : x = p := by simpa using h
    subst this
    show (x.l.map (Value.int .i8) ++ gcells t)[0 * 12 + j]? = _
    rw [List.getElem?_append_left (by rw [List.length_map, x.len]; omega)]
    simp [List.getD, x.len, hj]
  | x :: t, i + 1, p, h, j, hj => by
    show (x.l.map (Value.int .i8) ++ gcells t)[(i + 1) * 12 + j]? = _
    rw [List.getElem?_append_right (by rw [List.length_map, x.len]; omega), List.length_map, x.len, show (i + 1) * 12 + j - 12 = i * 12 + j from by omega]
    exact gcells_at t i p (by simpa using h) j hj

theorem keep_gens {w w' : World} {S : Nat → Nat → Prop} {B : Nat} {v : Value} {gs : List Pm} (hK : Keep S w w') (h : w.ownsRow B 78 12 v gs.length (gcells gs)) {b : Nat} (hb : v.ownBlock = some b) (hn : ∀ x, x < 12 * gs.length → ¬ S b x) {i : Nat} {p : Pm} (hi : gs[i]? = some p) :
    w'.rangeAt b (i * 12) (p.l.map (Value.int .i8)) := by
  intro j v hv
  have hil := (List.getElem?_eq_some_iff.1 hi).1
  have hj : j < 12 := by have := (List.getElem?_eq_some_iff.1 hv).1; rw [List.length_map, p.len] at this; exact this
  rw [hK.cell b _ (h.lt b hb).2 (hn _ (by omega))]
  have := h.cells hb (i * 12 + j) _ (gcells_at gs i p hi j hj)
  rw [Addr.add_lit, Nat.zero_add] at this
  rw [this, ← hv]
  simp [List.getD, p.len, hj]

/-- What take leaves. -/
def TakePost (B g : Nat) (pre cs : List Lk) (st : Nat → St) (p : Pm) (F : Nat → Prop) (w : World) (e : Ending) (w' : World) : Prop := ∃ v, e = .returned v ∧ ∃ cs' st', Whole F cs' ∧ Took cs cs' p ∧ ChainAt w' B g ((pre ++ cs').map rawOf) st' ∧
  Keep (Foot g pre.length ((pre ++ cs).map rawOf) st) w w' ∧ (∀ b x, b < w.heap.size → Foot g pre.length ((pre ++ cs').map rawOf) st' b x → Foot g pre.length ((pre ++ cs).map rawOf) st b x) ∧ (∀ l, l ∈ cs' → l.gens.Nodup) ∧ (∀ j, j < pre.length → st' j = st j)

/-- What take says at a level. -/
def TakeSays (n k : Nat) : Prop := ∀ (B g : Nat) (pre cs : List Lk) (st : Nat → St) (p : Pm) (F : Nat → Prop) (w : World), pre.length = k → k + cs.length = n → n ≤ 12 → (∀ l, l ∈ pre ++ cs → l.base < 12) → (∀ l, l ∈ cs → l.gens.Nodup) →
    ChainAt w B g ((pre ++ cs).map rawOf) st → Whole F cs → Fixes F p →
    Calls Tryz.prog 81 #[.slice (some ⟨g, 0, none⟩) n n, .int .i64 k, pv p] w fun e w' => TakePost B g pre cs st p F w e w'

/-- What bring leaves. -/
def BringPost (B g : Nat) (pre : List Lk) (l : Lk) (c : List Lk) (st : Nat → St) (p : Pm) (F : Nat → Prop) (w : World) (e : Ending) (w' : World) : Prop := ∃ v, e = .returned v ∧ ∃ l' c' st', Part F l' c' ∧ Brought l c l' c' p ∧ ChainAt w' B g ((pre ++ l' :: c').map rawOf) st' ∧
  Keep (Foot g pre.length ((pre ++ l :: c).map rawOf) st) w w' ∧ (∀ b x, b < w.heap.size → Foot g pre.length ((pre ++ l' :: c').map rawOf) st' b x → Foot g pre.length ((pre ++ l :: c).map rawOf) st b x) ∧ (∀ x, x ∈ l' :: c' → x.gens.Nodup) ∧ (∀ j, j < pre.length → st' j = st j)

/-- What bring says at a level, where at most m bells are still to come. -/
def BringFor (n k m B g : Nat) (pre : List Lk) (l : Lk) (c : List Lk) (st : Nat → St) (p : Pm) (F : Nat → Prop) (w : World) : Prop := pre.length = k → k + 1 + c.length = n → n ≤ 12 → 12 - l.tab.length ≤ m → (∀ x, x ∈ pre ++ l :: c → x.base < 12) → (∀ x, x ∈ l :: c → x.gens.Nodup) →
    ChainAt w B g ((pre ++ l :: c).map rawOf) st → Part F l c → Fixes F p → Gen (fun x => x ∈ l.gens) p →
    Calls Tryz.prog 98 #[.slice (some ⟨g, 0, none⟩) n n, .int .i64 k, pv p] w fun e w' => BringPost B g pre l c st p F w e w'

def BringSays (n k m : Nat) : Prop := ∀ (B g : Nat) (pre : List Lk) (l : Lk) (c : List Lk) (st : Nat → St) (p : Pm) (F : Nat → Prop) (w : World), BringFor n k m B g pre l c st p F w

theorem BringPost.mk {B g : Nat} {pre : List Lk} {l : Lk} {c : List Lk} {st : Nat → St} {p : Pm} {F : Nat → Prop} {w w' : World} {v : Value} {l' : Lk} {c' : List Lk} {st' : Nat → St} (h1 : Part F l' c') (h2 : Brought l c l' c' p) (h3 : ChainAt w' B g ((pre ++ l' :: c').map rawOf) st')
    (h4 : Keep (Foot g pre.length ((pre ++ l :: c).map rawOf) st) w w') (h5 : ∀ b x, b < w.heap.size → Foot g pre.length ((pre ++ l' :: c').map rawOf) st' b x → Foot g pre.length ((pre ++ l :: c).map rawOf) st b x) (h6 : ∀ x, x ∈ l' :: c' → x.gens.Nodup) (h7 : ∀ j, j < pre.length → st' j = st j) :
    BringPost B g pre l c st p F w (.returned v) w' := ⟨v, rfl, l', c', st', h1, h2, h3, h4, h5, h6, h7⟩

theorem TakePost.mk {B g : Nat} {pre cs : List Lk} {st : Nat → St} {p : Pm} {F : Nat → Prop} {w w' : World} {v : Value} {cs' : List Lk} {st' : Nat → St} (h1 : Whole F cs') (h2 : Took cs cs' p) (h3 : ChainAt w' B g ((pre ++ cs').map rawOf) st')
    (h4 : Keep (Foot g pre.length ((pre ++ cs).map rawOf) st) w w') (h5 : ∀ b x, b < w.heap.size → Foot g pre.length ((pre ++ cs').map rawOf) st' b x → Foot g pre.length ((pre ++ cs).map rawOf) st b x) (h6 : ∀ x, x ∈ cs' → x.gens.Nodup) (h7 : ∀ j, j < pre.length → st' j = st j) :
    TakePost B g pre cs st p F w (.returned v) w' := ⟨v, rfl, cs', st', h1, h2, h3, h4, h5, h6, h7⟩

/-- The links ahead, as they were: what the next level leaves, this one does. -/
theorem foot_up {g : Nat} {pre : List Lk} {l : Lk} {c c' : List Lk} {st st' : Nat → St} {b x : Nat} (hf : Foot g (pre.length + 1) ((pre ++ l :: c').map rawOf) st' b x → Foot g (pre.length + 1) ((pre ++ l :: c).map rawOf) st b x) (hs : st' pre.length = st pre.length)
    (h : Foot g pre.length ((pre ++ l :: c').map rawOf) st' b x) : Foot g pre.length ((pre ++ l :: c).map rawOf) st b x := by
  rcases h with h | ⟨j, r, hj, hr, h1⟩
  · exact Or.inl h
  · rcases Nat.lt_or_ge pre.length j with hlt | hge
    · exact foot_succ (hf (Or.inr ⟨j, r, hlt, hr, h1⟩))
    · have e : j = pre.length := by omega
      subst e
      rw [map_mid] at hr
      rw [hs] at h1
      exact Or.inr ⟨pre.length, r, Nat.le_refl _, by rw [map_mid]; exact hr, h1⟩

/-- What a run of steps has left of a chain. -/
structure Mid (w wr : World) (B g k : Nat) (R : List Raw) (st : Nat → St) (R' : List Raw) (st' : Nat → St) : Prop where
  chain : ChainAt wr B g R' st'
  keep : Keep (Foot g k R st) w wr
  foot : ∀ b x, b < w.heap.size → Foot g k R' st' b x → Foot g k R st b x
  low : ∀ j, j < k → st' j = st j

theorem Mid.start {w wr : World} {B g k : Nat} {R : List Raw} {st : Nat → St} (h : ChainAt w B g R st) (hb : Below w.heap.size w wr) : Mid w wr B g k R st R st :=
  ⟨h.below hb (Nat.le_refl _), Keep.of_below hb (Nat.le_refl _), fun _ _ _ h => h, fun _ _ => rfl⟩

theorem Mid.step {w w1 w2 : World} {B g k : Nat} {R R1 R2 : List Raw} {st st1 st2 : Nat → St} (h : Mid w w1 B g k R st R1 st1) (hc : ChainAt w2 B g R2 st2) (hk : Keep (Foot g k R1 st1) w1 w2) (hf : ∀ b x, b < w1.heap.size → Foot g k R2 st2 b x → Foot g k R1 st1 b x) (hl : ∀ j, j < k → st2 j = st1 j) : Mid w w2 B g k R st R2 st2 :=
  ⟨hc, h.keep.trans hk h.foot, fun b x hb hx => h.foot b x hb (hf b x (Nat.lt_of_lt_of_le hb h.keep.size) hx), fun j hj => (hl j hj).trans (h.low j hj)⟩

/-- The chain's cells that may change were there at the beginning, or are new. -/
theorem Mid.foot' {w wr : World} {B g k : Nat} {R R' : List Raw} {st st' : Nat → St} (h : Mid w wr B g k R st R' st') {b x : Nat} (hf : Foot g k R' st' b x) (hb : b < w.heap.size) : Foot g k R st b x := h.foot b x hb hf

theorem Mid.quiet {w w1 w2 : World} {B g k : Nat} {R R1 : List Raw} {st st1 : Nat → St} (h : Mid w w1 B g k R st R1 st1) (hb : Below w1.heap.size w1 w2) : Mid w w2 B g k R st R1 st1 :=
  h.step (h.chain.below hb (Nat.le_refl _)) (Keep.of_below hb (Nat.le_refl _)) (fun _ _ _ h => h) (fun _ _ => rfl)

/-- The cells of the generators that are there are kept. -/
theorem foot_gens {w : World} {B g k : Nat} {R : List Raw} {st : Nat → St} (h : ChainAt w B g R st) {r : Raw} (hk : R[k]? = some r) {b x : Nat} (hb : (st k).vg.ownBlock = some b) (hx : x < 12 * r.gs.length) : ¬ Foot g k R st b x := by
  have kd := h.kinds hk hk
  rintro (⟨rfl, _⟩ | ⟨j, q, hj, hq, h1⟩)
  · exact kd.2.2.1 hb
  · have kj := h.kinds hk hq
    have jk := h.kinds hq hk
    rcases h1 with rfl | ⟨h1, _⟩ | ⟨h1, h2⟩
    · exact kj.2.2.2.2.1 hb
    · exact jk.2.2.2.2.2 b h1 hb
    · by_cases e : j = k
      · subst e
        rw [hk] at hq
        injection hq with hq; subst hq
        omega
      · exact h.gdis j k (get_lt hq) (get_lt hk) e b h1 hb

/-- .. and of the bells. -/
theorem foot_bells {w : World} {B g k : Nat} {R : List Raw} {st : Nat → St} (h : ChainAt w B g R st) {r : Raw} (hk : R[k]? = some r) {b x : Nat} (hb : (st k).vb.ownBlock = some b) (hx : x < r.bs.length) : ¬ Foot g k R st b x := by
  have kd := h.kinds hk hk
  rintro (⟨rfl, _⟩ | ⟨j, q, hj, hq, h1⟩)
  · exact kd.2.1 hb
  · have kj := h.kinds hk hq
    rcases h1 with rfl | ⟨h1, h2⟩ | ⟨h1, _⟩
    · exact kj.2.2.2.1 hb
    · by_cases e : j = k
      · subst e
        rw [hk] at hq
        injection hq with hq; subst hq
        omega
      · exact h.bdis j k (get_lt hq) (get_lt hk) e b h1 hb
    · exact kj.2.2.2.2.2 b hb h1

theorem owns_some {w : World} {base e size n : Nat} {p : Option Addr} {m cap : Nat} {xs : List Value} (h : w.ownsRow base e size (.slice p m cap) n xs) (hn : 1 ≤ n) : ∃ b, p = some ⟨b, 0, none⟩ ∧ m = n ∧ n ≤ cap ∧ cap ≤ 9223372036854775807 := by
  rcases h.2 with ⟨_, h0⟩ | ⟨g, c, cur, e, _, _, hc, hm, _⟩
  · omega
  · injection e with e1 e2 e3
    exact ⟨g, e1, e2, by omega, by unfold maxLen at hm; omega⟩

theorem bases_of {pre cs cs' : List Lk} (h : cs'.map (·.base) = cs.map (·.base)) (hb : ∀ l, l ∈ pre ++ cs → l.base < 12) : ∀ l, l ∈ pre ++ cs' → l.base < 12 := by
  intro l hl
  rcases List.mem_append.1 hl with hl | hl
  · exact hb l (List.mem_append_left _ hl)
  · have : l.base ∈ cs.map (·.base) := by rw [← h]; exact List.mem_map.2 ⟨l, hl, rfl⟩
    obtain ⟨l0, hl0, e⟩ := List.mem_map.1 this
    rw [← e]; exact hb l0 (List.mem_append_right _ hl0)

end Go.Proofs.YtahffpgadoiijaaGreat

/- Contract: bring, where the bell is an old one. -/
namespace Go.Proofs.YtahffpgadoiijaaGreat
open Go.RowKit

theorem wpList_look_ok' {ops : Array Oper} {rest : List Oper} {o : Oper} {a : Act} {w : World} {Q : Exit → Act → World → Prop} (hg : o.guard = none) (m x : Operand) (t : TypeId) (hop : o.op = Op.lookup t m x true) (e : TypeId) (ht : Tryz.prog.underlying t = some (.map 3 e)) {z : Value} (hz : (zeroValue e).run Tryz.prog w = .ok z w)
    {b n : Nat} {f : Int → Option Value} (h : IMap w b n f) (k : Int) (hm : a.eval m = .map (some b)) (hx : a.eval x = .int .i64 k) (h1 : -9223372036854775808 ≤ k) (h2 : k ≤ 9223372036854775807) {v : Value} {s : Bool} (hv : (f k).getD z = v) (hs : (f k).isSome = s)
    (hK : wpList Tryz.prog ops Q rest (a.put o.dst (.tuple #[v, .bool s])) w) : wpList Tryz.prog ops Q (o :: rest) a w := by
  subst hv; subst hs
  exact wpList_look_ok hg m x t hop e ht hz h k hm hx h1 h2 hK

theorem Foot.not_new {w : World} {B g k : Nat} {R : List Raw} {st : Nat → St} (h : ChainAt w B g R st) {D : Nat} (hD : w.heap.size ≤ D) (x : Nat) : ¬ Foot g k R st D x := fun hf => by have := (foot_lt h hf).1; omega

set_option maxRecDepth 20000 in
set_option maxHeartbeats 4000000 in
theorem bring_old {n k m B g : Nat} {pre : List Lk} {l : Lk} {c : List Lk} {st : Nat → St} {p : Pm} {F : Nat → Prop} {w : World} (hT : TakeSays n (k + 1)) {u : Pm} (hu : l.tab.lookup (p.act l.base) = some u) : BringFor n k m B g pre l c st p F w := by
  intro hpre hn h12 hm hbs hnd hC hP hF hG
  subst hpre
  have lk := hC.link pre.length (rawOf l) (map_mid pre l c)
  have hbase : l.base < 12 := hbs l (by simp)
  have hglt := hC.lt_g
  have hb12 := p.act_lt hbase
  have HU := hide hu
  have hyl := u.len
  have hyv : (tabF l.tab ((p.act l.base : Nat) : Int)).getD (.agg (i8s zeros12)) = .agg (i8s u.l) := by rw [tabF_nat, hu]; rfl
  have hyt : (tabF l.tab ((p.act l.base : Nat) : Int)).isSome = true := by rw [tabF_nat, hu]; rfl
  clear hu
  have HCH := hide hC
  have HP := hide hP
  have HF := hide hF
  have HG := hide hG
  have HBS := hide hbs
  have HND := hide hnd
  have HT := hide hT
  have hmlt := lk.mp.lt
  obtain ⟨pb, cb, ebv⟩ := owns_slice12 lk.bells
  obtain ⟨pg, cg, egv⟩ := owns_slice12 lk.gens
  have c0 : ∀ o : Obj, (w.alloc o).cell? ⟨g, pre.length * 4, none⟩ = some (.int .i64 ((l.base : Nat) : Int)) := fun o => by rw [World.cell?_of_block (w := w) (a := ⟨g, pre.length * 4, none⟩) (Below.heap_alloc w o g hglt), Nat.mul_comm]; exact lk.c0
  have c1 : ∀ o : Obj, (w.alloc o).cell? ⟨g, pre.length * 4 + 1, none⟩ = some (.map (some (st pre.length).m)) := fun o => by rw [World.cell?_of_block (w := w) (a := ⟨g, pre.length * 4 + 1, none⟩) (Below.heap_alloc w o g hglt), Nat.mul_comm]; exact lk.c1
  have hmp0 := lk.mp.alloc (.cells (i8s p.l) 78)
  have hfe : (rawOf l).f = tabF l.tab := rfl
  rw [hfe] at hmp0
  have hA0 := Arr.new w p.l p.len
  have hcq := (hA0.cell hbase).1
  rw [p.getD_act hbase] at hcq
  generalize hbb : p.act l.base = b at *
  have HBB := hide hbb
  have hwb : IntKind.i64.wrap (b : Int) = (b : Int) := by rw [IntKind.wrap_i64]; omega
  have hbz : (0 : Int) ≤ (l.base : Int) := by omega
  have hbt : ((l.base : Nat) : Int) < 12 := by omega
  have hkn : (pre.length : Int) < (n : Int) := by omega
  have hB2' : ∀ o1 o2 : Obj, Below w.heap.size w ((w.alloc o1).alloc o2) := fun o1 o2 => ((Below.refl _ _).alloc (Nat.le_refl _) o1).alloc (by simp) o2
  unfold pv
  clear hC hP hF hG hbs hnd hT lk hbb
  go_enter Tryz.func98, Tryz.ntmps98
  go_wp2_with (first
    | refine wpList_look_ok' rfl _ _ 97 rfl 78 Tryz.underlying97 (Tryz.zero78 _) hmp0 (b : Int) rfl rfl (by omega) (by omega) hyv hyt ?_
    | (refine wpList_store_arr rfl _ _ rfl (w.heap.size + 1) zeros12 u.l (Arr.new1 w _ (zs := zeros12) rfl) rfl rfl hyl ?_; intro w2 hY2 hg2))
  have hA2 : Arr w2 w.heap.size p.l := (hA0.alloc _).kept hg2 (by intro e; have := Option.some.inj e; omega)
  have hB2 : Below w.heap.size w w2 := (hB2' _ _).grown hg2 (by simp; omega) (fun k h => by have := Option.some.inj h; omega)
  have hC2 := HCH.out.below hB2 (Nat.le_refl _)
  clear hg2 hA0 hcq c0 c1 hmp0 hB2'
  have hin1 : (Tryz.prog.info? 78).map (·.size) = some (u.l.map (Value.int .i8)).length := by rw [List.length_map, u.len]; exact Tryz.size78
  have hin2 : (Tryz.prog.info? 78).map (·.size) = some (p.l.map (Value.int .i8)).length := by rw [List.length_map, p.len]; exact Tryz.size78
  have hum : (p.act l.base, u) ∈ l.tab := by rw [HBB.out]; exact lookup_mem HU.out
  have hk1 : (pre.length : Int) + 1 = ((pre.length + 1 : Nat) : Int) := by omega
  have HK1 := hide hk1
  have hwk : IntKind.i64.wrap ((pre.length : Int) + 1) = (pre.length : Int) + 1 := by rw [IntKind.wrap_i64]; omega
  clear hk1
  refine wp_region_held_drew (S := fun W' => Arr W' (w.heap.size + 1) u.l ∧ Arr W' w.heap.size p.l) (by kernel_rfl) ⟨hY2, hA2⟩ (fun hS => ?_)
  refine wpAnyH_take (i := 0) (v := .slice (some ⟨g, 0, none⟩) n n) rfl (by kernel_rfl) (by kernel_rfl) (by kernel_rfl) (fun _ _ _ h => h) (Or.inl ⟨by rfl, fun w' _ => by go_simp⟩) hS ?_
  refine wpAnyH_take (i := 1) (v := .int .i64 (pre.length : Int)) rfl (by kernel_rfl) (by kernel_rfl) (by kernel_rfl) (fun _ _ _ h => h) (Or.inl ⟨by rfl, fun w' _ => by go_simp⟩) hS ?_
  refine wpAnyH_take (i := 2) (v := .int .i64 ((pre.length : Int) + 1)) rfl (by kernel_rfl) (by kernel_rfl) (by kernel_rfl) (fun _ _ _ h => h) (Or.inl ⟨by rfl, fun w' _ => by go_simp⟩) hS ?_
  refine wpAnyH_take (i := 3) rfl (by kernel_rfl) (by kernel_rfl) (by kernel_rfl) (fun _ _ _ h => h) (yieldsIf_load_mid (by rfl) _ _ rfl (w.heap.size + 1) 0 rfl (u.l.map (Value.int .i8)) _ (fun w' h => Arr.range h.1) Tryz.underlying78 rfl hin1) hS ?_
  refine wpAnyH_take (i := 5) rfl (by kernel_rfl) (by kernel_rfl) (by kernel_rfl) (fun _ _ _ h => h) (yieldsIf_load_mid (by rfl) _ _ rfl w.heap.size 0 rfl (p.l.map (Value.int .i8)) _ (fun w' h => Arr.range h.2) Tryz.underlying78 rfl hin2) hS ?_
  refine wpAnyH_ready (rs := [4]) (by kernel_rfl) (by simp) ?_
  refine AllReadyH.cons rfl (fun K hK => ?_) AllReadyH.nil
  go_simp
  refine (pback_raw u _).mono ?_
  rintro e w4 ⟨rfl, hb4⟩
  replace hb4 := undrew hb4
  have hY4 := hY2.below hb4 hY2.lt
  have hA4 := hA2.below hb4 hA2.lt
  have hB4 : Below w.heap.size w w4 := hB2.trans (hb4.mono hB2.size)
  refine hK.out _ _ ⟨hY4, hA4⟩ (fun _ => ?_)
  clear hK hb4
  refine wpAnyH_ready (rs := [6]) (by kernel_rfl) (by simp) ?_
  refine AllReadyH.cons rfl (fun K hK => ?_) AllReadyH.nil
  go_simp
  refine (ptimes_raw u⁻¹ p _).mono ?_
  rintro e w5 ⟨rfl, hb5⟩
  have hY5 := hY4.below hb5 hY4.lt
  have hA5 := hA4.below hb5 hA4.lt
  have hB5 : Below w.heap.size w w5 := hB4.trans (hb5.mono hB4.size)
  refine hK.out _ _ ⟨hY5, hA5⟩ (fun _ => ?_)
  clear hK hb5
  refine wpAnyH_ready (rs := [7]) (by kernel_rfl) (by simp) ?_
  refine AllReadyH.cons rfl (fun K hK => ?_) AllReadyH.nil
  have hC5 := HCH.out.below hB5 (Nat.le_refl _)
  have hF5 : Fixes (plus F l.base) (u⁻¹ * p) := fixes_plus.2 ⟨(fixes_sub F).mul ((fixes_sub F).inv (HP.out.ok.fix _ hum)) HF.out, by have h1 : u.act l.base = p.act l.base := HP.out.ok.brings _ hum; rw [Pm.act_mul, ← h1, Pm.inv_act]⟩
  have hTk := HT.out B g (pre ++ [l]) c st (u⁻¹ * p) (plus F l.base) w5 (by simp) (by omega) h12 (by rw [List.append_assoc]; exact HBS.out) (fun x hx => HND.out x (List.mem_cons_of_mem _ hx)) (by rw [List.append_assoc]; exact hC5) HP.out.whole hF5
  rw [← HK1.out] at hTk
  have HTk := hide hTk
  clear hTk
  go_simp
  refine HTk.out.mono ?_
  rintro e w6 ⟨v, rfl, cs', st', hW6, hT6, hC6, hK6, hf6, hn6, hs6⟩
  rw [List.append_assoc] at hC6 hK6
  rw [show (pre ++ [l]).length = pre.length + 1 from by simp] at hK6 hf6 hs6
  have hS6 : Arr w6 (w.heap.size + 1) u.l ∧ Arr w6 w.heap.size p.l := ⟨keep_arr hK6 hY5 (fun x => Foot.not_new HCH.out (by omega) x), keep_arr hK6 hA5 (fun x => Foot.not_new HCH.out (Nat.le_refl _) x)⟩
  refine hK.out _ _ hS6 (fun _ => ?_)
  clear hK
  refine wpAnyH_done (by kernel_rfl) ?_ _
  go_wp2
  have hpo := HP.out.old hum HG.out hW6 hT6
  refine bodyPost_ret (results_none rfl _ _ _) rfl (BringPost.mk hpo.1 hpo.2 hC6 ?_ ?_ ?_ (fun j hj => hs6 j (by omega)))
  · exact (Keep.of_below hB5 (Nat.le_refl _)).trans hK6 (fun b x _ hf => foot_succ hf)
  · intro b' x hb' hf
    exact foot_up (fun hf' => by have h := hf6 b' x (Nat.lt_of_lt_of_le hb' hB5.size); rw [List.append_assoc, List.append_assoc] at h; exact h hf') (hs6 _ (by omega)) hf
  · intro x hx
    rcases List.mem_cons.1 hx with rfl | hx
    · exact HND.out _ List.mem_cons_self
    · exact hn6 x hx
end Go.Proofs.YtahffpgadoiijaaGreat

/- Contract: bring, where the bell is a new one. -/
namespace Go.Proofs.YtahffpgadoiijaaGreat
open Go.RowKit

set_option maxRecDepth 20000 in
set_option maxHeartbeats 4000000 in
theorem bring_new {n k m B g : Nat} {pre : List Lk} {l : Lk} {c : List Lk} {st : Nat → St} {p : Pm} {F : Nat → Prop} {w : World} (ih : ∀ m', m' < m → BringSays n k m') (hno : l.tab.lookup (p.act l.base) = none) : BringFor n k m B g pre l c st p F w := by
  intro hpre hn h12 hm hbs hnd hC hP hF hG
  subst hpre
  have lk := hC.link pre.length (rawOf l) (map_mid pre l c)
  have hbase : l.base < 12 := hbs l (by simp)
  have hglt := hC.lt_g
  have hb12 := p.act_lt hbase
  have HNO := hide hno
  have hyl : zeros12.length = 12 := rfl
  have hyv : (tabF l.tab ((p.act l.base : Nat) : Int)).getD (.agg (i8s zeros12)) = .agg (i8s zeros12) := by rw [tabF_nat, hno]; rfl
  have hyt : (tabF l.tab ((p.act l.base : Nat) : Int)).isSome = false := by rw [tabF_nat, hno]; rfl
  clear hno
  have HCH := hide hC
  have HP := hide hP
  have HF := hide hF
  have HG := hide hG
  have HBS := hide hbs
  have HND := hide hnd
  have HIH := hide ih
  have hmlt := lk.mp.lt
  obtain ⟨pb, cb, ebv⟩ := owns_slice12 lk.bells
  obtain ⟨pg, cg, egv⟩ := owns_slice12 lk.gens
  have c0 : ∀ o : Obj, (w.alloc o).cell? ⟨g, pre.length * 4, none⟩ = some (.int .i64 ((l.base : Nat) : Int)) := fun o => by rw [World.cell?_of_block (w := w) (a := ⟨g, pre.length * 4, none⟩) (Below.heap_alloc w o g hglt), Nat.mul_comm]; exact lk.c0
  have c1 : ∀ o : Obj, (w.alloc o).cell? ⟨g, pre.length * 4 + 1, none⟩ = some (.map (some (st pre.length).m)) := fun o => by rw [World.cell?_of_block (w := w) (a := ⟨g, pre.length * 4 + 1, none⟩) (Below.heap_alloc w o g hglt), Nat.mul_comm]; exact lk.c1
  have hmp0 := lk.mp.alloc (.cells (i8s p.l) 78)
  have hfe : (rawOf l).f = tabF l.tab := rfl
  rw [hfe] at hmp0
  have hA0 := Arr.new w p.l p.len
  have hcq := (hA0.cell hbase).1
  rw [p.getD_act hbase] at hcq
  generalize hbb : p.act l.base = b at *
  have HBB := hide hbb
  have hwb : IntKind.i64.wrap (b : Int) = (b : Int) := by rw [IntKind.wrap_i64]; omega
  have hbz : (0 : Int) ≤ (l.base : Int) := by omega
  have hbt : ((l.base : Nat) : Int) < 12 := by omega
  have hkn : (pre.length : Int) < (n : Int) := by omega
  have hB2' : ∀ o1 o2 : Obj, Below w.heap.size w ((w.alloc o1).alloc o2) := fun o1 o2 => ((Below.refl _ _).alloc (Nat.le_refl _) o1).alloc (by simp) o2
  unfold pv
  clear hC hP hF hG hbs hnd ih lk hbb
  go_enter Tryz.func98, Tryz.ntmps98
  go_wp2_with (first
    | refine wpList_look_ok' rfl _ _ 97 rfl 78 Tryz.underlying97 (Tryz.zero78 _) hmp0 (b : Int) rfl rfl (by omega) (by omega) hyv hyt ?_
    | (refine wpList_store_arr rfl _ _ rfl (w.heap.size + 1) zeros12 zeros12 (Arr.new1 w _ (zs := zeros12) rfl) rfl rfl hyl ?_; intro w2 hY2 hg2))
  have hA2 : Arr w2 w.heap.size p.l := (hA0.alloc _).kept hg2 (by intro e; have := Option.some.inj e; omega)
  have hB2 : Below w.heap.size w w2 := (hB2' _ _).grown hg2 (by simp; omega) (fun k h => by have := Option.some.inj h; omega)
  have hC2 := HCH.out.below hB2 (Nat.le_refl _)
  clear hg2 hA0 hcq c0 c1 hmp0 hB2'
  have hin2 : (Tryz.prog.info? 78).map (·.size) = some (p.l.map (Value.int .i8)).length := by rw [List.length_map, p.len]; exact Tryz.size78
  have hM2 : Mid w2 w2 B g pre.length ((pre ++ l :: c).map rawOf) st ((pre ++ l :: c).map rawOf) st := Mid.start hC2 (Below.refl _ _)
  have HC2 := hide hC2
  have HB2 := hide hB2
  have hD2 := hA2.lt
  have lk2 := hC2.link pre.length (rawOf l) (map_mid pre l c)
  have c1 : w2.cell? ⟨g, pre.length * 4 + 1, none⟩ = some (.map (some (st pre.length).m)) := by rw [Nat.mul_comm]; exact lk2.c1
  have hPA := HP.out.add (p := p) (by rw [HBB.out]; exact HNO.out) HF.out HG.out
  have htl := tab_len hPA.ok hbase
  have htl2 : l.tab.length + 1 ≤ 12 := by have : (l.tab ++ [(p.act l.base, p)]).length ≤ 12 := htl; simpa using this
  have HPA := hide hPA
  clear hPA htl
  refine wp_region_held_drew (S := fun W' => Arr W' w.heap.size p.l) (by kernel_rfl) hA2 (fun hS => ?_)
  refine wpAnyH_take (i := 0) (v := .pointer (some ⟨g, pre.length * 4, none⟩)) rfl (by kernel_rfl) (by kernel_rfl) (by kernel_rfl) (fun _ _ _ h => h) (Or.inl ⟨by rfl, fun w' _ => by go_simp⟩) hS ?_
  refine wpAnyH_take (i := 1) (v := .pointer (some ⟨g, pre.length * 4, none⟩)) rfl (by kernel_rfl) (by kernel_rfl) (by kernel_rfl) (fun _ _ _ h => h) (Or.inl ⟨by rfl, fun w' _ => by go_simp⟩) hS ?_
  refine wpAnyH_take (i := 2) (v := .pointer (some ⟨g, pre.length * 4 + 1, none⟩)) rfl (by kernel_rfl) (by kernel_rfl) (by kernel_rfl) (fun _ _ _ h => h) (Or.inl ⟨by rfl, fun w' _ => by go_simp⟩) hS ?_
  refine wpAnyH_take (i := 4) (v := .int .i64 (b : Int)) rfl (by kernel_rfl) (by kernel_rfl) (by kernel_rfl) (fun _ _ _ h => h) (Or.inl ⟨by rfl, fun w' _ => by go_simp⟩) hS ?_
  refine wpAnyH_take (i := 5) rfl (by kernel_rfl) (by kernel_rfl) (by kernel_rfl) (fun _ _ _ h => h) (yieldsIf_load_mid (by rfl) _ _ rfl w.heap.size 0 rfl (p.l.map (Value.int .i8)) _ (fun w' h => Arr.range h) Tryz.underlying78 rfl hin2) hS ?_
  refine wpAnyH_ready (rs := [3]) (by kernel_rfl) (by simp) ?_
  refine AllReadyH.cons rfl (fun K hK => ?_) AllReadyH.nil
  go_simp
  refine hK.out _ _ hS (fun _ => ?_)
  clear hK
  refine wpAnyH_ready (rs := [6]) (by kernel_rfl) (by simp) ?_
  refine AllReadyH.cons rfl (fun K hK => ?_) AllReadyH.nil
  refine step_put rfl _ _ _ 97 rfl 78 Tryz.underlying97 (show IMap w2.drew (st pre.length).m (rawOf l).n (rawOf l).f from lk2.mp) (by have : (rawOf l).n = l.tab.length := rfl; unfold maxLen; omega) (b : Int) (pv p) rfl rfl rfl (by omega) (by omega) ?_
  intro w3 hmp3 hg3
  replace hg3 : w2.grownBy w3 (some (st pre.length).m) := ⟨hg3.os, hg3.tape, hg3.output, hg3.size, hg3.block⟩
  obtain ⟨hC3, hK3, hf3⟩ := hC2.setMap (map_mid pre l c) hmp3 hg3
  have hA3 : Arr w3 w.heap.size p.l := hA2.kept hg3 (by intro e; have := Option.some.inj e; omega)
  refine hK.out _ _ hA3 (fun _ => ?_)
  clear hK
  refine wpAnyH_done (by kernel_rfl) ?_ _
  have hM3 := hM2.step hC3 hK3 hf3 (fun _ _ => rfl)
  have hk3 : (((pre ++ l :: c).map rawOf).set pre.length { rawOf l with f := upd (rawOf l).f (b : Int) (pv p), n := (rawOf l).n + 1 })[pre.length]? = some { rawOf l with f := upd (rawOf l).f (b : Int) (pv p), n := (rawOf l).n + 1 } := by rw [List.getElem?_set, if_pos rfl, if_pos (by simp)]
  have lk3 := hC3.link pre.length _ hk3
  have hg3lt := hC3.lt_g
  have kd3 := hC3.kinds hk3 hk3
  have hbl3 := lk3.bells
  have c2 : w3.cell? ⟨g, pre.length * 4 + 2, none⟩ = some (.slice pb (rawOf l).bs.length cb) := by rw [Nat.mul_comm, ← ebv]; exact lk3.c2
  have c3 : w3.cell? ⟨g, pre.length * 4 + 3, none⟩ = some (.slice pg (rawOf l).gs.length cg) := by rw [Nat.mul_comm, ← egv]; exact lk3.c3
  have hbl4 := hbl3
  rw [ebv] at hbl4
  have HBLN : Hid ((rawOf l).bs.length = l.tab.length) := by show (l.tab.map _).length = _; simp
  have hB3 : B ≤ w3.heap.size := by have := hC3.gB; omega
  have HM3 := hide hM3
  have HC3 := hide hC3
  have HK3 := hide hk3
  have HKD := hide kd3
  clear hM2 hM3 hC3 hk3 kd3 hK3 hf3 hmp3 hg3 lk2 lk3 c1 hC2 hA2 hY2 hS hB2 hyv hyt
  have fg : w3.frozen? ⟨g, pre.length * 4 + 2, none⟩ = false := by obtain ⟨cs, ho, _⟩ := HC3.out.obj; simp [World.frozen?, ho]
  obtain ⟨i0, hi, hz0, hz1, hz2⟩ := info_parts Tryz.info3
  have HO1 : Hid (∀ u ∈ [Value.int .i64 (b : Int)], u.oneCell' = true) := by intro u hu; rw [List.mem_singleton.1 hu]; rfl
  have HM1 : Hid ((rawOf l).bs.length + 1 ≤ maxLen) := by have := HBLN.out; show (rawOf l).bs.length + 1 ≤ maxLen; unfold maxLen; omega
  have HY1 : Hid (((rawOf l).bs.length + 1) * 8 ≤ 140737488355328) := by have := HBLN.out; show ((rawOf l).bs.length + 1) * 8 ≤ _; omega
  have HS1 : Hid (∀ o : Obj, B ≤ (w3.alloc o).heap.size) := fun o => by simp; omega
  go_wp2_with (at_builtin; refine wpList_append_keep _ rfl _ _ 22 rfl B 3 i0 (.int .i64 0) 1 8 Tryz.underlying22 hi hz0 hz1 hz2 rfl (by decide) _ _ _ rfl (hbl4.alloc _) ⟨w3.heap.size, 0, none⟩ 1 1 [.int .i64 (b : Int)] rfl rfl (cell_one_new _ _ _) HO1.out HM1.out HY1.out (HS1.out _) ?_)
  intro v' w4 hown4 hg4 hloc4
  have hg34 : w3.grownBy w4 (st pre.length).vb.ownBlock := by rw [ebv]; exact (World.grownBy_alloc w3 _ _).trans hg4
  have hloc34 : v'.ownBlock = (st pre.length).vb.ownBlock ∨ ((∀ b, v'.ownBlock = some b → w3.heap.size ≤ b) ∧ w3.grownBy w4 none) := by
    rw [ebv]
    refine hloc4.imp id (fun h => ⟨fun b hb => ?_, (World.grownBy_alloc w3 _ _).trans h.2⟩)
    have h5 := Option.some.inj (h.1.symm.trans hb)
    omega
  have hg4g : w4.heap[g]? = w3.heap[g]? := hg34.block g hg3lt (fun e => HKD.out.2.1 e.symm)
  have c2' : w4.cell? ⟨g, pre.length * 4 + 2, none⟩ = some (.slice pb (rawOf l).bs.length cb) := (World.cell?_of_block (w := w3) (a := ⟨g, pre.length * 4 + 2, none⟩) hg4g).trans c2
  have c3' : w4.cell? ⟨g, pre.length * 4 + 3, none⟩ = some (.slice pg (rawOf l).gs.length cg) := (World.cell?_of_block (w := w3) (a := ⟨g, pre.length * 4 + 3, none⟩) hg4g).trans c3
  have fg' : w4.frozen? ⟨g, pre.length * 4 + 2, none⟩ = false := (World.frozen?_of_block (w := w3) (a := ⟨g, pre.length * 4 + 2, none⟩) hg4g).trans fg
  have hA4 : Arr w4 w.heap.size p.l := by
    refine hA3.kept hg34 (fun e => ?_)
    have := (HCH.out.link pre.length (rawOf l) (map_mid pre l c)).bells.lt _ e
    omega
  obtain ⟨g', cap', hv', _, _, _, _⟩ := owns_form hown4 (by omega)
  obtain ⟨hC5, hK5, hf5⟩ := HC3.out.setBells HK3.out (u := .int .i64 (b : Int)) (v' := v') hown4 hg34 hloc34
  rw [set_mid2, raw_add HNO.out, set_mid, show 4 * pre.length + 2 = pre.length * 4 + 2 from by omega] at hC5
  rw [show 4 * pre.length + 2 = pre.length * 4 + 2 from by omega] at hK5
  rw [set_mid2, raw_add HNO.out, set_mid] at hf5
  have hM5 := HM3.out.step hC5 hK5 hf5 (fun j hj => by unfold updS; rw [if_neg (by omega)])
  have hA5 : Arr (w4.setCell ⟨g, pre.length * 4 + 2, none⟩ v') w.heap.size p.l := hA4.set_other (by omega) _
  rw [hv'] at hM5 hA5 ⊢
  have HM5 := hide hM5
  have HA5 := hide hA5
  clear hC5 hK5 hf5 hM5 hA5 hown4 hg4 hloc4 hg34 hloc34 hg4g hA3 hA4 c2 c3 fg hbl3 hbl4 HM3 HC3 HK3 HKD hv'
  go_wp2
  generalize w4.setCell ⟨g, pre.length * 4 + 2, none⟩ (.slice (some ⟨g', 0, none⟩) ((rawOf l).bs.length + 1) cap') = w5 at *
  have HGE : Hid ((rawOf l).gs = l.gens) := rfl
  have HGN : Hid ((rawOf l).gs.length = l.gens.length) := rfl
  have hgl : l.gens.length ≤ 12 ^ 12 := gens_bound (HND.out l List.mem_cons_self)
  have h1212 : (12 : Nat) ^ 12 = 8916100448256 := by decide
  have hgl2 : (l.gens.length : Int) ≤ 8916100448256 := by omega
  clear h1212
  clear hgl
  have hbl0 := hide (HC2.out.link pre.length (rawOf l) (map_mid pre l c)).gens
  rw [egv] at hbl0
  generalize hng : (rawOf l).gs.length = ng at *
  have HNG := hide hng
  have hng2 : (ng : Int) ≤ 8916100448256 := by have := HNG.out; have := HGN.out; omega
  clear hng c2' c3' fg' HBLN HO1 HM1 HY1 HS1 hgl2
  go_loopw [61] (fun i wr => ∃ (q : Nat) (l' : Lk) (c' : List Lk) (st' : Nat → St), q ≤ ng ∧ i = .int .i64 q ∧ Loop (l.add b p) c l l' c' p q ∧ Part F l' c' ∧ Mid w2 wr B g pre.length ((pre ++ l :: c).map rawOf) st ((pre ++ l' :: c').map rawOf) st' ∧ Arr wr w.heap.size p.l ∧ Hid (∀ x, x ∈ l' :: c' → x.gens.Nodup)) (fun i _ => ng - (intOf i).toNat)
  case atStart =>
    have hb := HBB.out
    subst hb
    refine ⟨0, l.add (p.act l.base) p, c, _, by omega, rfl, Loop.start l c p, HPA.out, HM5.out, HA5.out, ?_⟩
    intro x hx
    rcases List.mem_cons.1 hx with rfl | hx
    · exact HND.out l List.mem_cons_self
    · exact HND.out x (List.mem_cons_of_mem _ hx)
  case round =>
    obtain ⟨q, l', c', st', hq, rfl, hL, hPt, hMid, hA, hnd⟩ := hrel
    by_cases hlt : q < ng
    · have hql : q < l.gens.length := by have := HNG.out; have := HGN.out; omega
      obtain ⟨s, hs⟩ : ∃ s, l.gens[q]? = some s := ⟨_, List.getElem?_eq_getElem hql⟩
      have hsm : s ∈ l.gens := List.mem_of_getElem? hs
      obtain ⟨gb, hgb, _, hgc, hgm⟩ := owns_some hbl0.out (by have := HNG.out; omega)
      have hown := (HC2.out.link pre.length (rawOf l) (map_mid pre l c)).gens
      have hvb : (st pre.length).vg.ownBlock = some gb := by rw [egv, hgb]; rfl
      have hrange : wr.rangeAt gb (q * 12) (s.l.map (Value.int .i8)) := keep_gens hMid.keep hown hvb (fun x hx => foot_gens HC2.out (map_mid pre l c) hvb hx) hs
      have hin : (Tryz.prog.info? 78).map (·.size) = some (s.l.map (Value.int .i8)).length := by rw [List.length_map, s.len]; exact Tryz.size78
      have hsl := s.len
      have hAlt := hA.lt
      have HL := hide hL
      have HPt := hide hPt
      have HMid := hide hMid
      have HS := hide hs
      have HSM := hide hsm
      subst hgb
      clear hL hPt hMid hs hsm hown hvb hbl0
      go_wp2_with (first
        | refine wpList_load_mid rfl 78 _ rfl gb _ rfl _ _ hrange Tryz.underlying78 rfl hin ?_
        | (refine wpList_store_arr rfl _ _ rfl wr.heap.size zeros12 s.l (zeros_new wr) rfl rfl hsl ?_; intro w6 hX6 hg6; have hA6 : Arr w6 w.heap.size p.l := (hA.alloc _).kept hg6 (by intro e; have := Option.some.inj e; omega))
        | refine wpList_load_arr rfl _ rfl wr.heap.size s.l hX6 rfl ?_
        | refine wpList_load_arr rfl _ rfl w.heap.size p.l hA6 rfl ?_)
      refine (ptimes_ok s p _).mono ?_
      rintro e w7 ⟨rfl, hb7⟩
      have hb6 : Below wr.heap.size wr w6 := ((Below.refl _ _).alloc (Nat.le_refl _) _).grown hg6 (by simp) (fun k h => by have := Option.some.inj h; omega)
      have hb67 : Below wr.heap.size wr w7 := hb6.trans (hb7.mono hb6.size)
      have hM7 := HMid.out.quiet hb67
      have hA7 : Arr w7 w.heap.size p.l := hA.below hb67 hAlt
      have hbas := HL.out.base
      have hgen := HL.out.gens
      obtain ⟨more, htab⟩ := HL.out.tab
      have htl : l.tab.length + 1 ≤ l'.tab.length := by rw [htab]; show _ ≤ ((l.tab ++ [(b, p)]) ++ more).length; simp
      have hBr := HIH.out (m - 1) (by omega) B g pre l' c' st' (s * p) F w7 rfl (by rw [HL.out.len]; exact hn) h12 (by omega)
        (bases_of (cs := l :: c) (cs' := l' :: c') (by rw [List.map_cons, List.map_cons, HL.out.bases, hbas]; rfl) HBS.out) hnd.out hM7.chain HPt.out ((fixes_sub F).mul (HP.out.gF s HSM.out) HF.out)
        (by rw [hgen]; exact Gen.mul HSM.out HG.out)
      have HBr := hide hBr
      have HM7 := hide hM7
      clear hBr hM7 hb67 hb6 hb7 hg6 hX6 hA6 hrange hbas hgen htab htl
      go_wp2_with fail
      refine HBr.out.mono ?_
      rintro e w8 ⟨v, rfl, l2, c2, st2, hP2, hBt2, hC2, hK2, hf2, hn2, hs2⟩
      have hM8 := HM7.out.step hC2 hK2 hf2 hs2
      have hA8 : Arr w8 w.heap.size p.l := keep_arr hK2 hA7 (fun x hf => Foot.not_new HCH.out (Nat.le_refl _) x (HM7.out.foot' hf hD2))
      have hL2 : Loop (l.add b p) c l l2 c2 p (q + 1) := HL.out.step (by rw [List.take_add_one, show (l.add b p).gens = l.gens from rfl, HS.out]; rfl) rfl hBt2
      go_wp2
      go_roundw
      case rel =>
        have hfin : ∃ (q' : Nat) (l' : Lk) (c' : List Lk) (st' : Nat → St), q' ≤ ng ∧ Value.int .i64 ((q : Int) + 1) = .int .i64 (q' : Int) ∧ Loop (l.add b p) c l l' c' p q' ∧ Part F l' c' ∧ Mid w2 w8 B g pre.length ((pre ++ l :: c).map rawOf) st ((pre ++ l' :: c').map rawOf) st' ∧ Arr w8 w.heap.size p.l ∧ Hid (∀ x, x ∈ l' :: c' → x.gens.Nodup) :=
          ⟨q + 1, l2, c2, st2, by omega, by go_num, hL2, hP2, hM8, hA8, hn2⟩
        first
          | exact hfin
          | ((repeat apply Exists.intro); exact ⟨hfin, rfl⟩)
      case measure => simp [intOf]; omega
    · have hqn : l.gens.length ≤ q := by have := HNG.out; have := HGN.out; omega
      have hb := HBB.out
      subst hb
      have hbr := Loop.brought hqn (prd_sub hPt.whole).one hL
      have HBr := hide hbr
      have HPt := hide hPt
      have HMid := hide hMid
      clear hL hPt hMid hbr hbl0
      go_wp2
      first
        | exact bodyPost_ret (results_none rfl _ _ _) rfl (BringPost.mk HPt.out HBr.out HMid.out.chain ((Keep.of_below HB2.out (Nat.le_refl _)).trans HMid.out.keep (fun _ _ _ h => h)) (fun b x hb hf => HMid.out.foot b x (Nat.lt_of_lt_of_le hb HB2.out.size) hf) hnd.out HMid.out.low)
        | exact bodyPost_end (results_none rfl _ _ _) rfl (BringPost.mk HPt.out HBr.out HMid.out.chain ((Keep.of_below HB2.out (Nat.le_refl _)).trans HMid.out.keep (fun _ _ _ h => h)) (fun b x hb hf => HMid.out.foot b x (Nat.lt_of_lt_of_le hb HB2.out.size) hf) hnd.out HMid.out.low)
end Go.Proofs.YtahffpgadoiijaaGreat

/- Contract: take, from bring's at its level; both at all levels. -/
namespace Go.Proofs.YtahffpgadoiijaaGreat
open Go.RowKit

theorem Tryz.info78 : (Tryz.prog.info? 78).map (fun i => (i.zero, i.size, i.bytes)) = some (some (.agg (i8s zeros12)), 12, 12) := by kernel_rfl

set_option maxRecDepth 20000 in
set_option maxHeartbeats 4000000 in
theorem take_has {n k B g : Nat} {pre cs : List Lk} {st : Nat → St} {p : Pm} {F : Nat → Prop} {w : World} (hpre : pre.length = k) (hn : k + cs.length = n) (h12 : n ≤ 12) (hbs : ∀ l, l ∈ pre ++ cs → l.base < 12) (hnd : ∀ l, l ∈ cs → l.gens.Nodup)
    (hC : ChainAt w B g ((pre ++ cs).map rawOf) st) (hW : Whole F cs) (hF : Fixes F p) (hh : hasC cs p = true) :
    Calls Tryz.prog 81 #[.slice (some ⟨g, 0, none⟩) n n, .int .i64 k, pv p] w fun e w' => TakePost B g pre cs st p F w e w' := by
  subst hpre
  have hnC : (pre ++ cs).length = n := by rw [List.length_append]; exact hn
  have hA0 := Arr.new w p.l p.len
  have HH := hide (has_ok (pre ++ cs) pre.length p (w.alloc (.cells (i8s p.l) 78)) (hC.alloc _) (by simp) (by omega) hbs)
  rw [hnC, List.drop_left, hh] at HH
  have HC := hide hC
  have HT := hide (Took.refl ((has_iff hW hF).1 hh))
  have HW := hide hW
  have HN := hide hnd
  clear hC hW hF hh hbs hnd
  unfold pv at HH ⊢
  go_enter Tryz.func81, Tryz.ntmps81
  go_wp2_with (refine wpList_load_arr rfl _ rfl w.heap.size p.l hA0 rfl ?_)
  refine HH.out.mono ?_
  rintro e w1 ⟨rfl, hb1⟩
  have hB1 : Below w.heap.size w w1 := ((Below.refl _ _).alloc (Nat.le_refl _) _).trans ((below_alloc hb1).mono (by omega))
  go_wp2
  exact bodyPost_ret (results_none rfl _ _ _) rfl (TakePost.mk HW.out HT.out (HC.out.below hB1 (Nat.le_refl _)) (Keep.of_below hB1 (Nat.le_refl _)) (fun _ _ _ h => h) HN.out (fun _ _ => rfl))

theorem list12 {zs : List Int} (h : zs.length = 12) : ∃ a0 a1 a2 a3 a4 a5 a6 a7 a8 a9 a10 a11, zs = [a0, a1, a2, a3, a4, a5, a6, a7, a8, a9, a10, a11] := by
  match zs, h with
  | [a0, a1, a2, a3, a4, a5, a6, a7, a8, a9, a10, a11], _ => exact ⟨_, _, _, _, _, _, _, _, _, _, _, _, rfl⟩

theorem run_build12 (a0 a1 a2 a3 a4 a5 a6 a7 a8 a9 a10 a11 : Int) (w : World) : (Instr.buildSlice 75 1 #[(0, .agg #[.int .i8 a0, .int .i8 a1, .int .i8 a2, .int .i8 a3, .int .i8 a4, .int .i8 a5, .int .i8 a6, .int .i8 a7, .int .i8 a8, .int .i8 a9, .int .i8 a10, .int .i8 a11])]).run Tryz.prog w =
    .ok (.slice (some ⟨w.heap.size, 0, none⟩) 1 1) (w.alloc (.cells #[.int .i8 a0, .int .i8 a1, .int .i8 a2, .int .i8 a3, .int .i8 a4, .int .i8 a5, .int .i8 a6, .int .i8 a7, .int .i8 a8, .int .i8 a9, .int .i8 a10, .int .i8 a11] 78)) := by kernel_rfl

theorem run_build (p : Pm) (w : World) : (Instr.buildSlice 75 1 #[(0, .agg (p.l.map (Value.int .i8)).toArray)]).run Tryz.prog w = .ok (.slice (some ⟨w.heap.size, 0, none⟩) 1 1) (w.alloc (.cells (i8s p.l) 78)) := by
  obtain ⟨a0, a1, a2, a3, a4, a5, a6, a7, a8, a9, a10, a11, e⟩ := list12 p.len
  rw [e]
  exact run_build12 a0 a1 a2 a3 a4 a5 a6 a7 a8 a9 a10 a11 w

theorem step_build {ops : Array Oper} {o : Oper} {a : Act} {w : World} {K : Act → World → Prop} {Q : Exit → Act → World → Prop} {E : Prop} (hg : o.guard = none) (x : Operand) (hop : o.op = Op.buildSlice 75 1 #[(0, x)]) (p : Pm) (hx : a.eval x = .agg (p.l.map (Value.int .i8)).toArray)
    (hK : K (a.put o.dst (.slice (some ⟨w.heap.size, 0, none⟩) 1 1)) (w.alloc (.cells (i8s p.l) 78))) : if Region.wanted o (yielded ops a.tmps) = true then Oper.wp Tryz.prog o a w K Q else E :=
  step_value hg (by unfold execOp; simp only [hop, List.map_toArray, List.map_cons, List.map_nil, hx, run_build, Sem.run_bind, Sem.run_pure, Result.andThen_ok]) hK

theorem step_look' {ops : Array Oper} {o : Oper} {a : Act} {w : World} {K : Act → World → Prop} {Q : Exit → Act → World → Prop} {E : Prop} (hg : o.guard = none) (m x : Operand) (t : TypeId) (hop : o.op = Op.lookup t m x false) (e : TypeId) (ht : Tryz.prog.underlying t = some (.map 3 e)) {z : Value} (hz : (zeroValue e).run Tryz.prog w = .ok z w)
    {b n : Nat} {f : Int → Option Value} (h : IMap w b n f) (k : Int) (hm : a.eval m = .map (some b)) (hx : a.eval x = .int .i64 k) (h1 : -9223372036854775808 ≤ k) (h2 : k ≤ 9223372036854775807) {v : Value} (hv : (f k).getD z = v)
    (hK : K (a.put o.dst v) w) : if Region.wanted o (yielded ops a.tmps) = true then Oper.wp Tryz.prog o a w K Q else E := by
  subst hv
  exact step_look hg m x t hop e ht hz h k hm hx h1 h2 hK

/-- The generator is appended, and the new header stored: what the chain is then. -/
theorem gen_stored {w2 w3 w4 : World} {B g : Nat} {pre : List Lk} {l : Lk} {c : List Lk} {st : Nat → St} {p : Pm} {v' : Value} (hC : ChainAt w2 B g ((pre ++ l :: c).map rawOf) st) (hw3 : ∀ b, b < w2.heap.size → w3.heap[b]? = w2.heap[b]?) (h3s : w2.heap.size ≤ w3.heap.size) (h3o : w3.os = w2.os) (h3t : w3.tape = w2.tape) (h3p : w3.output = w2.output)
    (hown : w4.ownsRow B 78 12 v' (l.gens.length + 1) (gcells l.gens ++ p.l.map (Value.int .i8))) (hg : w3.grownBy w4 (st pre.length).vg.ownBlock) (hloc : v'.ownBlock = (st pre.length).vg.ownBlock ∨ (v'.ownBlock = some w3.heap.size ∧ w3.grownBy w4 none)) :
    ∃ st', Mid w2 (w4.setCell ⟨g, pre.length * 4 + 3, none⟩ v') B g pre.length ((pre ++ l :: c).map rawOf) st ((pre ++ l.gen p :: c).map rawOf) st' := by
  have hg2 : w2.grownBy w3 (st pre.length).vg.ownBlock := ⟨h3o, h3t, h3p, h3s, fun k hk _ => hw3 k hk⟩
  have hg2n : w2.grownBy w3 none := ⟨h3o, h3t, h3p, h3s, fun k hk _ => hw3 k hk⟩
  obtain ⟨hC5, hK5, hf5⟩ := hC.setGens (map_mid pre l c) (p := p) (v' := v') hown (hg2.trans hg) (hloc.imp id (fun h => ⟨fun b hb => by have := Option.some.inj (h.1.symm.trans hb); omega, hg2n.trans h.2⟩))
  rw [raw_gen, set_mid, show 4 * pre.length + 3 = pre.length * 4 + 3 from by omega] at hC5
  rw [show 4 * pre.length + 3 = pre.length * 4 + 3 from by omega] at hK5
  rw [raw_gen, set_mid] at hf5
  exact ⟨_, (Mid.start hC (Below.refl _ _)).step hC5 hK5 hf5 (fun j hj => by unfold updS; rw [if_neg (by omega)])⟩

set_option maxRecDepth 20000 in
set_option maxHeartbeats 8000000 in
theorem take_new {n k B g : Nat} {pre : List Lk} {l : Lk} {c : List Lk} {st : Nat → St} {p : Pm} {F : Nat → Prop} {w : World} (hBr : BringSays n k 12) (hpre : pre.length = k) (hn : k + (l :: c).length = n) (h12 : n ≤ 12) (hbs : ∀ x, x ∈ pre ++ l :: c → x.base < 12) (hnd : ∀ x, x ∈ l :: c → x.gens.Nodup)
    (hC : ChainAt w B g ((pre ++ l :: c).map rawOf) st) (hW : Whole F (l :: c)) (hF : Fixes F p) (hh : hasC (l :: c) p = false) :
    Calls Tryz.prog 81 #[.slice (some ⟨g, 0, none⟩) n n, .int .i64 k, pv p] w fun e w' => TakePost B g pre (l :: c) st p F w e w' := by
  subst hpre
  have hnC : (pre ++ l :: c).length = n := by rw [List.length_append]; exact hn
  have hn1 : pre.length + 1 + c.length = n := by rw [List.length_cons] at hn; omega
  have hA0 := Arr.new w p.l p.len
  have HH := hide (has_ok (pre ++ l :: c) pre.length p (w.alloc (.cells (i8s p.l) 78)) (hC.alloc _) (by simp) (by omega) hbs)
  rw [hnC, List.drop_left, hh] at HH
  have hbase : l.base < 12 := hbs l (by simp)
  have hpn : p ∉ l.gens := fun h => by
    have := (has_iff hW hF).2 ((hW.2.2 p).2 (Gen.of h))
    rw [hh] at this; cases this
  have HNDP : Hid (l.gens ++ [p]).Nodup := by
    show (l.gens ++ [p]).Nodup
    rw [List.nodup_append]
    exact ⟨hnd l List.mem_cons_self, by simp, fun a ha b hb e => hpn (by rw [← List.mem_singleton.1 hb, ← e]; exact ha)⟩
  have hgl : l.gens.length ≤ 12 ^ 12 := gens_bound (hnd l List.mem_cons_self)
  have h1212 : (12 : Nat) ^ 12 = 8916100448256 := by decide
  have HGL : Hid (l.gens.length ≤ 8916100448256) := by show _ ≤ _; omega
  have htl := tab_len hW.1 hbase
  have HC := hide hC
  have HW := hide hW
  have HF := hide hF
  have HN := hide hnd
  have HBS := hide hbs
  have HBR := hide hBr
  have hglt := hC.lt_g
  have hgB := hC.gB
  have lk := hC.link pre.length (rawOf l) (map_mid pre l c)
  obtain ⟨pb, cb, ebv⟩ := owns_slice12 lk.bells
  obtain ⟨pg, cg, egv⟩ := owns_slice12 lk.gens
  have hin2 : (Tryz.prog.info? 78).map (·.size) = some (p.l.map (Value.int .i8)).length := by rw [List.length_map, p.len]; exact Tryz.size78
  have hkn : (pre.length : Int) < (n : Int) := by omega
  clear hC hW hF hh hbs hnd hBr hpn hgl h1212 lk hn
  unfold pv at HH ⊢
  go_enter Tryz.func81, Tryz.ntmps81
  go_wp2_with (refine wpList_load_arr rfl _ rfl w.heap.size p.l hA0 rfl ?_)
  refine HH.out.mono ?_
  rintro e w2 ⟨rfl, hb1⟩
  have hB2 : Below w.heap.size w w2 := ((Below.refl _ _).alloc (Nat.le_refl _) _).trans ((below_alloc hb1).mono (by omega))
  have hA2 : Arr w2 w.heap.size p.l := hA0.below (below_alloc hb1) (by omega)
  have hC2 := HC.out.below hB2 (Nat.le_refl _)
  have lk2 := hC2.link pre.length (rawOf l) (map_mid pre l c)
  have c3 : w2.cell? ⟨g, pre.length * 4 + 3, none⟩ = some (.slice pg (rawOf l).gs.length cg) := by rw [Nat.mul_comm, ← egv]; exact lk2.c3
  have hg2lt := hC2.lt_g
  have c3a : ∀ o : Obj, (w2.alloc o).cell? ⟨g, pre.length * 4 + 3, none⟩ = some (.slice pg (rawOf l).gs.length cg) := fun o => (World.cell?_of_block (w := w2) (a := ⟨g, pre.length * 4 + 3, none⟩) (Below.heap_alloc w2 o g hg2lt)).trans c3
  have fg : w2.frozen? ⟨g, pre.length * 4 + 3, none⟩ = false := by obtain ⟨cs, ho, _⟩ := hC2.obj; simp [World.frozen?, ho]
  have hgn2 := lk2.gens
  have HC2 := hide hC2
  have HB2 := hide hB2
  have HLK2 := hide lk2
  have HKD := hide (hC2.kinds (map_mid pre l c) (map_mid pre l c))
  have hD2 := hA2.lt
  clear hb1 HH hA0 hC2 lk2 hB2
  go_wp2
  obtain ⟨i0, hi, hz0, hz1, hz2⟩ := info_parts Tryz.info78
  have HGO : Hid (w2.ownsRow B 78 12 (.slice pg (rawOf l).gs.length cg) (rawOf l).gs.length (gcells l.gens)) := by show World.ownsRow _ _ _ _ _ _ _; rw [← egv]; exact hgn2
  have HPL : Hid ((p.l.map (Value.int .i8)).length = 1 * 12) := by show _ = _; rw [List.length_map, p.len]
  have HO1 : Hid (∀ u ∈ p.l.map (Value.int .i8), u.oneCell' = true) := i8_one _
  have HM1 : Hid ((rawOf l).gs.length + 1 ≤ maxLen) := by have := HGL.out; show l.gens.length + 1 ≤ maxLen; unfold maxLen; omega
  have HY1 : Hid (((rawOf l).gs.length + 1) * 12 ≤ 140737488355328) := by have := HGL.out; show (l.gens.length + 1) * 12 ≤ _; omega
  have HS1 : Hid (∀ o : Obj, B ≤ (w2.alloc o).heap.size) := fun o => by simp; omega
  have HNW : Hid (∀ j u, (p.l.map (Value.int .i8))[j]? = some u → (w2.alloc (.cells (i8s p.l) 78)).cell? ((⟨w2.heap.size, 0, none⟩ : Addr).add j) = some u) := fun j u hu => by
    rw [Addr.add_mid]; exact (Arr.new w2 p.l p.len).range j u hu
  refine wp_region_held_drew (S := fun W' => Arr W' w.heap.size p.l) (by kernel_rfl) hA2 (fun hS => ?_)
  refine wpAnyH_take (i := 0) (v := .pointer (some ⟨g, pre.length * 4, none⟩)) rfl (by kernel_rfl) (by kernel_rfl) (by kernel_rfl) (fun _ _ _ h => h) (Or.inl ⟨by rfl, fun w' _ => by go_simp⟩) hS ?_
  refine wpAnyH_take (i := 1) (v := .pointer (some ⟨g, pre.length * 4, none⟩)) rfl (by kernel_rfl) (by kernel_rfl) (by kernel_rfl) (fun _ _ _ h => h) (Or.inl ⟨by rfl, fun w' _ => by go_simp⟩) hS ?_
  refine wpAnyH_take (i := 2) (v := .pointer (some ⟨g, pre.length * 4, none⟩)) rfl (by kernel_rfl) (by kernel_rfl) (by kernel_rfl) (fun _ _ _ h => h) (Or.inl ⟨by rfl, fun w' _ => by go_simp⟩) hS ?_
  refine wpAnyH_take (i := 3) (v := .pointer (some ⟨g, pre.length * 4 + 3, none⟩)) rfl (by kernel_rfl) (by kernel_rfl) (by kernel_rfl) (fun _ _ _ h => h) (Or.inl ⟨by rfl, fun w' _ => by go_simp⟩) hS ?_
  refine wpAnyH_take (i := 5) rfl (by kernel_rfl) (by kernel_rfl) (by kernel_rfl) (fun _ _ _ h => h) (yieldsIf_load_mid (by rfl) _ _ rfl w.heap.size 0 rfl (p.l.map (Value.int .i8)) _ (fun w' h => Arr.range h) Tryz.underlying78 rfl hin2) hS ?_
  refine wpAnyH_ready (rs := [4, 6]) (by kernel_rfl) (by simp) ?_
  refine AllReadyH.cons rfl (fun K hK => ?_) (AllReadyH.cons rfl (fun K hK => ?_) AllReadyH.nil)
  · go_simp
    refine hK.out _ _ hS (fun _ => ?_)
    clear hK
    refine wpAnyH_ready (rs := [6]) (by kernel_rfl) (by simp) ?_
    refine AllReadyH.cons rfl (fun K hK => ?_) AllReadyH.nil
    refine step_build rfl _ rfl p rfl ?_
    refine hK.out _ _ (Arr.alloc (w := w2.drew) hA2 _) (fun _ => ?_)
    clear hK
    refine wpAnyH_ready (rs := [7]) (by kernel_rfl) (by simp) ?_
    refine AllReadyH.cons rfl (fun K hK => ?_) AllReadyH.nil
    refine step_append_keep rfl _ _ 75 rfl B 78 i0 (.agg (i8s zeros12)) 12 12 Tryz.underlying75 hi hz0 hz1 hz2 rfl (by decide) _ _ _ rfl (World.ownsRow.alloc (w := w2.drew) HGO.out _) ⟨w2.heap.size, 0, none⟩ 1 1 (p.l.map (Value.int .i8)) rfl HPL.out (fun j u hu => HNW.out j u hu) HO1.out HM1.out HY1.out (HS1.out _) ?_
    intro v' w4 hown4 hg4 hloc4
    have hgv : (w2.drew.alloc (.cells (i8s p.l) 78)).grownBy w4 (st pre.length).vg.ownBlock := by rw [egv]; exact hg4
    have hlv : v'.ownBlock = (st pre.length).vg.ownBlock ∨ (v'.ownBlock = some (w2.drew.alloc (.cells (i8s p.l) 78)).heap.size ∧ (w2.drew.alloc (.cells (i8s p.l) 78)).grownBy w4 none) := by rw [egv]; exact hloc4
    have hA4 : Arr w4 w.heap.size p.l := (Arr.alloc (w := w2.drew) hA2 _).kept hgv (fun e => by have := (HC.out.link pre.length (rawOf l) (map_mid pre l c)).gens.lt _ e; omega)
    have hgg : w4.heap[g]? = w2.heap[g]? := (hgv.block g (by show g < (w2.alloc _).heap.size; simp; omega) (fun e => HKD.out.2.2.1 e.symm)).trans (Below.heap_alloc w2 _ g hg2lt)
    have c4 : w4.cell? ⟨g, pre.length * 4 + 3, none⟩ = some (.slice pg (rawOf l).gs.length cg) := (World.cell?_of_block (w := w2) (a := ⟨g, pre.length * 4 + 3, none⟩) hgg).trans c3
    have f4 : w4.frozen? ⟨g, pre.length * 4 + 3, none⟩ = false := (World.frozen?_of_block (w := w2) (a := ⟨g, pre.length * 4 + 3, none⟩) hgg).trans fg
    refine hK.out _ _ hA4 (fun hS => ?_)
    clear hK
    obtain ⟨st5, hM5⟩ := gen_stored (p := p) HC2.out (w3 := w2.drew.alloc (.cells (i8s p.l) 78)) (fun b hb => Below.heap_alloc w2 _ b hb) (by show _ ≤ (w2.alloc _).heap.size; simp) rfl rfl rfl hown4 hgv hlv
    obtain ⟨pv', cv', ev'⟩ := owns_slice12 hown4
    have hA5 : Arr (w4.setCell ⟨g, pre.length * 4 + 3, none⟩ v') w.heap.size p.l := hA4.set_other (by omega) _
    rw [ev'] at hM5 hA5
    subst ev'
    clear hown4 hg4 hloc4 hgv hlv hgg hA4
    refine wpAnyH_take (i := 8) (v := .pointer (some ⟨g, pre.length * 4, none⟩)) rfl (by kernel_rfl) (by kernel_rfl) (by kernel_rfl) (fun _ _ _ h => h) (Or.inl ⟨by rfl, fun w' _ => by go_simp⟩) hS ?_
    refine wpAnyH_take (i := 9) (v := .pointer (some ⟨g, pre.length * 4 + 3, none⟩)) rfl (by kernel_rfl) (by kernel_rfl) (by kernel_rfl) (fun _ _ _ h => h) (Or.inl ⟨by rfl, fun w' _ => by go_simp⟩) hS ?_
    refine wpAnyH_ready (rs := [10]) (by kernel_rfl) (by simp) ?_
    refine AllReadyH.cons rfl (fun K hK => ?_) AllReadyH.nil
    go_simp
    refine hK.out _ _ hA5 (fun _ => ?_)
    clear hK
    refine wpAnyH_done (by kernel_rfl) ?_ _
    generalize w4.setCell ⟨g, pre.length * 4 + 3, none⟩ (.slice pv' ((rawOf l).gs.length + 1) cv') = w5 at *
    have hnf5 : ∀ x, ¬ Foot g pre.length ((pre ++ l.gen p :: c).map rawOf) st5 w.heap.size x := fun x hf => Foot.not_new HC.out (Nat.le_refl _) x (hM5.foot' hf hD2)
    have hD5 := hA5.lt
    have lk5 := hM5.chain.link pre.length (rawOf (l.gen p)) (map_mid pre (l.gen p) c)
    obtain ⟨pb5, cb5, eb5⟩ := owns_slice12 lk5.bells
    have c25 : w5.cell? ⟨g, pre.length * 4 + 2, none⟩ = some (.slice pb5 (rawOf (l.gen p)).bs.length cb5) := by rw [Nat.mul_comm, ← eb5]; exact lk5.c2
    have HM5 := hide hM5
    have HA5 := hide hA5
    have HLK5 := hide lk5
    have HNF := hide hnf5
    have HTL : Hid ((rawOf (l.gen p)).bs.length = l.tab.length) := by show (l.tab.map _).length = _; simp
    clear hM5 hA5 lk5 hnf5 c4 f4 c3 c3a fg hgn2 hA2 HLK2 HKD HGO HPL HO1 HM1 HY1 HS1 HNW hi hz0 hz1 hz2
    generalize hnb : (rawOf (l.gen p)).bs.length = nb at *
    have HNB := hide hnb
    have hnb2 : (nb : Int) ≤ 12 := by have := HTL.out; omega
    clear hnb
    go_wp2
    go_loopw [31] (fun i wr => ∃ (q : Nat) (l' : Lk) (c' : List Lk) (st' : Nat → St), q ≤ nb ∧ i = .int .i64 q ∧ TLoop F l c l' c' p q ∧ Mid w5 wr B g pre.length ((pre ++ l.gen p :: c).map rawOf) st5 ((pre ++ l' :: c').map rawOf) st' ∧ Arr wr w.heap.size p.l ∧ Hid (∀ x, x ∈ l' :: c' → x.gens.Nodup)) (fun i _ => nb - (intOf i).toNat)
    case atStart =>
      refine ⟨0, l.gen p, c, st5, by omega, rfl, TLoop.start HW.out HF.out, Mid.start HM5.out.chain (Below.refl _ _), HA5.out, ?_⟩
      intro x hx
      rcases List.mem_cons.1 hx with rfl | hx
      · exact HNDP.out
      · exact HN.out x (List.mem_cons_of_mem _ hx)
    case round =>
      obtain ⟨q, l', c', st', hq, rfl, hL, hMid, hA, hnd⟩ := hrel
      by_cases hlt : q < nb
      · have hql : q < l.tab.length := by have := HTL.out; omega
        obtain ⟨e, he⟩ : ∃ e, l.tab[q]? = some e := ⟨_, List.getElem?_eq_getElem hql⟩
        have hem : e ∈ l.tab := List.mem_of_getElem? he
        obtain ⟨more, htab⟩ := hL.tab
        have hem' : e ∈ l'.tab := by rw [htab]; exact List.mem_append_left _ hem
        have hbl5 := HLK5.out.bells
        rw [eb5, HNB.out] at hbl5
        obtain ⟨bb, hbb, _, hbc, hbm⟩ := owns_some hbl5 (by omega)
        have hvb : (st5 pre.length).vb.ownBlock = some bb := by rw [eb5, hbb]; rfl
        have hcell : wr.cell? ⟨bb, q, none⟩ = some (.int .i64 ((e.1 : Nat) : Int)) := by
          have h1 := keep_ints hMid.keep HLK5.out.bells hvb (fun x hx => foot_bells HM5.out.chain (map_mid pre (l.gen p) c) hvb hx) (j := q) (by rw [HNB.out]; exact hlt)
          rw [h1]
          show some ((l.tab.map (fun e => Value.int .i64 ((e.1 : Nat) : Int))).getD q undef) = _
          rw [List.getD, List.getElem?_map, he]
          rfl
        have lkr := hMid.chain.link pre.length (rawOf l') (map_mid pre l' c')
        have c1 : wr.cell? ⟨g, pre.length * 4 + 1, none⟩ = some (.map (some (st' pre.length).m)) := by rw [Nat.mul_comm]; exact lkr.c1
        have hke : e.1 < 12 := key_lt HW.out.1 hbase hem
        have hlook : ((rawOf l').f ((e.1 : Nat) : Int)).getD (.agg (i8s zeros12)) = .agg (e.2.l.map (Value.int .i8)).toArray := by
          show (tabF l'.tab ((e.1 : Nat) : Int)).getD _ = _
          rw [tabF_nat, lookup_of_mem hL.part.ok.nodup (b := e.1) (u := e.2) hem']
          rfl
        have hmp := lkr.mp
        have HE := hide he
        have HEM := hide hem
        have HEM' := hide hem'
        have HL := hide hL
        have HMid := hide hMid
        have hAlt := hA.lt
        generalize hk1 : e.1 = b1 at *
        have HK1 := hide hk1
        subst hbb
        clear hL hMid lkr he hem hem' htab hvb hbl5 hk1
        go_wp2
        refine wp_region_held_drew (S := fun W' => Arr W' w.heap.size p.l) (by kernel_rfl) hA (fun hS => ?_)
        refine wpAnyH_take (i := 0) (v := .slice (some ⟨g, 0, none⟩) n n) rfl (by kernel_rfl) (by kernel_rfl) (by kernel_rfl) (fun _ _ _ h => h) (Or.inl ⟨by rfl, fun w' _ => by go_simp⟩) hS ?_
        refine wpAnyH_take (i := 1) (v := .int .i64 (pre.length : Int)) rfl (by kernel_rfl) (by kernel_rfl) (by kernel_rfl) (fun _ _ _ h => h) (Or.inl ⟨by rfl, fun w' _ => by go_simp⟩) hS ?_
        refine wpAnyH_take (i := 2) rfl (by kernel_rfl) (by kernel_rfl) (by kernel_rfl) (fun _ _ _ h => h) (yieldsIf_load_mid (by rfl) _ _ rfl w.heap.size 0 rfl (p.l.map (Value.int .i8)) _ (fun w' h => Arr.range h) Tryz.underlying78 rfl hin2) hS ?_
        refine wpAnyH_take (i := 3) (v := .pointer (some ⟨g, pre.length * 4, none⟩)) rfl (by kernel_rfl) (by kernel_rfl) (by kernel_rfl) (fun _ _ _ h => h) (Or.inl ⟨by rfl, fun w' _ => by go_simp⟩) hS ?_
        refine wpAnyH_take (i := 4) (v := .pointer (some ⟨g, pre.length * 4, none⟩)) rfl (by kernel_rfl) (by kernel_rfl) (by kernel_rfl) (fun _ _ _ h => h) (Or.inl ⟨by rfl, fun w' _ => by go_simp⟩) hS ?_
        refine wpAnyH_take (i := 5) (v := .pointer (some ⟨g, pre.length * 4 + 1, none⟩)) rfl (by kernel_rfl) (by kernel_rfl) (by kernel_rfl) (fun _ _ _ h => h) (Or.inl ⟨by rfl, fun w' _ => by go_simp⟩) hS ?_
        refine wpAnyH_take (i := 7) (v := .int .i64 (b1 : Int)) rfl (by kernel_rfl) (by kernel_rfl) (by kernel_rfl) (fun _ _ _ h => h) (Or.inl ⟨by rfl, fun w' _ => by go_simp⟩) hS ?_
        refine wpAnyH_ready (rs := [6]) (by kernel_rfl) (by simp) ?_
        refine AllReadyH.cons rfl (fun K hK => ?_) AllReadyH.nil
        go_simp
        refine hK.out _ _ hA (fun _ => ?_)
        clear hK
        refine wpAnyH_ready (rs := [8]) (by kernel_rfl) (by simp) ?_
        refine AllReadyH.cons rfl (fun K hK => ?_) AllReadyH.nil
        refine step_look' rfl _ _ 97 rfl 78 Tryz.underlying97 (Tryz.zero78 _) (show IMap wr.drew (st' pre.length).m (rawOf l').n (rawOf l').f from hmp) (b1 : Int) rfl rfl (by omega) (by omega) hlook ?_
        refine hK.out _ _ hA (fun _ => ?_)
        clear hK
        refine wpAnyH_ready (rs := [9]) (by kernel_rfl) (by simp) ?_
        refine AllReadyH.cons rfl (fun K hK => ?_) AllReadyH.nil
        go_simp
        refine (ptimes_raw p e.2 _).mono ?_
        rintro e0 w7 ⟨rfl, hb7⟩
        replace hb7 := undrew hb7
        have hM7 := HMid.out.quiet hb7
        have hA7 := hA.below hb7 hAlt
        refine hK.out _ _ hA7 (fun _ => ?_)
        clear hK
        refine wpAnyH_ready (rs := [10]) (by kernel_rfl) (by simp) ?_
        refine AllReadyH.cons rfl (fun K hK => ?_) AllReadyH.nil
        have hBr := HBR.out B g pre l' c' st' (p * e.2) F w7 rfl (by rw [HL.out.len]; exact hn1) h12 (by omega)
          (bases_of (cs := l :: c) (cs' := l' :: c') (by rw [List.map_cons, List.map_cons, HL.out.bases, HL.out.base]) HBS.out) hnd.out hM7.chain HL.out.part ((fixes_sub F).mul HF.out (HW.out.1.fix e HEM.out))
          (Gen.mul' (Gen.of (by show p ∈ l'.gens; rw [HL.out.gens]; simp)) (HL.out.part.inG e HEM'.out))
        unfold pv at hBr
        have HBr := hide hBr
        have HM7 := hide hM7
        clear hBr hM7 hb7
        go_simp
        refine HBr.out.mono ?_
        rintro e0 w8 ⟨v, rfl, l2, c2, st2, hP2, hBt2, hC8, hK8, hf8, hn8, hs8⟩
        have hM8 := HM7.out.step hC8 hK8 hf8 hs8
        have hA8 : Arr w8 w.heap.size p.l := keep_arr hK8 hA7 (fun x hf => HNF.out x (HM7.out.foot' hf hD5))
        have hL2 : TLoop F l c l2 c2 p (q + 1) := HL.out.step (e := e) (by rw [List.take_add_one, HE.out]; rfl) (by rw [HK1.out]; exact (HW.out.1.brings e HEM.out).trans HK1.out) hP2 hBt2
        refine hK.out _ _ hA8 (fun _ => ?_)
        clear hK
        refine wpAnyH_done (by kernel_rfl) ?_ _
        go_wp2
        go_roundw
        case rel =>
          have hfin : ∃ (q' : Nat) (l' : Lk) (c' : List Lk) (st' : Nat → St), q' ≤ nb ∧ Value.int .i64 ((q : Int) + 1) = .int .i64 (q' : Int) ∧ TLoop F l c l' c' p q' ∧ Mid w5 w8 B g pre.length ((pre ++ l.gen p :: c).map rawOf) st5 ((pre ++ l' :: c').map rawOf) st' ∧ Arr w8 w.heap.size p.l ∧ Hid (∀ x, x ∈ l' :: c' → x.gens.Nodup) :=
            ⟨q + 1, l2, c2, st2, by omega, by go_num, hL2, hM8, hA8, hn8⟩
          first
            | exact hfin
            | ((repeat apply Exists.intro); exact ⟨hfin, rfl⟩)
        case measure => simp [intOf]; omega
      · have hqn : l.tab.length ≤ q := by have := HTL.out; omega
        have hfin := hL.finish HW.out hqn
        have hMf := HM5.out.step hMid.chain hMid.keep hMid.foot hMid.low
        have HFin := hide hfin
        have HMf := hide hMf
        clear hL hMid hfin hMf
        go_wp2
        first
          | exact bodyPost_end (results_none rfl _ _ _) rfl (TakePost.mk HFin.out.1 HFin.out.2 HMf.out.chain ((Keep.of_below HB2.out (Nat.le_refl _)).trans HMf.out.keep (fun _ _ _ h => h)) (fun b x hb hf => HMf.out.foot b x (Nat.lt_of_lt_of_le hb HB2.out.size) hf) hnd.out HMf.out.low)
          | exact bodyPost_ret (results_none rfl _ _ _) rfl (TakePost.mk HFin.out.1 HFin.out.2 HMf.out.chain ((Keep.of_below HB2.out (Nat.le_refl _)).trans HMf.out.keep (fun _ _ _ h => h)) (fun b x hb hf => HMf.out.foot b x (Nat.lt_of_lt_of_le hb HB2.out.size) hf) hnd.out HMf.out.low)
  · refine step_build rfl _ rfl p rfl ?_
    refine hK.out _ _ (Arr.alloc (w := w2.drew) hA2 _) (fun _ => ?_)
    clear hK
    refine wpAnyH_ready (rs := [4]) (by kernel_rfl) (by simp) ?_
    refine AllReadyH.cons rfl (fun K hK => ?_) AllReadyH.nil
    go_simp
    refine hK.out _ _ (Arr.alloc (w := w2.drew) hA2 _) (fun _ => ?_)
    clear hK
    refine wpAnyH_ready (rs := [7]) (by kernel_rfl) (by simp) ?_
    refine AllReadyH.cons rfl (fun K hK => ?_) AllReadyH.nil
    refine step_append_keep rfl _ _ 75 rfl B 78 i0 (.agg (i8s zeros12)) 12 12 Tryz.underlying75 hi hz0 hz1 hz2 rfl (by decide) _ _ _ rfl (World.ownsRow.alloc (w := w2.drew) HGO.out _) ⟨w2.heap.size, 0, none⟩ 1 1 (p.l.map (Value.int .i8)) rfl HPL.out (fun j u hu => HNW.out j u hu) HO1.out HM1.out HY1.out (HS1.out _) ?_
    intro v' w4 hown4 hg4 hloc4
    have hgv : (w2.drew.alloc (.cells (i8s p.l) 78)).grownBy w4 (st pre.length).vg.ownBlock := by rw [egv]; exact hg4
    have hlv : v'.ownBlock = (st pre.length).vg.ownBlock ∨ (v'.ownBlock = some (w2.drew.alloc (.cells (i8s p.l) 78)).heap.size ∧ (w2.drew.alloc (.cells (i8s p.l) 78)).grownBy w4 none) := by rw [egv]; exact hloc4
    have hA4 : Arr w4 w.heap.size p.l := (Arr.alloc (w := w2.drew) hA2 _).kept hgv (fun e => by have := (HC.out.link pre.length (rawOf l) (map_mid pre l c)).gens.lt _ e; omega)
    have hgg : w4.heap[g]? = w2.heap[g]? := (hgv.block g (by show g < (w2.alloc _).heap.size; simp; omega) (fun e => HKD.out.2.2.1 e.symm)).trans (Below.heap_alloc w2 _ g hg2lt)
    have c4 : w4.cell? ⟨g, pre.length * 4 + 3, none⟩ = some (.slice pg (rawOf l).gs.length cg) := (World.cell?_of_block (w := w2) (a := ⟨g, pre.length * 4 + 3, none⟩) hgg).trans c3
    have f4 : w4.frozen? ⟨g, pre.length * 4 + 3, none⟩ = false := (World.frozen?_of_block (w := w2) (a := ⟨g, pre.length * 4 + 3, none⟩) hgg).trans fg
    refine hK.out _ _ hA4 (fun hS => ?_)
    clear hK
    obtain ⟨st5, hM5⟩ := gen_stored (p := p) HC2.out (w3 := w2.drew.alloc (.cells (i8s p.l) 78)) (fun b hb => Below.heap_alloc w2 _ b hb) (by show _ ≤ (w2.alloc _).heap.size; simp) rfl rfl rfl hown4 hgv hlv
    obtain ⟨pv', cv', ev'⟩ := owns_slice12 hown4
    have hA5 : Arr (w4.setCell ⟨g, pre.length * 4 + 3, none⟩ v') w.heap.size p.l := hA4.set_other (by omega) _
    rw [ev'] at hM5 hA5
    subst ev'
    clear hown4 hg4 hloc4 hgv hlv hgg hA4
    refine wpAnyH_take (i := 8) (v := .pointer (some ⟨g, pre.length * 4, none⟩)) rfl (by kernel_rfl) (by kernel_rfl) (by kernel_rfl) (fun _ _ _ h => h) (Or.inl ⟨by rfl, fun w' _ => by go_simp⟩) hS ?_
    refine wpAnyH_take (i := 9) (v := .pointer (some ⟨g, pre.length * 4 + 3, none⟩)) rfl (by kernel_rfl) (by kernel_rfl) (by kernel_rfl) (fun _ _ _ h => h) (Or.inl ⟨by rfl, fun w' _ => by go_simp⟩) hS ?_
    refine wpAnyH_ready (rs := [10]) (by kernel_rfl) (by simp) ?_
    refine AllReadyH.cons rfl (fun K hK => ?_) AllReadyH.nil
    go_simp
    refine hK.out _ _ hA5 (fun _ => ?_)
    clear hK
    refine wpAnyH_done (by kernel_rfl) ?_ _
    generalize w4.setCell ⟨g, pre.length * 4 + 3, none⟩ (.slice pv' ((rawOf l).gs.length + 1) cv') = w5 at *
    have hnf5 : ∀ x, ¬ Foot g pre.length ((pre ++ l.gen p :: c).map rawOf) st5 w.heap.size x := fun x hf => Foot.not_new HC.out (Nat.le_refl _) x (hM5.foot' hf hD2)
    have hD5 := hA5.lt
    have lk5 := hM5.chain.link pre.length (rawOf (l.gen p)) (map_mid pre (l.gen p) c)
    obtain ⟨pb5, cb5, eb5⟩ := owns_slice12 lk5.bells
    have c25 : w5.cell? ⟨g, pre.length * 4 + 2, none⟩ = some (.slice pb5 (rawOf (l.gen p)).bs.length cb5) := by rw [Nat.mul_comm, ← eb5]; exact lk5.c2
    have HM5 := hide hM5
    have HA5 := hide hA5
    have HLK5 := hide lk5
    have HNF := hide hnf5
    have HTL : Hid ((rawOf (l.gen p)).bs.length = l.tab.length) := by show (l.tab.map _).length = _; simp
    clear hM5 hA5 lk5 hnf5 c4 f4 c3 c3a fg hgn2 hA2 HLK2 HKD HGO HPL HO1 HM1 HY1 HS1 HNW hi hz0 hz1 hz2
    generalize hnb : (rawOf (l.gen p)).bs.length = nb at *
    have HNB := hide hnb
    have hnb2 : (nb : Int) ≤ 12 := by have := HTL.out; omega
    clear hnb
    go_wp2
    go_loopw [31] (fun i wr => ∃ (q : Nat) (l' : Lk) (c' : List Lk) (st' : Nat → St), q ≤ nb ∧ i = .int .i64 q ∧ TLoop F l c l' c' p q ∧ Mid w5 wr B g pre.length ((pre ++ l.gen p :: c).map rawOf) st5 ((pre ++ l' :: c').map rawOf) st' ∧ Arr wr w.heap.size p.l ∧ Hid (∀ x, x ∈ l' :: c' → x.gens.Nodup)) (fun i _ => nb - (intOf i).toNat)
    case atStart =>
      refine ⟨0, l.gen p, c, st5, by omega, rfl, TLoop.start HW.out HF.out, Mid.start HM5.out.chain (Below.refl _ _), HA5.out, ?_⟩
      intro x hx
      rcases List.mem_cons.1 hx with rfl | hx
      · exact HNDP.out
      · exact HN.out x (List.mem_cons_of_mem _ hx)
    case round =>
      obtain ⟨q, l', c', st', hq, rfl, hL, hMid, hA, hnd⟩ := hrel
      by_cases hlt : q < nb
      · have hql : q < l.tab.length := by have := HTL.out; omega
        obtain ⟨e, he⟩ : ∃ e, l.tab[q]? = some e := ⟨_, List.getElem?_eq_getElem hql⟩
        have hem : e ∈ l.tab := List.mem_of_getElem? he
        obtain ⟨more, htab⟩ := hL.tab
        have hem' : e ∈ l'.tab := by rw [htab]; exact List.mem_append_left _ hem
        have hbl5 := HLK5.out.bells
        rw [eb5, HNB.out] at hbl5
        obtain ⟨bb, hbb, _, hbc, hbm⟩ := owns_some hbl5 (by omega)
        have hvb : (st5 pre.length).vb.ownBlock = some bb := by rw [eb5, hbb]; rfl
        have hcell : wr.cell? ⟨bb, q, none⟩ = some (.int .i64 ((e.1 : Nat) : Int)) := by
          have h1 := keep_ints hMid.keep HLK5.out.bells hvb (fun x hx => foot_bells HM5.out.chain (map_mid pre (l.gen p) c) hvb hx) (j := q) (by rw [HNB.out]; exact hlt)
          rw [h1]
          show some ((l.tab.map (fun e => Value.int .i64 ((e.1 : Nat) : Int))).getD q undef) = _
          rw [List.getD, List.getElem?_map, he]
          rfl
        have lkr := hMid.chain.link pre.length (rawOf l') (map_mid pre l' c')
        have c1 : wr.cell? ⟨g, pre.length * 4 + 1, none⟩ = some (.map (some (st' pre.length).m)) := by rw [Nat.mul_comm]; exact lkr.c1
        have hke : e.1 < 12 := key_lt HW.out.1 hbase hem
        have hlook : ((rawOf l').f ((e.1 : Nat) : Int)).getD (.agg (i8s zeros12)) = .agg (e.2.l.map (Value.int .i8)).toArray := by
          show (tabF l'.tab ((e.1 : Nat) : Int)).getD _ = _
          rw [tabF_nat, lookup_of_mem hL.part.ok.nodup (b := e.1) (u := e.2) hem']
          rfl
        have hmp := lkr.mp
        have HE := hide he
        have HEM := hide hem
        have HEM' := hide hem'
        have HL := hide hL
        have HMid := hide hMid
        have hAlt := hA.lt
        generalize hk1 : e.1 = b1 at *
        have HK1 := hide hk1
        subst hbb
        clear hL hMid lkr he hem hem' htab hvb hbl5 hk1
        go_wp2
        refine wp_region_held_drew (S := fun W' => Arr W' w.heap.size p.l) (by kernel_rfl) hA (fun hS => ?_)
        refine wpAnyH_take (i := 0) (v := .slice (some ⟨g, 0, none⟩) n n) rfl (by kernel_rfl) (by kernel_rfl) (by kernel_rfl) (fun _ _ _ h => h) (Or.inl ⟨by rfl, fun w' _ => by go_simp⟩) hS ?_
        refine wpAnyH_take (i := 1) (v := .int .i64 (pre.length : Int)) rfl (by kernel_rfl) (by kernel_rfl) (by kernel_rfl) (fun _ _ _ h => h) (Or.inl ⟨by rfl, fun w' _ => by go_simp⟩) hS ?_
        refine wpAnyH_take (i := 2) rfl (by kernel_rfl) (by kernel_rfl) (by kernel_rfl) (fun _ _ _ h => h) (yieldsIf_load_mid (by rfl) _ _ rfl w.heap.size 0 rfl (p.l.map (Value.int .i8)) _ (fun w' h => Arr.range h) Tryz.underlying78 rfl hin2) hS ?_
        refine wpAnyH_take (i := 3) (v := .pointer (some ⟨g, pre.length * 4, none⟩)) rfl (by kernel_rfl) (by kernel_rfl) (by kernel_rfl) (fun _ _ _ h => h) (Or.inl ⟨by rfl, fun w' _ => by go_simp⟩) hS ?_
        refine wpAnyH_take (i := 4) (v := .pointer (some ⟨g, pre.length * 4, none⟩)) rfl (by kernel_rfl) (by kernel_rfl) (by kernel_rfl) (fun _ _ _ h => h) (Or.inl ⟨by rfl, fun w' _ => by go_simp⟩) hS ?_
        refine wpAnyH_take (i := 5) (v := .pointer (some ⟨g, pre.length * 4 + 1, none⟩)) rfl (by kernel_rfl) (by kernel_rfl) (by kernel_rfl) (fun _ _ _ h => h) (Or.inl ⟨by rfl, fun w' _ => by go_simp⟩) hS ?_
        refine wpAnyH_take (i := 7) (v := .int .i64 (b1 : Int)) rfl (by kernel_rfl) (by kernel_rfl) (by kernel_rfl) (fun _ _ _ h => h) (Or.inl ⟨by rfl, fun w' _ => by go_simp⟩) hS ?_
        refine wpAnyH_ready (rs := [6]) (by kernel_rfl) (by simp) ?_
        refine AllReadyH.cons rfl (fun K hK => ?_) AllReadyH.nil
        go_simp
        refine hK.out _ _ hA (fun _ => ?_)
        clear hK
        refine wpAnyH_ready (rs := [8]) (by kernel_rfl) (by simp) ?_
        refine AllReadyH.cons rfl (fun K hK => ?_) AllReadyH.nil
        refine step_look' rfl _ _ 97 rfl 78 Tryz.underlying97 (Tryz.zero78 _) (show IMap wr.drew (st' pre.length).m (rawOf l').n (rawOf l').f from hmp) (b1 : Int) rfl rfl (by omega) (by omega) hlook ?_
        refine hK.out _ _ hA (fun _ => ?_)
        clear hK
        refine wpAnyH_ready (rs := [9]) (by kernel_rfl) (by simp) ?_
        refine AllReadyH.cons rfl (fun K hK => ?_) AllReadyH.nil
        go_simp
        refine (ptimes_raw p e.2 _).mono ?_
        rintro e0 w7 ⟨rfl, hb7⟩
        replace hb7 := undrew hb7
        have hM7 := HMid.out.quiet hb7
        have hA7 := hA.below hb7 hAlt
        refine hK.out _ _ hA7 (fun _ => ?_)
        clear hK
        refine wpAnyH_ready (rs := [10]) (by kernel_rfl) (by simp) ?_
        refine AllReadyH.cons rfl (fun K hK => ?_) AllReadyH.nil
        have hBr := HBR.out B g pre l' c' st' (p * e.2) F w7 rfl (by rw [HL.out.len]; exact hn1) h12 (by omega)
          (bases_of (cs := l :: c) (cs' := l' :: c') (by rw [List.map_cons, List.map_cons, HL.out.bases, HL.out.base]) HBS.out) hnd.out hM7.chain HL.out.part ((fixes_sub F).mul HF.out (HW.out.1.fix e HEM.out))
          (Gen.mul' (Gen.of (by show p ∈ l'.gens; rw [HL.out.gens]; simp)) (HL.out.part.inG e HEM'.out))
        unfold pv at hBr
        have HBr := hide hBr
        have HM7 := hide hM7
        clear hBr hM7 hb7
        go_simp
        refine HBr.out.mono ?_
        rintro e0 w8 ⟨v, rfl, l2, c2, st2, hP2, hBt2, hC8, hK8, hf8, hn8, hs8⟩
        have hM8 := HM7.out.step hC8 hK8 hf8 hs8
        have hA8 : Arr w8 w.heap.size p.l := keep_arr hK8 hA7 (fun x hf => HNF.out x (HM7.out.foot' hf hD5))
        have hL2 : TLoop F l c l2 c2 p (q + 1) := HL.out.step (e := e) (by rw [List.take_add_one, HE.out]; rfl) (by rw [HK1.out]; exact (HW.out.1.brings e HEM.out).trans HK1.out) hP2 hBt2
        refine hK.out _ _ hA8 (fun _ => ?_)
        clear hK
        refine wpAnyH_done (by kernel_rfl) ?_ _
        go_wp2
        go_roundw
        case rel =>
          have hfin : ∃ (q' : Nat) (l' : Lk) (c' : List Lk) (st' : Nat → St), q' ≤ nb ∧ Value.int .i64 ((q : Int) + 1) = .int .i64 (q' : Int) ∧ TLoop F l c l' c' p q' ∧ Mid w5 w8 B g pre.length ((pre ++ l.gen p :: c).map rawOf) st5 ((pre ++ l' :: c').map rawOf) st' ∧ Arr w8 w.heap.size p.l ∧ Hid (∀ x, x ∈ l' :: c' → x.gens.Nodup) :=
            ⟨q + 1, l2, c2, st2, by omega, by go_num, hL2, hM8, hA8, hn8⟩
          first
            | exact hfin
            | ((repeat apply Exists.intro); exact ⟨hfin, rfl⟩)
        case measure => simp [intOf]; omega
      · have hqn : l.tab.length ≤ q := by have := HTL.out; omega
        have hfin := hL.finish HW.out hqn
        have hMf := HM5.out.step hMid.chain hMid.keep hMid.foot hMid.low
        have HFin := hide hfin
        have HMf := hide hMf
        clear hL hMid hfin hMf
        go_wp2
        first
          | exact bodyPost_end (results_none rfl _ _ _) rfl (TakePost.mk HFin.out.1 HFin.out.2 HMf.out.chain ((Keep.of_below HB2.out (Nat.le_refl _)).trans HMf.out.keep (fun _ _ _ h => h)) (fun b x hb hf => HMf.out.foot b x (Nat.lt_of_lt_of_le hb HB2.out.size) hf) hnd.out HMf.out.low)
          | exact bodyPost_ret (results_none rfl _ _ _) rfl (TakePost.mk HFin.out.1 HFin.out.2 HMf.out.chain ((Keep.of_below HB2.out (Nat.le_refl _)).trans HMf.out.keep (fun _ _ _ h => h)) (fun b x hb hf => HMf.out.foot b x (Nat.lt_of_lt_of_le hb HB2.out.size) hf) hnd.out HMf.out.low)
end Go.Proofs.YtahffpgadoiijaaGreat

/- take and bring at all levels. -/
namespace Go.Proofs.YtahffpgadoiijaaGreat
open Go.RowKit

theorem bring_all {n k : Nat} (hT : TakeSays n (k + 1)) (m : Nat) : BringSays n k m := by
  induction m using Nat.strongRecOn with
  | ind m ih =>
    intro B g pre l c st p F w
    cases h : l.tab.lookup (p.act l.base) with
    | some u => exact bring_old hT h
    | none => exact bring_new ih h

theorem take_all {n : Nat} : ∀ (d k : Nat), k + d = n → TakeSays n k
  | 0, k, hk => by
    intro B g pre cs st p F w hpre hn h12 hbs hnd hC hW hF
    have e : cs = [] := List.length_eq_zero_iff.1 (by omega)
    exact take_has hpre hn h12 hbs hnd hC hW hF (by rw [e]; rfl)
  | d + 1, k, hk => by
    intro B g pre cs st p F w hpre hn h12 hbs hnd hC hW hF
    cases hh : hasC cs p with
    | true => exact take_has hpre hn h12 hbs hnd hC hW hF hh
    | false =>
      cases cs with
      | nil => cases hh
      | cons l c => exact take_new (bring_all (take_all d (k + 1) (by omega)) 12) hpre hn h12 hbs hnd hC hW hF hh

end Go.Proofs.YtahffpgadoiijaaGreat

/- Contract: newChain (bases in order). -/
namespace Go.Proofs.YtahffpgadoiijaaGreat
open Go.RowKit

/-! a chain of no generators -/

def lk0 (b : Nat) : Lk := ⟨b, [(b, 1)], []⟩

theorem prd_lk0 (bs : List Nat) (p : Pm) : Prd (bs.map lk0) p ↔ p = 1 := by
  induction bs generalizing p with
  | nil => exact Iff.rfl
  | cons b bs ih =>
    constructor
    · rintro ⟨e, he, h, hh, rfl⟩
      rw [List.mem_singleton.1 he, (ih h).1 hh]
      exact Pm.one_mul 1
    · intro hp
      exact ⟨(b, 1), List.mem_singleton.2 rfl, 1, (ih 1).2 rfl, by rw [hp, Pm.one_mul]⟩

theorem gen_none {p : Pm} (h : Gen (fun x => x ∈ ([] : List Pm)) p) : p = 1 := by
  induction h with
  | one => rfl
  | mul hs _ _ => cases hs

theorem whole_lk0 (bs : List Nat) (F : Nat → Prop) (h : ∀ b, b < 12 → F b ∨ b ∈ bs) : Whole F (bs.map lk0) := by
  induction bs generalizing F with
  | nil => exact fun b hb => (h b hb).resolve_right (by simp)
  | cons b bs ih =>
    refine ⟨⟨by simp [lk0], fun e he => ?_, List.mem_singleton.2 rfl, fun e he => ?_⟩, ih _ (fun x hx => ?_), fun p => ?_⟩
    · rw [List.mem_singleton.1 he]; exact Pm.act_one b
    · rw [List.mem_singleton.1 he]; exact (fixes_sub F).one
    · rcases h x hx with h1 | h1
      · exact Or.inl (Or.inl h1)
      · rcases List.mem_cons.1 h1 with rfl | h1
        · exact Or.inl (Or.inr rfl)
        · exact Or.inr h1
    · rw [show lk0 b :: bs.map lk0 = (b :: bs).map lk0 from rfl, prd_lk0]
      exact ⟨fun e => by rw [e]; exact Gen.one, gen_none⟩

/-! the links, as they are laid one behind the other -/

structure PreAt (w : World) (B g n : Nat) (R : List Raw) (st : Nat → St) : Prop where
  obj : ∃ cs, w.heap[g]? = some (.cells cs 99) ∧ cs.size = 4 * n
  gB : B ≤ g
  link : ∀ j r, R[j]? = some r → LinkAt w B g j r (st j)
  mdis : ∀ i j, i < R.length → j < R.length → i ≠ j → (st i).m ≠ (st j).m
  bdis : ∀ i j, i < R.length → j < R.length → i ≠ j → ∀ b, (st i).vb.ownBlock = some b → (st j).vb.ownBlock ≠ some b
  gdis : ∀ i j, i < R.length → j < R.length → i ≠ j → ∀ b, (st i).vg.ownBlock = some b → (st j).vg.ownBlock ≠ some b

theorem PreAt.all {w : World} {B g n : Nat} {R : List Raw} {st : Nat → St} (h : PreAt w B g n R st) (hn : R.length = n) : ChainAt w B g R st :=
  ⟨by rw [hn]; exact h.obj, h.gB, h.link, h.mdis, h.bdis, h.gdis⟩

theorem obj_setCells (g T : Nat) : ∀ (vs : List Value) (o : Nat) (w : World) (cs : Array Value), w.heap[g]? = some (.cells cs T) → ∃ cs', (w.setCells g o vs).heap[g]? = some (.cells cs' T) ∧ cs'.size = cs.size
  | [], _, _, cs, h => ⟨cs, h, rfl⟩
  | v :: r, o, w, cs, h => by
    obtain ⟨c1, h1, h2⟩ := obj_setCell (x := o) v h
    obtain ⟨c2, h3, h4⟩ := obj_setCells g T r (o + 1) _ c1 h1
    exact ⟨c2, by rw [World.setCells]; exact h3, by rw [h4, h2]⟩

theorem there_obj {w : World} {g T N : Nat} {cs : Array Value} (h : w.heap[g]? = some (.cells cs T)) (hs : cs.size = N) (o k : Nat) (hk : o + k ≤ N) : w.there g o k := fun j hj => by
  constructor
  · rw [cell_of_row w g (o + j) cs T (0, 0) h, Array.getElem?_eq_getElem (by omega)]; rfl
  · simp [World.frozen?, h]

set_option maxHeartbeats 1000000 in
theorem PreAt.step {w w1 : World} {B g n m vbb : Nat} {R : List Raw} {st : Nat → St} {base : Nat} (h : PreAt w B g n R st) (hj : R.length < n) (hb : Below w.heap.size w w1) (hm : IMap w1 m 1 (tabF [(base, (1 : Pm))])) (hmB : B ≤ m) (hml : w.heap.size ≤ m)
    (hv : w1.ownsRow B 3 1 (.slice (some ⟨vbb, 0, none⟩) 1 1) 1 [.int .i64 (base : Int)]) (hvl : w.heap.size ≤ vbb) :
    PreAt (w1.setCells g (R.length * 4) [.int .i64 (base : Int), .map (some m), .slice (some ⟨vbb, 0, none⟩) 1 1, .slice none 0 0]) B g n (R ++ [rawOf (lk0 base)]) (updS st R.length ⟨m, .slice (some ⟨vbb, 0, none⟩) 1 1, .slice none 0 0⟩) := by
  obtain ⟨cs, ho, hos⟩ := h.obj
  have hgl : g < w.heap.size := (Array.getElem?_eq_some_iff.1 ho).1
  have ho1 : w1.heap[g]? = some (.cells cs 99) := (hb.block g hgl).trans ho
  have hth : w1.there g (R.length * 4) 4 := there_obj ho1 hos _ _ (by omega)
  have hne : ∀ x, x ≠ g → (w1.setCells g (R.length * 4) [.int .i64 (base : Int), .map (some m), .slice (some ⟨vbb, 0, none⟩) 1 1, .slice none 0 0]).heap[x]? = w1.heap[x]? := fun x hx => heap_setCells_ne g _ _ _ x hx
  have hin := World.rangeAt_setCells_same w1 g (R.length * 4) [.int .i64 (base : Int), .map (some m), .slice (some ⟨vbb, 0, none⟩) 1 1, .slice none 0 0] hth
  have e4 : R.length * 4 = 4 * R.length := Nat.mul_comm _ _
  generalize hW2 : w1.setCells g (R.length * 4) [.int .i64 (base : Int), .map (some m), .slice (some ⟨vbb, 0, none⟩) 1 1, .slice none 0 0] = W2 at *
  have k0 : W2.cell? ⟨g, 4 * R.length, none⟩ = some (.int .i64 (base : Int)) := by have := hin 0 (.int .i64 (base : Int)) (by simp); rw [e4] at this; exact this
  have k1 : W2.cell? ⟨g, 4 * R.length + 1, none⟩ = some (.map (some m)) := by have := hin 1 (.map (some m)) (by simp); rw [e4] at this; exact this
  have k2 : W2.cell? ⟨g, 4 * R.length + 2, none⟩ = some (.slice (some ⟨vbb, 0, none⟩) 1 1) := by have := hin 2 (.slice (some ⟨vbb, 0, none⟩) 1 1) (by simp); rw [e4] at this; exact this
  have k3 : W2.cell? ⟨g, 4 * R.length + 3, none⟩ = some (.slice none 0 0) := by have := hin 3 (.slice none 0 0) (by simp); rw [e4] at this; exact this
  clear hin
  have hmg : m ≠ g := by omega
  have hvg : vbb ≠ g := by omega
  have hlt : ∀ i r, R[i]? = some r → (st i).m < w.heap.size ∧ (∀ b, (st i).vb.ownBlock = some b → b < w.heap.size) ∧ (∀ b, (st i).vg.ownBlock = some b → b < w.heap.size) ∧ (st i).m ≠ g ∧ (∀ b, (st i).vb.ownBlock = some b → b ≠ g) ∧ (∀ b, (st i).vg.ownBlock = some b → b ≠ g) := fun i r hr => by
    have l := h.link i r hr
    refine ⟨l.mp.lt, fun b hb => (l.bells.lt b hb).2, fun b hb => (l.gens.lt b hb).2, fun e => ?_, fun b hb e => ?_, fun b hb e => ?_⟩
    · obtain ⟨es, cl, hq⟩ := l.mp.obj; rw [e, ho] at hq; cases hq
    · obtain ⟨c, hc⟩ := owns_obj l.bells hb; rw [e, ho] at hc; injection hc with hc; injection hc with _ h2 _; exact absurd h2 (by decide)
    · obtain ⟨c, hc⟩ := owns_obj l.gens hb; rw [e, ho] at hc; injection hc with hc; injection hc with _ h2 _; exact absurd h2 (by decide)
  have get_i : ∀ i, i < R.length → ∃ r, R[i]? = some r := fun i hi => ⟨_, List.getElem?_eq_getElem hi⟩
  refine ⟨?_, h.gB, ?_, ?_, ?_, ?_⟩
  · obtain ⟨cs', h3, h4⟩ := obj_setCells g _ [.int .i64 (base : Int), .map (some m), .slice (some ⟨vbb, 0, none⟩) 1 1, .slice none 0 0] (R.length * 4) w1 cs ho1
    exact ⟨cs', by rw [← hW2]; exact h3, by rw [h4, hos]⟩
  · intro j r hr
    by_cases e : j = R.length
    · subst e
      rw [List.getElem?_append_right (Nat.le_refl _), Nat.sub_self] at hr
      have hr' : rawOf (lk0 base) = r := by simpa using hr
      subst hr'
      have es : updS st R.length ⟨m, .slice (some ⟨vbb, 0, none⟩) 1 1, .slice none 0 0⟩ R.length = ⟨m, .slice (some ⟨vbb, 0, none⟩) 1 1, .slice none 0 0⟩ := by simp [updS]
      rw [es]
      refine ⟨k0, k1, k2, k3, hm.of_block (hne m hmg), hmB, ?_, World.ownsRow_nil _ _ _ _⟩
      exact owns_of_block hv (fun b hb => by have : vbb = b := by simpa [Value.ownBlock] using hb
                                             subst this; exact hne vbb hvg)
    · have hjl : j < R.length := by have := (List.getElem?_eq_some_iff.1 hr).1; rw [List.length_append] at this; simp at this; omega
      rw [List.getElem?_append_left hjl] at hr
      have es : updS st R.length ⟨m, .slice (some ⟨vbb, 0, none⟩) 1 1, .slice none 0 0⟩ j = st j := by unfold updS; rw [if_neg e]
      rw [es]
      have l := h.link j r hr
      have hl := hlt j r hr
      refine l.of_block (fun x h1 h2 => ?_) ((hne _ hl.2.2.2.1).trans (hb.block _ hl.1)) (fun b hb' => (hne _ (hl.2.2.2.2.1 b hb')).trans (hb.block _ (hl.2.1 b hb'))) (fun b hb' => (hne _ (hl.2.2.2.2.2 b hb')).trans (hb.block _ (hl.2.2.1 b hb')))
      rw [← hW2, World.cell?_setCells_out g _ _ w1 ⟨g, x, none⟩ (fun _ _ => Or.inl (by show x < R.length * 4; omega))]
      exact hb.cell (p := ⟨g, x, none⟩) hgl
  · intro i j hi hj' hne'
    rw [List.length_append, List.length_singleton] at hi hj'
    unfold updS
    by_cases ei : i = R.length
    · rw [if_pos ei, if_neg (by omega)]
      obtain ⟨r, hr⟩ := get_i j (by omega)
      have := (hlt j r hr).1
      show m ≠ _
      omega
    · rw [if_neg ei]
      obtain ⟨r, hr⟩ := get_i i (by omega)
      by_cases ej : j = R.length
      · rw [if_pos ej]
        have := (hlt i r hr).1
        show _ ≠ m
        omega
      · rw [if_neg ej]; exact h.mdis i j (by omega) (by omega) hne'
  · intro i j hi hj' hne' b hb1
    rw [List.length_append, List.length_singleton] at hi hj'
    unfold updS at hb1 ⊢
    by_cases ei : i = R.length
    · rw [if_pos ei] at hb1
      rw [if_neg (by omega)]
      obtain ⟨r, hr⟩ := get_i j (by omega)
      intro hb2
      have h1 := (hlt j r hr).2.1 b hb2
      have h2 : vbb = b := by simpa [Value.ownBlock] using hb1
      omega
    · rw [if_neg ei] at hb1
      obtain ⟨r, hr⟩ := get_i i (by omega)
      by_cases ej : j = R.length
      · rw [if_pos ej]
        intro hb2
        have h1 := (hlt i r hr).2.1 b hb1
        have h2 : vbb = b := by simpa [Value.ownBlock] using hb2
        omega
      · rw [if_neg ej]; exact h.bdis i j (by omega) (by omega) hne' b hb1
  · intro i j hi hj' hne' b hb1
    rw [List.length_append, List.length_singleton] at hi hj'
    unfold updS at hb1 ⊢
    by_cases ei : i = R.length
    · rw [if_pos ei] at hb1; cases hb1
    · rw [if_neg ei] at hb1
      by_cases ej : j = R.length
      · rw [if_pos ej]; intro hb2; cases hb2
      · rw [if_neg ej]; exact h.gdis i j (by omega) (by omega) hne' b hb1

theorem PreAt.below {w w' : World} {B g n X : Nat} {R : List Raw} {st : Nat → St} (h : PreAt w B g n R st) (hb : Below X w w') (hX : w.heap.size ≤ X) : PreAt w' B g n R st := by
  obtain ⟨cs, ho, hos⟩ := h.obj
  have hgl : g < w.heap.size := (Array.getElem?_eq_some_iff.1 ho).1
  refine ⟨⟨cs, (hb.block g (by omega)).trans ho, hos⟩, h.gB, fun j r hr => ?_, h.mdis, h.bdis, h.gdis⟩
  have l := h.link j r hr
  exact l.of_block (fun x _ _ => hb.cell (p := ⟨g, x, none⟩) (by show g < X; omega)) (hb.block _ (by have := l.mp.lt; omega)) (fun b hb' => hb.block _ (by have := (l.bells.lt b hb').2; omega)) (fun b hb' => hb.block _ (by have := (l.gens.lt b hb').2; omega))

/-- Rows of generators behind a slice value. -/
def Packs (w : World) (v : Value) (gs : List Pm) : Prop :=
  (gs = [] ∧ ∃ p c, v = .slice p 0 c) ∨
  ∃ b off cap, v = .slice (some ⟨b, off, none⟩) gs.length cap ∧ 0 < gs.length ∧ gs.length ≤ cap ∧ cap ≤ 9223372036854775807 ∧ b < w.heap.size ∧ ∀ i p, gs[i]? = some p → w.rangeAt b (off + i * 12) (p.l.map (Value.int .i8))

theorem Packs.below {w w' : World} {v : Value} {gs : List Pm} {X : Nat} (h : Packs w v gs) (hb : Below X w w') (hX : w.heap.size ≤ X) : Packs w' v gs := by
  rcases h with h | ⟨b, off, cap, h1, h2, h3, h4, h5, h6⟩
  · exact Or.inl h
  · refine Or.inr ⟨b, off, cap, h1, h2, h3, h4, Nat.lt_of_lt_of_le h5 hb.size, fun i p hi j u hu => ?_⟩
    rw [hb.cell (p := ⟨b, _, none⟩) (by show b < X; omega)]
    exact h6 i p hi j u hu

theorem wpList_insert {ops : Array Oper} {rest : List Oper} {o : Oper} {a : Act} {w : World} {Q : Exit → Act → World → Prop} (hg : o.guard = none) (m x v : Operand) (t : TypeId) (hop : o.op = Op.insert t m x v) (e : TypeId) (ht : Tryz.prog.underlying t = some (.map 3 e))
    {b n : Nat} {f : Int → Option Value} (h : IMap w b n f) (hn : n < maxLen) (k : Int) (val : Value) (hm : a.eval m = .map (some b)) (hx : a.eval x = .int .i64 k) (hv : a.eval v = val) (h1 : -9223372036854775808 ≤ k) (h2 : k ≤ 9223372036854775807)
    (hK : ∀ w', IMap w' b (n + 1) (upd f k val) → w.grownBy w' (some b) → wpList Tryz.prog ops Q rest (a.put o.dst undef) w') : wpList Tryz.prog ops Q (o :: rest) a w := by
  refine wpList_plain hg fun K' hK' => ?_
  obtain ⟨w', hrun, r1, r2⟩ := h.put ht hn h1 h2 val
  unfold Oper.wp
  simp [execOp, hop, hm, hx, hv, hrun, Result.andThen]
  exact hK' _ _ (hK w' r1 r2)

end Go.Proofs.YtahffpgadoiijaaGreat
