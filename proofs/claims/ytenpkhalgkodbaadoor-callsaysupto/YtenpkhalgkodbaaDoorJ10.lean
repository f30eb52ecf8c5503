/- Joined: TrA, TrB, TrC, TrD, TrE, ChOf, LL, RowAt, Lead, TrK, TtD, TtO, SbB. -/
import Derived.Test.YtenpkhalgkodbaaDoorJ8
import Derived.Test.YtenpkhalgkodbaaDoorJ9
import Derived.Laws.CopyOwn
import Derived.Test.YtenpkhalgkodbaaDoorJ4
import Derived.Deep.CutRange
import Derived.Test.YtenpkhalgkodbaaDoorJ5
import Derived.Test.YtenpkhalgkodbaaDoorJ3
import Derived.Deep.RegionHeld3
import Derived.Deep.Cut
/- Plain: the rows that lead from rows to rows. -/
namespace Go.Proofs.YtenpkhalgkodbaaDoor
open Go.RowKit

/-- What undoes a row. -/
def un (r : List Int) : List Int := (List.range r.length).map (fun (i : Nat) => ((((List.range r.length).find? (fun j => r.getD j 0 == (i : Int))).getD 0 : Nat) : Int))

theorem un_undoes {r : List Int} (hr : isRow r) : Undoes (un r) r := by
  refine ⟨by simp [un], fun j hj => ?_⟩
  have h1 := hr.at hj
  obtain ⟨m, hm⟩ := Int.eq_ofNat_of_zero_le h1.1
  have hm2 : m < r.length := by omega
  rw [hm, Int.toNat_natCast]
  have e : (un r).getD m 0 = ((((List.range r.length).find? (fun j => r.getD j 0 == (m : Int))).getD 0 : Nat) : Int) := by
    simp [un, List.getD, hm2]
  rw [e]
  cases hf : (List.range r.length).find? (fun j => r.getD j 0 == (m : Int)) with
  | none =>
    have := List.find?_eq_none.1 hf j (List.mem_range.2 hj)
    simp only [beq_iff_eq] at this
    exact absurd hm this
  | some j' =>
    have h2 := List.find?_some hf
    have h3 := List.mem_range.1 (List.mem_of_find?_eq_some hf)
    simp only [beq_iff_eq] at h2
    have := hr.inj h3 hj (by rw [h2]; exact hm.symm)
    rw [this]
    rfl

theorem undoes_un {zs r : List Int} (hr : isRow r) (h : Undoes zs r) : zs = un r := by
  have hu := un_undoes hr
  refine List.ext_getElem (by rw [h.1, hu.1]) (fun i h1 h2 => ?_)
  have hi : i < r.length := by rw [← h.1]; exact h1
  obtain ⟨j, hj, e⟩ := isRow_onto hr hi
  have a1 := h.2 j hj
  have a2 := hu.2 j hj
  rw [e, Int.toNat_natCast] at a1 a2
  simp only [List.getD, List.getElem?_eq_getElem h1, List.getElem?_eq_getElem h2, Option.getD_some] at a1 a2
  rw [a1, a2]

structure Rw (n : Nat) (r : List Int) : Prop where
  row : isRow r
  len : r.length = n

theorem Rw.un {n : Nat} {r : List Int} (h : Rw n r) : Rw n (un r) := ⟨isRow_undoes h.row (un_undoes h.row), by rw [(un_undoes h.row).1, h.len]⟩

theorem Rw.by {n : Nat} {a b : List Int} (ha : Rw n a) (hb : Rw n b) : Rw n (by_ a b) := ⟨isRow_by ha.row hb.row (by rw [ha.len, hb.len]), by rw [by_length, hb.len]⟩

theorem Rw.rnd (n : Nat) : Rw n (rnd n) := ⟨isRow_rnd n, rnd_length n⟩

theorem Rw.pad_un {n : Nat} (h12 : n ≤ 12) {r : List Int} (h : Rw n r) : pad (Go.Proofs.YtenpkhalgkodbaaDoor.un r) = (pad r)⁻¹ := pad_undoes (by rw [h.len]; exact h12) h.row (un_undoes h.row)

theorem Rw.pad_by {n : Nat} (h12 : n ≤ 12) {a b : List Int} (ha : Rw n a) (hb : Rw n b) : pad (by_ a b) = pad a * pad b := Go.Proofs.YtenpkhalgkodbaaDoor.pad_by (by rw [ha.len]; exact h12) ha.row hb.row (by rw [ha.len, hb.len])

theorem Rw.eq {n : Nat} (h12 : n ≤ 12) {a b : List Int} (ha : Rw n a) (hb : Rw n b) (h : pad a = pad b) : a = b := pad_inj (by rw [ha.len]; exact h12) ha.row hb.row (by rw [ha.len, hb.len]) h

/-- All rows that make one of another. -/
def pr (L : List (List Int)) : List (List Int) := L.flatMap (fun one => L.map (fun other => by_ other (un one)))

def stp1 (n : Nat) (acc : List (List Int)) (h : List Int) : List (List Int) := if h = rnd n ∨ h ∈ acc then acc else acc ++ [h]

def hdsTo (n : Nat) (ps : List (List Int)) : List (List Int) := ps.foldl (stp1 n) []

theorem hdsTo_snoc (n : Nat) (ps : List (List Int)) (h : List Int) : hdsTo n (ps ++ [h]) = stp1 n (hdsTo n ps) h := by simp [hdsTo, List.foldl_append]

theorem snoc_ind {α : Type} {p : List α → Prop} (h0 : p []) (h1 : ∀ l x, p l → p (l ++ [x])) (l : List α) : p l := by
  have key : ∀ r : List α, p r.reverse := fun r => by
    induction r with
    | nil => simpa using h0
    | cons x r ih => rw [List.reverse_cons]; exact h1 _ _ ih
  have := key l.reverse
  rwa [List.reverse_reverse] at this

theorem sum_const {α : Type} (c : Nat) : ∀ l : List α, (l.map (fun _ => c)).sum = l.length * c
  | [] => by simp
  | _ :: l => by rw [List.map_cons, List.sum_cons, sum_const c l, List.length_cons, Nat.succ_mul]; omega

theorem hdsTo_fact (n : Nat) (ps : List (List Int)) : (hdsTo n ps).Nodup ∧ (∀ h, h ∈ hdsTo n ps ↔ h ∈ ps ∧ h ≠ rnd n) ∧ (hdsTo n ps).length ≤ ps.length := by
  refine snoc_ind (p := fun ps => (hdsTo n ps).Nodup ∧ (∀ h, h ∈ hdsTo n ps ↔ h ∈ ps ∧ h ≠ rnd n) ∧ (hdsTo n ps).length ≤ ps.length) ?_ ?_ ps
  · exact ⟨by simp [hdsTo], by simp [hdsTo], by simp [hdsTo]⟩
  · intro ps x ih
    obtain ⟨a1, a2, a3⟩ := ih
    rw [hdsTo_snoc]
    unfold stp1
    by_cases hx : x = rnd n ∨ x ∈ hdsTo n ps
    · rw [if_pos hx]
      refine ⟨a1, fun h => ?_, by rw [List.length_append]; exact Nat.le_trans a3 (Nat.le_add_right _ _)⟩
      rw [a2 h, List.mem_append, List.mem_singleton]
      constructor
      · exact fun ⟨b1, b2⟩ => ⟨Or.inl b1, b2⟩
      · rintro ⟨b1 | rfl, b2⟩
        · exact ⟨b1, b2⟩
        · exact (a2 h).1 (hx.resolve_left b2)
    · rw [if_neg hx]
      have hx1 : x ≠ rnd n := fun e => hx (Or.inl e)
      have hx2 : x ∉ hdsTo n ps := fun e => hx (Or.inr e)
      refine ⟨List.nodup_append.2 ⟨a1, by simp, fun a ha b hb => by simp at hb; subst hb; exact fun e => hx2 (e ▸ ha)⟩, fun h => ?_, by simp; exact a3⟩
      rw [List.mem_append, a2 h, List.mem_append, List.mem_singleton]
      constructor
      · rintro (⟨b1, b2⟩ | rfl)
        · exact ⟨Or.inl b1, b2⟩
        · exact ⟨Or.inr rfl, hx1⟩
      · rintro ⟨b1 | rfl, b2⟩
        · exact Or.inl ⟨b1, b2⟩
        · exact Or.inr rfl

theorem pr_mem {L : List (List Int)} {h : List Int} : h ∈ pr L ↔ ∃ one, one ∈ L ∧ ∃ other, other ∈ L ∧ by_ other (un one) = h := by
  simp [pr, List.mem_flatMap, List.mem_map]

theorem pr_rows {n : Nat} {L : List (List Int)} (hL : ∀ r, r ∈ L → Rw n r) : ∀ h, h ∈ pr L → Rw n h := by
  intro h hh
  obtain ⟨one, h1, other, h2, rfl⟩ := pr_mem.1 hh
  exact (hL _ h2).by (hL _ h1).un

theorem pr_un {n : Nat} (h12 : n ≤ 12) {L : List (List Int)} (hL : ∀ r, r ∈ L → Rw n r) {h : List Int} (hh : h ∈ pr L) : un h ∈ pr L := by
  obtain ⟨one, h1, other, h2, rfl⟩ := pr_mem.1 hh
  refine pr_mem.2 ⟨other, h2, one, h1, ?_⟩
  have r1 := hL _ h1
  have r2 := hL _ h2
  refine Rw.eq h12 (r1.by r2.un) (r2.by r1.un).un ?_
  rw [(r2.by r1.un).pad_un h12, r1.pad_by h12 r2.un, r2.pad_by h12 r1.un, r1.pad_un h12, r2.pad_un h12, Pm.inv_prod, Pm.inv_inv]

theorem un_rnd {n : Nat} (h12 : n ≤ 12) {h : List Int} (hr : Rw n h) (e : un h = rnd n) : h = rnd n := by
  refine Rw.eq h12 hr (Rw.rnd n) ?_
  have := hr.pad_un h12
  rw [e, pad_rnd h12] at this
  rw [pad_rnd h12, ← Pm.inv_inv (pad h), ← this, Pm.inv_one]

theorem pr_length (L : List (List Int)) : (pr L).length = L.length * L.length := by
  unfold pr
  rw [List.length_flatMap]
  simp only [List.length_map]
  exact sum_const _ L

/-- The false heads of the rows of a lead. -/
def hds (n : Nat) (L : List (List Int)) : List (List Int) := hdsTo n (pr L)

end Go.Proofs.YtenpkhalgkodbaaDoor

/- Contract: truth.keyOf; its maps at the operation. -/
namespace Go.Proofs.YtenpkhalgkodbaaDoor
open Go.RowKit Go.Maps

theorem laidT : laidOutB Tryd.prog = true := by kernel_rfl

/-- A row as a key. -/
def kp (r : List Int) : List Int := r ++ zerosK.drop r.length

theorem kp_length {r : List Int} (h : r.length ≤ 12) : (kp r).length = 12 := by
  unfold kp
  rw [List.length_append, List.length_drop]
  have : zerosK.length = 12 := rfl
  omega

theorem kp_inj {n : Nat} {a b : List Int} (ha : a.length = n) (hb : b.length = n) (h : kp a = kp b) : a = b := by
  unfold kp at h
  have := congrArg (List.take n) h
  rwa [List.take_left' ha, List.take_left' hb] at this

theorem kp_ok {n : Nat} (h12 : n ≤ 12) {r : List Int} (h : Rw n r) : OkK .i64 (kp r) := by
  refine ⟨kp_length (by rw [h.len]; exact h12), fun z hz => ?_⟩
  unfold kp at hz
  rcases List.mem_append.1 hz with hz | hz
  · have := h.row.1 z hz
    rw [h.len] at this
    exact WalkArith.wf_i64 ⟨by omega, by omega⟩
  · have h0 : z = 0 := by
      have := List.mem_of_mem_drop hz
      simp [zerosK] at this
      exact this
    subst h0
    decide

end Go.Proofs.YtenpkhalgkodbaaDoor

/- Contract: truth.repeated. -/
namespace Go.Proofs.YtenpkhalgkodbaaDoor
open Go.RowKit Go.Maps

section
variable {ops : Array Oper} {rest : List Oper} {o : Oper} {a : Act} {w : World} {Q : Exit → Act → World → Prop} {K E : TypeId} {q : IntKind} {b n : Nat} {f : List Int → Option Value}

theorem wpList_klook (hg : o.guard = none) (m x : Operand) (t : TypeId) (hop : o.op = Op.lookup t m x true) (e : TypeId) (ht : Tryd.prog.underlying t = some (.map K e)) {z : Value} (hz : (zeroValue e).run Tryd.prog w = .ok z w)
    (hK : KeyT K E q) (h : KMap K q w b n f) (zs : List Int) (hzs : OkK q zs) (hm : a.eval m = .map (some b)) (hx : a.eval x = kv q zs)
    (hC : wpList Tryd.prog ops Q rest (a.put o.dst (.tuple #[(f zs).getD z, .bool (f zs).isSome])) w) : wpList Tryd.prog ops Q (o :: rest) a w := by
  refine wpList_plain hg fun K' hK' => ?_
  have hrun := h.look_ok hK ht hz hzs
  unfold Oper.wp
  simp [execOp, hop, hm, hx, hrun, Result.andThen]
  exact hK' _ _ hC

theorem wpList_kput (hg : o.guard = none) (m x v : Operand) (t : TypeId) (hop : o.op = Op.mapUpdate t m x v) (e : TypeId) (ht : Tryd.prog.underlying t = some (.map K e))
    (hK : KeyT K E q) (h : KMap K q w b n f) (hn : n < maxLen) (zs : List Int) (hzs : OkK q zs) (val : Value) (hm : a.eval m = .map (some b)) (hx : a.eval x = kv q zs) (hv : a.eval v = val)
    (hC : ∀ w', KMap K q w' b (n + 1) (kupd f zs val) → w.grownBy w' (some b) → wpList Tryd.prog ops Q rest (a.put o.dst undef) w') : wpList Tryd.prog ops Q (o :: rest) a w := by
  refine wpList_plain hg fun K' hK' => ?_
  obtain ⟨w', hrun, r1, r2⟩ := h.put hK ht hn hzs val
  unfold Oper.wp
  simp [execOp, hop, hm, hx, hv, hrun, Result.andThen]
  exact hK' _ _ (hC w' r1 r2)

theorem wpList_kinsert (hg : o.guard = none) (m x v : Operand) (t : TypeId) (hop : o.op = Op.insert t m x v) (e : TypeId) (ht : Tryd.prog.underlying t = some (.map K e))
    (hK : KeyT K E q) (h : KMap K q w b n f) (hn : n < maxLen) (zs : List Int) (hzs : OkK q zs) (val : Value) (hm : a.eval m = .map (some b)) (hx : a.eval x = kv q zs) (hv : a.eval v = val)
    (hC : ∀ w', KMap K q w' b (n + 1) (kupd f zs val) → w.grownBy w' (some b) → wpList Tryd.prog ops Q rest (a.put o.dst undef) w') : wpList Tryd.prog ops Q (o :: rest) a w := by
  refine wpList_plain hg fun K' hK' => ?_
  obtain ⟨w', hrun, r1, r2⟩ := h.put hK ht hn hzs val
  unfold Oper.wp
  simp [execOp, hop, hm, hx, hv, hrun, Result.andThen]
  exact hK' _ _ (hC w' r1 r2)
end

theorem KMap.kept {K : TypeId} {q : IntKind} {w w' : World} {b n g : Nat} {f : List Int → Option Value} (h : KMap K q w b n f) (hg : w.grownBy w' (some g)) (hne : b ≠ g) : KMap K q w' b n f := h.of_block (hg.block b h.lt (fun e => hne (Option.some.inj e)))

/-- What the loop knows of the rows that it has seen. -/
structure Seen (n : Nat) (L : List (List Int)) (k : Nat) (f : List Int → Option Value) : Prop where
  old : ∀ x, Rw n x → ((f (kp x)).isSome = true ↔ x ∈ L.take k)
  nodup : (L.take k).Nodup
  ints : ∀ zs v, f zs = some v → ∃ i, v = .int .i64 i

theorem seen_next {n k : Nat} {L : List (List Int)} {f : List Int → Option Value} (h : Seen n L k f) (hk : k < L.length) (hr : Rw n (L.getD k [])) (hn : f (kp (L.getD k [])) = none) (j : Int) : Seen n L (k + 1) (kupd f (kp (L.getD k [])) (.int .i64 j)) := by
  have ht : L.take (k + 1) = L.take k ++ [L.getD k []] := by
    rw [List.take_add_one, List.getElem?_eq_getElem hk]; simp [List.getD, List.getElem?_eq_getElem hk]
  have hnot : L.getD k [] ∉ L.take k := fun hm => by
    have := (h.old _ hr).2 hm
    rw [hn] at this
    cases this
  refine ⟨fun x hx => ?_, ?_, fun zs v hv => ?_⟩
  · rw [ht, List.mem_append, List.mem_singleton]
    unfold kupd
    by_cases e : kp x = kp (L.getD k [])
    · rw [if_pos e]
      have : x = L.getD k [] := kp_inj hx.len hr.len e
      simp [this]
    · rw [if_neg e, h.old x hx]
      exact ⟨Or.inl, fun h1 => h1.resolve_right (fun h2 => e (by rw [h2]))⟩
  · rw [ht]
    exact List.nodup_append.2 ⟨h.nodup, by simp, fun a ha b hb e => by rw [List.mem_singleton] at hb; rw [e, hb] at ha; exact hnot ha⟩
  · unfold kupd at hv
    by_cases e : zs = kp (L.getD k [])
    · rw [if_pos e] at hv; exact ⟨j, (Option.some.inj hv).symm⟩
    · rw [if_neg e] at hv; exact h.ints zs v hv

def RepPost (L : List (List Int)) (w : World) (e : Ending) (w' : World) : Prop :=
  ∃ (i j : Int) (t : Bool), e = .returned (.tuple #[.int .i64 i, .int .i64 j, .bool t]) ∧ (t = false ↔ L.Nodup) ∧ Below w.heap.size w w'

end Go.Proofs.YtenpkhalgkodbaaDoor

/- Contract: truth.between. -/
namespace Go.Proofs.YtenpkhalgkodbaaDoor
open Go.RowKit Go.Maps

theorem KMap.obj {K : TypeId} {q : IntKind} {w : World} {b n : Nat} {f : List Int → Option Value} (h : KMap K q w b n f) : ∃ es clock, w.heap[b]? = some (.map es clock) := by
  obtain ⟨D, ⟨es, c, h1, _⟩, _⟩ := h; exact ⟨es, c, h1⟩

theorem owns_kmap {K : TypeId} {q : IntKind} {w w' : World} {base e size n m k : Nat} {v : Value} {xs : List Value} {f : List Int → Option Value} (h : w.ownsRow base e size v n xs) (hm : KMap K q w m k f) (hg : w.grownBy w' (some m)) : w'.ownsRow base e size v n xs := by
  refine ⟨h.1, ?_⟩
  rcases h.2 with h2 | ⟨g, cap, cur, hv, hgg, hh, r⟩
  · exact Or.inl h2
  · refine Or.inr ⟨g, cap, cur, hv, hgg, ?_, r⟩
    rw [hg.block g (Array.getElem?_eq_some_iff.1 hh).1 (fun e' => ?_)]
    · exact hh
    · obtain ⟨es, c, ho⟩ := hm.obj
      injection e' with e'
      rw [← e', hh] at ho
      cases ho

theorem LL.kmap {K : TypeId} {q : IntKind} {w w' : World} {base m k : Nat} {v : Value} {vs : List Value} {xss : List (List Int)} {f : List Int → Option Value} (h : LL w base v vs xss) (hm : KMap K q w m k f) (hg : w.grownBy w' (some m)) : LL w' base v vs xss :=
  ⟨owns_kmap h.row hm hg, h.all.mono (fun _ _ _ h' => owns_kmap h' hm hg)⟩

theorem KMap.row {K : TypeId} {q : IntKind} {w w' : World} {base e size n m k : Nat} {v : Value} {xs : List Value} {f : List Int → Option Value} (hm : KMap K q w m k f) (h : w.ownsRow base e size v n xs) (hg : w.grownBy w' v.ownBlock) : KMap K q w' m k f := by
  refine hm.of_block (hg.block m hm.lt (fun e' => ?_))
  rcases h.2 with ⟨h2, _⟩ | ⟨g, cap, cur, hv, hgg, hh, r⟩
  · rw [h2] at e'; cases e'
  · rw [hv] at e'
    have e2 : g = m := by cases e'; rfl
    obtain ⟨es, c, ho⟩ := hm.obj
    rw [← e2, hh] at ho
    cases ho

/-- What the map tells. -/
def FS (n : Nat) (acc : List (List Int)) (f : List Int → Option Value) : Prop := ∀ x, Rw n x → ((f (kp x)).isSome = true ↔ x = rnd n ∨ x ∈ acc)

theorem FS.add {n : Nat} {acc : List (List Int)} {f : List Int → Option Value} (h : FS n acc f) {r : List Int} (hr : Rw n r) (v : Value) : FS n (acc ++ [r]) (kupd f (kp r) v) := by
  intro x hx
  unfold kupd
  by_cases e : kp x = kp r
  · rw [if_pos e]
    have : x = r := kp_inj hx.len hr.len e
    subst this
    simp
  · rw [if_neg e, h x hx, List.mem_append, List.mem_singleton]
    constructor
    · rintro (h1 | h1)
      · exact Or.inl h1
      · exact Or.inr (Or.inl h1)
    · rintro (h1 | h1 | h1)
      · exact Or.inl h1
      · exact Or.inr h1
      · exact absurd (by rw [h1]) e

theorem FS.start {n : Nat} (v : Value) : FS n [] (kupd (fun _ => none) (kp (rnd n)) v) := by
  intro x hx
  unfold kupd
  by_cases e : kp x = kp (rnd n)
  · rw [if_pos e]
    have : x = rnd n := kp_inj hx.len (rnd_length n) e
    simp [this]
  · rw [if_neg e]
    constructor
    · intro h; cases h
    · rintro (rfl | h)
      · exact absurd rfl e
      · cases h

theorem flat_get {α β : Type} (F : α → List β) (k : Nat) (hF : ∀ a, (F a).length = k) : ∀ (l : List α) (p q : Nat) (hp : p < l.length), q < k → (l.flatMap F)[p * k + q]? = (F l[p])[q]?
  | [], p, q, hp, _ => absurd hp (Nat.not_lt_zero _)
  | a :: l, 0, q, _, hq => by
    rw [List.flatMap_cons, Nat.zero_mul, Nat.zero_add, List.getElem?_append_left (by rw [hF]; exact hq)]
    rfl
  | a :: l, p + 1, q, hp, hq => by
    rw [List.flatMap_cons, List.getElem?_append_right (by rw [hF, Nat.succ_mul]; omega), hF, show (p + 1) * k + q - k = p * k + q from by rw [Nat.succ_mul]; omega]
    exact flat_get F k hF l p q (by simpa using hp) hq

theorem pr_next {L : List (List Int)} {p q : Nat} (hp : p < L.length) (hq : q < L.length) : (pr L).take (p * L.length + q + 1) = (pr L).take (p * L.length + q) ++ [by_ (L.getD q []) (un (L.getD p []))] := by
  have h : (pr L)[p * L.length + q]? = some (by_ (L.getD q []) (un (L.getD p []))) := by
    unfold pr
    rw [flat_get _ L.length (fun a => List.length_map _) L p q hp hq, List.getElem?_map, List.getElem?_eq_getElem hq]
    simp [List.getD, List.getElem?_eq_getElem hq, List.getElem?_eq_getElem hp]
  rw [List.take_add_one, h]
  rfl

end Go.Proofs.YtenpkhalgkodbaaDoor

/- Contract: truth.between. -/
namespace Go.Proofs.YtenpkhalgkodbaaDoor
open Go.RowKit Go.Maps

def BetPost (n : Nat) (L : List (List Int)) (w : World) (e : Ending) (w' : World) : Prop := ∃ u vs, e = .returned u ∧ LL w' w.heap.size u vs (hds n L) ∧ Below w.heap.size w w'

end Go.Proofs.YtenpkhalgkodbaaDoor

/- Contract: ChangeOf. -/
namespace Go.Proofs.YtenpkhalgkodbaaDoor
open Go.RowKit

set_option maxRecDepth 20000 in
set_option maxHeartbeats 2000000 in
theorem changeOf_ok (c : Int) (n : Nat) (w : World) (hc : I64 c) (h1 : 1 ≤ n) (h2 : n ≤ 12) :
    Calls Tryd.prog 60 #[.int .i64 c, .int .i64 n] w fun e w' => ∃ v t, e = .returned v ∧ tsz t = n ∧ w'.ownsRow w.heap.size 3 1 v (tpl t).length ((tpl t).map (Value.int .i64)) ∧ Below w.heap.size w w' := by
  obtain ⟨i0, hi, hz0, hz1, hz2⟩ := info_parts Tryd.info3
  obtain ⟨l0, u0⟩ := hc
  go_enter Tryd.func60, Tryd.ntmps60
  go_wp2_with fail
  refine (pick_any _ _ _ l0 u0 (by omega) (by omega)).mono ?_
  rintro e wa ⟨q0, hq0, hq1, rfl, rfl⟩
  clear l0 u0
  go_wp2
  go_loopw [0, 5, 6] (fun c v a wr => ∃ (q : Int) (t : List Bool), 0 ≤ q ∧ q < 1099511627776 ∧ tsz t ≤ n ∧ c = .int .i64 q ∧ a = .int .i64 ((tsz t + 1 : Nat) : Int) ∧ wr.ownsRow w.heap.size 3 1 v (tpl t).length ((tpl t).map (Value.int .i64)) ∧ Below w.heap.size w wr) (fun _ _ a _ => n + 1 - (intOf a).toNat)
  case atStart => exact ⟨q0, [], hq0, hq1, Nat.zero_le _, rfl, rfl, World.ownsRow_nil _ _ _ _, Below.refl _ _⟩
  case round =>
    obtain ⟨q, t, hq0, hq1, hts, rfl, rfl, hown, hbw⟩ := hrel
    have hbs := hbw.size
    have htl : (tpl t).length ≤ tsz t := by have := tpl_length t; omega
    by_cases hlt : tsz t + 1 ≤ n
    · have hq3 : 0 ≤ q / 3 := by omega
      have hq4 : q / 3 < 1099511627776 := by omega
      have HT1 : Hid (tpl (true :: t) = tpl t ++ [((tsz t + 1 : Nat) : Int)]) := rfl
      have HT2 : Hid (tsz (true :: t) = tsz t + 1) := rfl
      by_cases hc : q % 3 = 0 ∨ tsz t + 1 = n
      · have hstep : ∀ (W : World) (v' : Value), W.ownsRow w.heap.size 3 1 v' ((tpl t).length + 1) ((tpl t).map (Value.int .i64) ++ [Value.int .i64 ((tsz t + 1 : Nat) : Int)]) → W.ownsRow w.heap.size 3 1 v' (tpl (true :: t)).length ((tpl (true :: t)).map (Value.int .i64)) := by
          intro W v' h
          rw [HT1.out, List.length_append, List.map_append]
          exact h
        have HST := hide hstep
        clear hstep
        by_cases hc1 : q % 3 = 0
        · have hd1 : (q % 3 == 0) = true := by simpa using hc1
          clear hc hc1
          go_wp2_with (at_builtin; refine wpList_append_own _ rfl _ _ 26 rfl w.heap.size 3 i0 (.int .i64 0) 1 8 Tryd.underlying26 hi hz0 hz1 hz2 rfl (by decide) _ _ _ rfl (hown.alloc _) ⟨wr.heap.size, 0, none⟩ 1 1 [.int .i64 ((tsz t + 1 : Nat) : Int)] rfl rfl ?c1 ?c2 ?c3 ?c4 ?c5 ?_)
          case c1 => exact cell_one_new _ _ _
          case c2 => intro u hu; simp at hu; subst hu; rfl
          case c3 => unfold maxLen; omega
          case c4 => omega
          case c5 => simp; omega
          · intro v' w1 hown' hgrow _
            go_wp2
            go_roundw
            case rel => exact ⟨q / 3, true :: t, hq3, hq4, by rw [HT2.out]; omega, by go_num, by rw [HT2.out]; go_num, HST.out _ _ hown', (hbw.alloc hbw.size _).grown hgrow (by simp; omega) (fun g hg => (hown.lt g hg).1)⟩
            case measure => simp [intOf]; omega
        · have hd1 : (q % 3 == 0) = false := by simpa using hc1
          have hc2 : tsz t + 1 = n := by rcases hc with h | h; exact absurd h hc1; exact h
          have hd2 : (((tsz t + 1 : Nat) : Int) == (n : Int)) = true := by rw [hc2]; simp
          clear hc hc1 hc2
          go_wp2_with (at_builtin; refine wpList_append_own _ rfl _ _ 26 rfl w.heap.size 3 i0 (.int .i64 0) 1 8 Tryd.underlying26 hi hz0 hz1 hz2 rfl (by decide) _ _ _ rfl (hown.alloc _) ⟨wr.heap.size, 0, none⟩ 1 1 [.int .i64 ((tsz t + 1 : Nat) : Int)] rfl rfl ?c1 ?c2 ?c3 ?c4 ?c5 ?_)
          case c1 => exact cell_one_new _ _ _
          case c2 => intro u hu; simp at hu; subst hu; rfl
          case c3 => unfold maxLen; omega
          case c4 => omega
          case c5 => simp; omega
          · intro v' w1 hown' hgrow _
            go_wp2
            go_roundw
            case rel => exact ⟨q / 3, true :: t, hq3, hq4, by rw [HT2.out]; omega, by go_num, by rw [HT2.out]; go_num, HST.out _ _ hown', (hbw.alloc hbw.size _).grown hgrow (by simp; omega) (fun g hg => (hown.lt g hg).1)⟩
            case measure => simp [intOf]; omega
      · have hd1 : (q % 3 == 0) = false := by simp; omega
        have hd2 : (((tsz t + 1 : Nat) : Int) == (n : Int)) = false := by rw [beq_eq_false_iff_ne]; omega
        have hl2 : tsz t + 2 ≤ n := by omega
        have HT3 : Hid (tsz (false :: t) = tsz t + 2) := rfl
        clear hc
        go_wp2
        go_roundw
        case rel => exact ⟨q / 3, false :: t, hq3, hq4, by rw [HT3.out]; omega, by go_num, by rw [HT3.out]; go_num, hown, hbw⟩
        case measure => simp [intOf]; omega
    · go_wp2
      go_ret
      exact ⟨_, t, rfl, by omega, hown, hbw⟩

end Go.Proofs.YtenpkhalgkodbaaDoor

/- Contract: ChangesOf. -/
namespace Go.Proofs.YtenpkhalgkodbaaDoor
open Go.RowKit

set_option maxRecDepth 20000 in
set_option maxHeartbeats 2000000 in
theorem changesOf_ok (v : Value) (xs : List Int) (f n m : Nat) (w : World) (h : Ints w v xs) (hx : ∀ x, x ∈ xs → I64 x) (hf : f ≤ 1000) (h1 : 1 ≤ n) (h12 : n ≤ 12) (hm : m ≤ 1000) :
    Calls Tryd.prog 41 #[v, .int .i64 f, .int .i64 n, .int .i64 m] w fun e w' => ∃ (u : Value) (vs : List Value) (ts : List (List Bool)), e = .returned u ∧ ts.length = m ∧ (∀ t, t ∈ ts → tsz t = n) ∧ LL w' w.heap.size u vs (ts.map tpl) ∧ Below w.heap.size w w' := by
  obtain ⟨i0, hi, hz0, hz1, hz2⟩ := info_parts Tryd.info26
  have HI := hide h
  have HX := hide hx
  clear h hx
  go_enter Tryd.func41, Tryd.ntmps41
  go_wp2
  go_loopw [9, 10] (fun u i wr => ∃ (k : Nat) (vs : List Value) (ts : List (List Bool)), k ≤ m ∧ i = .int .i64 k ∧ Hid (ts.length = k) ∧ Hid (vs.length = k) ∧ Hid (∀ t, t ∈ ts → tsz t = n) ∧ Hid (LL wr w.heap.size u vs (ts.map tpl)) ∧ Below w.heap.size w wr) (fun _ i _ => m - (intOf i).toNat)
  case atStart => exact ⟨0, [], [], by omega, rfl, rfl, rfl, (fun t ht => by cases ht), LL.nil _ _, Below.refl _ _⟩
  case round =>
    obtain ⟨k, vs, ts, hk, rfl, hl, hlv, hts, hL, hbw⟩ := hrel
    have hbs := hbw.size
    by_cases hlt : k < m
    · have e1 : (f : Int) + (k : Int) = ((f + k : Nat) : Int) := by omega
      have HRaw1 := hide (raw_any v xs (f + k) wr (HI.out.below hbw) HX.out (by omega))
      rw [← e1] at HRaw1
      clear e1
      go_wp2_with fail
      refine HRaw1.out.mono ?_
      rintro e wa ⟨x1, hx1, rfl, rfl⟩
      go_wp2_with fail
      refine (changeOf_ok x1 n _ hx1 h1 h12).mono ?_
      rintro e w1 ⟨u, t, rfl, ht, ho, hb1⟩
      have hL1 := hL.out.below hb1
      have hrow1 := hL1.row
      have hou := owns_base ho hbs
      obtain ⟨p, c, rfl⟩ := owns_slice ho
      have HOU := hide hou
      have HL1 := hide hL1
      have HT := hide ht
      have hb2 := hbw.trans (hb1.mono hbs)
      have hs1 := hb2.size
      rw [hlv.out] at hrow1
      generalize hpl : (tpl t).length = pl at *
      clear ho hou hL1 hL ht hb1 hbw
      go_wp2_with (at_builtin; refine wpList_append_own _ rfl _ _ 22 rfl w.heap.size 26 i0 (.slice none 0 0) 1 24 Tryd.underlying22 hi hz0 hz1 hz2 rfl (by decide) _ _ _ rfl (hrow1.alloc _) ⟨w1.heap.size, 0, none⟩ 1 1 [.slice p pl c] rfl rfl ?c1 ?c2 ?c3 ?c4 ?c5 ?_)
      case c1 => exact cell_one_new _ _ _
      case c2 => intro u hu; simp at hu; subst hu; rfl
      case c3 => unfold maxLen; omega
      case c4 => omega
      case c5 => simp; omega
      · intro v' w4 hown4 hgrow _
        have HL4 : Hid (LL w4 w.heap.size v' (vs ++ [.slice p pl c]) ((ts ++ [t]).map tpl)) := by
          show LL _ _ _ _ _
          rw [List.map_append]
          exact HL1.out.push (by rw [hpl]; exact HOU.out) (by rw [hlv.out]; exact hown4) hgrow
        have hB4 := HL1.out.step hb2 (Nat.le_refl _) hs1 hgrow
        have HLE : Hid ((ts ++ [t]).length = k + 1) := by show _ = _; rw [List.length_append, hl.out]; rfl
        have HLV : Hid ((vs ++ [Value.slice p pl c]).length = k + 1) := by show _ = _; rw [List.length_append, hlv.out]; rfl
        have HTS : Hid (∀ t', t' ∈ ts ++ [t] → tsz t' = n) := by
          intro t' ht'
          rcases List.mem_append.1 ht' with h | h
          · exact hts.out t' h
          · rw [List.mem_singleton.1 h]; exact HT.out
        clear hown4 hgrow hrow1 hpl
        go_wp2
        go_roundw
        case rel => exact ⟨k + 1, _, ts ++ [t], by omega, by go_num, HLE, HLV, HTS, HL4, hB4⟩
        case measure => simp [intOf]; omega
    · go_wp2
      go_ret
      exact ⟨_, vs, ts, rfl, by have := hl.out; omega, hts.out, hL.out, hbw⟩

end Go.Proofs.YtenpkhalgkodbaaDoor

/- What is known of a row behind a slice; the contracts of package row in its terms. -/
namespace Go.Proofs.YtenpkhalgkodbaaDoor
open Go.RowKit

/-- What is known of a row behind a slice. -/
structure RowAt (w : World) (v : Value) (n : Nat) (X : List Int) : Prop where
  ints : Ints w v X
  row : isRow X
  len : X.length = n

theorem RowAt.below {w w' : World} {v : Value} {n : Nat} {X : List Int} (h : RowAt w v n X) (hb : Below w.heap.size w w') : RowAt w' v n X := ⟨h.ints.below hb, h.row, h.len⟩

theorem times_row {n : Nat} {v1 v2 : Value} {X Y : List Int} {w : World} (h1 : 1 ≤ n) (h2 : n ≤ 12) (hx : RowAt w v1 n X) (hy : RowAt w v2 n Y) :
    Calls Tryd.prog 37 #[v1, v2] w fun e w' => ∃ v, e = .returned (.tuple #[v, .int .i64 0]) ∧ RowAt w' v n (by_ X Y) ∧ Below w.heap.size w w' := by
  have e1 := hx.len
  have e2 := hy.len
  refine (times_ok v1 v2 X Y w hx.ints hy.ints hx.row hy.row (by omega) (by omega) (by omega)).mono ?_
  rintro e w' ⟨v, rfl, hi, hb⟩
  exact ⟨v, rfl, ⟨hi, isRow_by hx.row hy.row (by omega), by rw [by_length]; exact e2⟩, hb⟩

theorem RowAt.own {w : World} {base : Nat} {v : Value} {n : Nat} {X : List Int} (h : w.ownsRow base 3 1 v n (X.map (Value.int .i64))) (hr : isRow X) : RowAt w v n X :=
  ⟨Ints.own h, hr, by have := h.1; simpa using this⟩

end Go.Proofs.YtenpkhalgkodbaaDoor

/- Contract: method.Lead. -/
namespace Go.Proofs.YtenpkhalgkodbaaDoor
open Go.RowKit

/-- Rounds, changed by changes. -/
def prd (n : Nat) (ts : List (List Bool)) : List Int := ts.foldl (fun r t => by_ r (trow t)) (rnd n)

theorem prd_snoc (n : Nat) (ts : List (List Bool)) (t : List Bool) : prd n (ts ++ [t]) = by_ (prd n ts) (trow t) := by simp [prd, List.foldl_append]

theorem fold_row (n : Nat) : ∀ (ts : List (List Bool)) (r : List Int), isRow r → r.length = n → (∀ t, t ∈ ts → tsz t = n) → isRow (ts.foldl (fun r t => by_ r (trow t)) r) ∧ (ts.foldl (fun r t => by_ r (trow t)) r).length = n
  | [], _, hr, hl, _ => ⟨hr, hl⟩
  | t :: ts, r, hr, hl, h => by
    have ht : tsz t = n := h t (by simp)
    exact fold_row n ts _ (isRow_by hr (trow_row t) (by rw [trow_length, ht, hl])) (by rw [by_length, trow_length, ht]) (fun t' ht' => h t' (List.mem_cons_of_mem _ ht'))

theorem prd_row (n : Nat) (ts : List (List Bool)) (h : ∀ t, t ∈ ts → tsz t = n) : isRow (prd n ts) ∧ (prd n ts).length = n := fold_row n ts _ (isRow_rnd n) (rnd_length n) h

/-- The first rows of a lead. -/
def leadTo (n : Nat) (ts : List (List Bool)) (k : Nat) : List (List Int) := (List.range (k + 1)).map (fun j => prd n (ts.take j))

theorem leadTo_snoc (n : Nat) (ts : List (List Bool)) (k : Nat) : leadTo n ts (k + 1) = leadTo n ts k ++ [prd n (ts.take (k + 1))] := by
  unfold leadTo; rw [List.range_succ, List.map_append]; rfl

theorem leadTo_length (n : Nat) (ts : List (List Bool)) (k : Nat) : (leadTo n ts k).length = k + 1 := by simp [leadTo]

theorem leadTo_get {n k j : Nat} {ts : List (List Bool)} (h : j ≤ k) : (leadTo n ts k).getD j [] = prd n (ts.take j) := by
  simp [leadTo, List.getD, Nat.lt_succ_of_le h]

theorem tile_ok {n : Nat} {ts : List (List Bool)} (h : ∀ t, t ∈ ts → tsz t = n) {k : Nat} (hk : k < (ts.map tpl).length) : okc n 0 ((ts.map tpl).getD k []) = true := by
  have hk' : k < ts.length := by simpa using hk
  rw [show (ts.map tpl).getD k [] = tpl ts[k] from by simp [List.getD, hk'], ← h ts[k] (List.getElem_mem hk')]
  exact okc_self _

/-- What the loop of Lead knows. -/
structure LeadRel (w wr : World) (s : ByteArray) (n : Nat) (v : Value) (ts : List (List Bool)) (k : Nat) (r u : Value) (vs : List Value) : Prop where
  box : Box wr w.heap.size s n v
  ll : LL wr (w.heap.size + 1) u vs (leadTo n ts k)
  row : wr.ownsRow (w.heap.size + 1) 3 1 r n ((prd n (ts.take k)).map (Value.int .i64))
  below : Below w.heap.size w wr

theorem take_next {ts : List (List Bool)} {k : Nat} (h : k < ts.length) : ts.take (k + 1) = ts.take k ++ [ts[k]] := List.take_succ_eq_append_getElem h

end Go.Proofs.YtenpkhalgkodbaaDoor

/- Plain: the first lists of a list of lists; the rows of a lead. -/
namespace Go.Proofs.YtenpkhalgkodbaaDoor
open Go.RowKit Go.Maps

/-- The first lists of a list of lists. -/
theorem LL.front {w : World} {base g N cap k : Nat} {vs : List Value} {X : List (List Int)} (h : LL w base (.slice (some ⟨g, 0, none⟩) N cap) vs X) (hN : vs.length = N) (hk : k ≤ N) (h1 : 1 ≤ k) (hg : g < w.heap.size) (hc : N ≤ cap) (hc2 : cap ≤ 9223372036854775807) :
    IntsAll w (.slice (some ⟨g, 0, none⟩) k cap) (X.take k) := by
  have hr := h.row
  rw [hN] at hr
  have hXl := h.len
  refine ⟨vs.take k, Or.inr ⟨g, 0, cap, ?_, ?_, ?_, hc2, hg, fun j hj => ?_⟩, ?_, fun j hj => ?_⟩
  · rw [List.length_take, hN, Nat.min_eq_left hk]
  · rw [List.length_take, hN, Nat.min_eq_left hk]; exact h1
  · rw [List.length_take, hN, Nat.min_eq_left hk]; omega
  · have hj' : j < k := by rw [List.length_take, hN, Nat.min_eq_left hk] at hj; exact hj
    rw [Nat.zero_add, owns_val hr (by omega)]
    simp [List.getD, hj']
  · rw [List.length_take, List.length_take, hXl]
  · have hj' : j < k := by rw [List.length_take] at hj; omega
    have hjX : j < X.length := by rw [← hXl, hN]; omega
    have := Ints.own (h.at hjX)
    have e1 : (vs.take k).getD j undef = vs.getD j undef := by simp [List.getD, hj']
    have e2 : (X.take k).getD j [] = X.getD j [] := by simp [List.getD, hj']
    rw [e1, e2]
    exact this

/-- The rows of a lead, but the last one. -/
def ldr (n : Nat) (ts : List (List Bool)) : List (List Int) := (leadTo n ts ts.length).take ts.length

theorem ldr_length (n : Nat) (ts : List (List Bool)) : (ldr n ts).length = ts.length := by unfold ldr; rw [List.length_take, leadTo_length]; omega

theorem ldr_rows {n : Nat} {ts : List (List Bool)} (h : ∀ t, t ∈ ts → tsz t = n) : ∀ r, r ∈ ldr n ts → Rw n r := by
  intro r hr
  have hr' := List.mem_of_mem_take hr
  obtain ⟨j, hj, e⟩ := List.getElem_of_mem hr'
  have hl : (leadTo n ts ts.length).length = ts.length + 1 := leadTo_length n ts ts.length
  have h2 := leadTo_get (n := n) (ts := ts) (k := ts.length) (j := j) (by omega)
  rw [List.getD_eq_getElem?_getD, List.getElem?_eq_getElem hj, Option.getD_some, e] at h2
  have := prd_row n (ts.take j) (fun t ht => h t (List.mem_of_mem_take ht))
  rw [← h2] at this
  exact ⟨this.1, this.2⟩

end Go.Proofs.YtenpkhalgkodbaaDoor

/- Contract: truth.Heads, over what call.Rows tells. -/
namespace Go.Proofs.YtenpkhalgkodbaaDoor
open Go.RowKit

/-- What call.Rows tells. -/
def RowsPost (T : List (List Int)) (w : World) (e : Ending) (w' : World) : Prop := ∃ u vs, e = .returned (.tuple #[u, .int .i64 0]) ∧ LL w' w.heap.size u vs T ∧ Below w.heap.size w w'

theorem LL.keptRow {w w' : World} {base : Nat} {v : Value} {vs : List Value} {xss : List (List Int)} {u : Value} {k : Nat} {us : List Value} (h : LL w base v vs xss) (hu : w.ownsRow base 26 1 u k us) (hg : w.grownBy w' u.ownBlock) (hne : v.ownBlock = none ∨ v.ownBlock ≠ u.ownBlock) : LL w' base v vs xss :=
  ⟨h.row.kept hg hne, h.all.mono (fun _ _ _ h' => owns_kept_ty h' hu hg)⟩

theorem Box.keep {w w' : World} {b B : Nat} {s : ByteArray} {n : Int} {v : Value} (h : Box w b s n v) (hb : Below B w w') (hlt : b < B) : Box w' b s n v :=
  ⟨(hb.cell (p := ⟨b, 0, none⟩) hlt).trans h.c0, (hb.cell (p := ⟨b, 1, none⟩) hlt).trans h.c1, (hb.cell (p := ⟨b, 2, none⟩) hlt).trans h.c2, Nat.lt_of_lt_of_le h.lt hb.size⟩

/-- The heads. -/
def headsOf (T : List (List Int)) (k N : Nat) : List (List Int) := (List.range N).map (fun i => T.getD (i * k) [])

theorem headsOf_snoc (T : List (List Int)) (k j : Nat) : headsOf T k (j + 1) = headsOf T k j ++ [T.getD (j * k) []] := by
  unfold headsOf
  rw [List.range_succ, List.map_append]
  rfl

end Go.Proofs.YtenpkhalgkodbaaDoor

/- Contract: call.leadOf: the rows of a lead that ends with a call. -/
namespace Go.Proofs.YtenpkhalgkodbaaDoor
open Go.RowKit

/-- The changes of a lead that ends with a call. -/
def calledBy (ts ss : List (List Bool)) : List (List Bool) := ts.take (ts.length - ss.length) ++ ss

theorem calledBy_length {ts ss : List (List Bool)} (h : ss.length ≤ ts.length) : (calledBy ts ss).length = ts.length := by
  unfold calledBy; rw [List.length_append, List.length_take]; omega

theorem calledBy_mem {n : Nat} {ts ss : List (List Bool)} (h1 : ∀ t, t ∈ ts → tsz t = n) (h2 : ∀ t, t ∈ ss → tsz t = n) : ∀ t, t ∈ calledBy ts ss → tsz t = n := by
  intro t ht
  rcases List.mem_append.1 ht with h | h
  · exact h1 t (List.mem_of_mem_take h)
  · exact h2 t h

set_option maxRecDepth 20000 in
set_option maxHeartbeats 4000000 in
theorem leadOf_ok (s : ByteArray) (n : Nat) (vp : Option Addr) (vc : Nat) (ts : List (List Bool)) (sg : Int) (up : Option Addr) (uc : Nat) (ss : List (List Bool)) (w : World) (h1 : 1 ≤ n) (h12 : n ≤ 12) (hl1 : 1 ≤ ts.length) (hl2 : ts.length ≤ 200)
    (hts : ∀ t, t ∈ ts → tsz t = n) (hv : IntsAll w (.slice vp ts.length vc) (ts.map tpl)) (hss : ∀ t, t ∈ ss → tsz t = n) (hu : IntsAll w (.slice up ss.length uc) (ss.map tpl)) (hle : ss.length ≤ ts.length) :
    Calls Tryd.prog 35 #[meth s n (.slice vp ts.length vc), .agg #[.int .i32 sg, .slice up ss.length uc]] w fun e w' => ∃ u vs, e = .returned u ∧ LL w' w.heap.size u vs ((calledBy ts ss).map trow) ∧ Below w.heap.size w w' := by
  obtain ⟨j0, hji, hq0, hq1, hq2⟩ := info_parts Tryd.info26
  obtain ⟨b, off, cap, hve, hbl, hc1, hc2, hxx⟩ := hv.cell (by rw [List.length_map]; exact hl1)
  obtain ⟨rfl, rfl⟩ : vp = some ⟨b, off, none⟩ ∧ vc = cap := by simpa using hve
  clear hxx
  rw [List.length_map] at hc1
  have hcut := hv.cut (k := ts.length - ss.length) (List.length_map _) (by omega)
  have hB0 : Below w.heap.size w ((w.alloc (.cells #[.string s, .int .i64 n, .slice (some ⟨b, off, none⟩) ts.length vc] 24)).alloc (.cells #[.int .i32 sg, .slice up ss.length uc] 50)) := ((Below.refl _ _).alloc (Nat.le_refl _) _).alloc (by simp) _
  have hB1 := hB0.alloc hB0.size (.cells #[.slice (some ⟨b, off, none⟩) (ts.length - ss.length) vc, .slice up ss.length uc] 22)
  have hnew := heap_alloc_new ((w.alloc (.cells #[.string s, .int .i64 n, .slice (some ⟨b, off, none⟩) ts.length vc] 24)).alloc (.cells #[.int .i32 sg, .slice up ss.length uc] 50)) (.cells #[.slice (some ⟨b, off, none⟩) (ts.length - ss.length) vc, .slice up ss.length uc] 22)
  have hbox := ((Box.start w s n (.slice (some ⟨b, off, none⟩) ts.length vc) 24).below ((Below.refl _ _).alloc (Nat.le_refl _) (.cells #[.int .i32 sg, .slice up ss.length uc] 50))).below ((Below.refl _ _).alloc (Nat.le_refl _) (.cells #[.slice (some ⟨b, off, none⟩) (ts.length - ss.length) vc, .slice up ss.length uc] 22))
  have HCO := hide (concat_ok (w.heap.size + 2) _ _ _ _ (((w.alloc (.cells #[.string s, .int .i64 n, .slice (some ⟨b, off, none⟩) ts.length vc] 24)).alloc (.cells #[.int .i32 sg, .slice up ss.length uc] 50)).alloc (.cells #[.slice (some ⟨b, off, none⟩) (ts.length - ss.length) vc, .slice up ss.length uc] 22)) (by simp) (by
      rw [show ((w.alloc (.cells #[.string s, .int .i64 n, .slice (some ⟨b, off, none⟩) ts.length vc] 24)).alloc (.cells #[.int .i32 sg, .slice up ss.length uc] 50)).heap.size = w.heap.size + 2 from by simp] at hnew
      unfold World.cell?; simp only [hnew]; rfl) (by
      rw [show ((w.alloc (.cells #[.string s, .int .i64 n, .slice (some ⟨b, off, none⟩) ts.length vc] 24)).alloc (.cells #[.int .i32 sg, .slice up ss.length uc] 50)).heap.size = w.heap.size + 2 from by simp] at hnew
      unfold World.cell?; simp only [hnew]; rfl) (hcut.below hB1) (hu.below hB1) (by rw [List.length_take, List.length_map, List.length_map]; omega) (by rw [List.length_take, List.length_map]; omega) (by rw [List.length_map]; omega))
  rw [← List.map_take, ← List.map_append, show ts.take (ts.length - ss.length) ++ ss = calledBy ts ss from rfl] at HCO
  have HZL := hide (calledBy_length hle)
  have HZM := hide (calledBy_mem hts hss)
  have HBX := hide hbox
  have HB1 := hide hB1
  clear hts hss hv hu hcut hbox hnew hB1 hB0 hve
  generalize calledBy ts ss = Z at *
  generalize ts.length = K at *
  generalize ss.length = M at *
  obtain ⟨D, rfl⟩ : ∃ D, K = D + M := ⟨K - M, by omega⟩
  rw [show D + M - M = D from by omega] at HCO HBX HB1
  unfold meth
  go_enter Tryd.func35, Tryd.ntmps35
  go_wp2_with fail
  refine HCO.out.mono ?_
  rintro e w1 ⟨v, rfl, hI1, hb1⟩
  have hB1 : Below w.heap.size w w1 := HB1.out.trans (hb1.mono HB1.out.size)
  have hx1 := HBX.out.below hb1
  obtain ⟨zb, zo, zc, hve, hzb, hzc, hzm, hzcell⟩ := hI1.cell (by rw [List.length_map, HZL.out]; omega)
  rw [List.length_map, HZL.out] at hve hzc
  subst hve
  have HX1 := hide hx1
  have HZC := hide hzcell
  have hbs1 := hB1.size
  clear HCO HBX HB1 hb1 hx1 hI1 hzcell
  go_wp2
  go_loopw [6, 27] (fun hv i wr => ∃ (j : Nat) (vs : List Value), j ≤ D + M ∧ i = .int .i64 j ∧ Hid (vs.length = j) ∧ Hid (LL wr w1.heap.size hv vs ((Z.take j).map trow)) ∧ Below w1.heap.size w1 wr) (fun _ i _ => D + M - (intOf i).toNat)
  case atStart => exact ⟨0, [], by omega, rfl, (show ([] : List Value).length = 0 from rfl), LL.nil _ _, Below.refl _ _⟩
  case round =>
    obtain ⟨j, vs, hj, rfl, hvl, hL, hbw⟩ := hrel
    have hbs := hbw.size
    obtain ⟨hp, hc, rfl⟩ := owns_slice hL.out.row
    by_cases hlt : j < D + M
    · have hjz : j < Z.length := by rw [HZL.out]; exact hlt
      obtain ⟨p, c, gx, hix⟩ := HZC.out j (by rw [List.length_map]; exact hjz)
      have ht : tsz Z[j] = n := HZM.out _ (List.getElem_mem hjz)
      have hix2 := hix.out
      have hgk : (Z.map tpl).getD j [] = tpl Z[j] := by simp [List.getD, hjz]
      rw [hgk] at hix2 gx
      have gy := (hbw.cell (p := ⟨zb, zo + j, none⟩) hzb).trans gx
      have HRow := hide (prow_ok Z[j] n _ wr ht h1 h12 (hix2.below hbw))
      have HTN : Hid ((Z.take (j + 1)).map trow = (Z.take j).map trow ++ [trow Z[j]]) := by show _ = _; rw [List.take_succ_eq_append_getElem hjz, List.map_append]; rfl
      have HTL : Hid ((trow Z[j]).length = n) := by show _ = _; rw [trow_length, ht]
      have gb := (HX1.out.below hbw).c1
      generalize Z[j] = t at *
      generalize (tpl t).length = pl at *
      clear gx hix hix2 hgk ht
      have hvl2 := hvl.out
      rw [hvl2]
      go_wp2_with fail
      refine HRow.out.mono ?_
      rintro e w3 ⟨rv, rfl, hrv, hb3⟩
      have hL3 := hL.out.below hb3
      have hbs3 := hb3.size
      have hbw3 : Below w1.heap.size w1 w3 := hbw.trans (hb3.mono hbs)
      have hrv2 := owns_base hrv hbs
      obtain ⟨rp, rc, rfl⟩ := owns_slice hrv2
      have hrow := hL3.row
      have HL3 := hide hL3
      rw [hvl2] at hrow
      have HRV := hide hrv2
      clear hL hrv hrv2 hL3 HRow hb3
      go_wp2_with (at_builtin; refine wpList_append_keep _ rfl _ _ 22 rfl w1.heap.size 26 j0 (.slice none 0 0) 1 24 Tryd.underlying22 hji hq0 hq1 hq2 rfl (by decide) _ _ _ rfl (hrow.alloc _) ⟨w3.heap.size, 0, none⟩ 1 1 [.slice rp n rc] rfl rfl ?c1 ?c2 ?c3 ?c4 ?c5 ?_)
      case c1 => exact cell_one_new _ _ _
      case c2 => intro u hu; simp at hu; subst hu; rfl
      case c3 => unfold maxLen; omega
      case c4 => omega
      case c5 => simp; omega
      · intro v' w5 hown5 hg5 _
        have hg5' := hg5
        rw [← hvl2] at hown5 hg5'
        have hL5 := HL3.out.push (X := trow t) (by rw [HTL.out]; exact HRV.out) hown5 hg5'
        rw [← HTN.out] at hL5
        have HB5 := hide (HL3.out.step hbw3 (Nat.le_refl _) (by omega) hg5')
        have HL5 := hide hL5
        have HV5 : Hid ((vs ++ [Value.slice rp n rc]).length = j + 1) := by show _ = _; rw [List.length_append, hvl2]; rfl
        clear hL5 hown5 hg5 hg5' hrow
        go_wp2
        go_roundw
        case rel => exact ⟨j + 1, _, by omega, by go_num, HV5, HL5, HB5.out⟩
        case measure => simp [intOf]; omega
    · obtain rfl : j = D + M := by omega
      have hF := hL.out
      rw [show Z.take (D + M) = Z from by rw [← HZL.out]; exact List.take_length] at hF
      have HF := hide hF
      clear hL hF
      go_wp2
      go_ret
      exact ⟨_, vs, rfl, HF.out.low hbs1, hB1.trans (hbw.mono hbs1)⟩

end Go.Proofs.YtenpkhalgkodbaaDoor

/- Contract: the answer's Ends. -/
namespace Go.Proofs.YtenpkhalgkodbaaDoor
open Go.RowKit
set_option maxRecDepth 20000
set_option linter.unusedVariables false

/-- 'append(a, b...)': a owned, b whatever came in, none too. -/
theorem run_append_vals {P : Program} (w : World) (base : Nat) (t ty e : TypeId) (i : TypeInfo) (z : Value) (bytes : Nat) (ht : P.underlying t = some (.slice e)) (hi : P.info? e = some i) (hz : i.zero = some z)
    (hsize : i.size = 1) (hby : i.bytes = bytes) (hzs : z.cells.size = 1)
    (v : Value) (n : Nat) (xs : List Value) (hown : w.ownsRow base e 1 v n xs)
    (u : Value) (news : List Value) (hsrc : Vals w u news) (h1 : ∀ u ∈ news, u.oneCell' = true)
    (h63 : n + news.length ≤ maxLen) (hbytes : (n + news.length) * bytes ≤ 140737488355328) (hbase : base ≤ w.heap.size) :
    ∃ v' w', (Builtin.append_ #[t, t] ty #[v, u]).run P w = .ok v' w' ∧ w'.ownsRow base e 1 v' (n + news.length) (xs ++ news) ∧ w.grownBy w' v.ownBlock := by
  rcases hsrc with ⟨rfl, p, c, rfl⟩ | ⟨b, off, cap, rfl, h0, hc, hm, hb, hcell⟩
  · rw [List.length_nil, Nat.add_zero, List.append_nil]
    have hr : w.grownBy w v.ownBlock := ⟨rfl, rfl, rfl, Nat.le_refl _, fun _ _ _ => rfl⟩
    rcases hown.2 with ⟨rfl, rfl⟩ | ⟨g2, cap2, cur2, rfl, _, _, hnc2, _⟩
    · exact ⟨_, w, run_append_nil_none (P := P) w t ty e i ht hi p c, hown, hr⟩
    · exact ⟨_, w, run_append_none (P := P) w t ty e i ht hi ⟨g2, 0, none⟩ n cap2 hnc2 p c, hown, hr⟩
  · obtain ⟨v', w', hr, h2, h3, _⟩ := run_append_keep (P := P) w base t ty e i z 1 bytes ht hi hz hsize hby hzs (by decide) v n xs hown ⟨b, off, none⟩ news.length cap news (by omega) (fun j u hu => by
      have hj := (List.getElem?_eq_some_iff.1 hu).1
      have := hcell j hj
      rw [List.getD_eq_getElem?_getD, hu] at this
      rw [Addr.add_lit]
      exact this) h1 h63 hbytes hbase
    exact ⟨v', w', hr, h2, h3⟩

/-- .. as one step of a region that draws. -/
theorem step_append_vals {P : Program} {ops : Array Oper} {o : Oper} {a : Act} {w : World} {K : Act → World → Prop} {Q : Exit → Act → World → Prop} {E : Prop} (hg : o.guard = none) (s x : Operand) (t : TypeId)
    (ho : o.op = .call { callee := .builtin .append, args := #[s, x], argTypes := #[t, t] })
    (base : Nat) (e : TypeId) (i : TypeInfo) (z : Value) (bytes : Nat) (ht : P.underlying t = some (.slice e)) (hi : P.info? e = some i) (hz : i.zero = some z)
    (hsize : i.size = 1) (hby : i.bytes = bytes) (hzs : z.cells.size = 1)
    (v : Value) (n : Nat) (xs : List Value) (hs : a.eval s = v) (hown : w.ownsRow base e 1 v n xs)
    (u : Value) (news : List Value) (hx : a.eval x = u) (hsrc : Vals w u news) (h1 : ∀ u ∈ news, u.oneCell' = true)
    (h63 : n + news.length ≤ maxLen) (hbytes : (n + news.length) * bytes ≤ 140737488355328) (hbase : base ≤ w.heap.size)
    (h : ∀ v' w', w'.ownsRow base e 1 v' (n + news.length) (xs ++ news) → w.grownBy w' v.ownBlock → K (a.put o.dst v') w') :
    if Region.wanted o (yielded ops a.tmps) = true then Oper.wp P o a w K Q else E := by
  have hw : Region.wanted o (yielded ops a.tmps) = true := by simp [Region.wanted, hg]
  rw [if_pos hw]
  obtain ⟨v', w', hr, h2, h3⟩ := run_append_vals (P := P) w base t o.type e i z bytes ht hi hz hsize hby hzs v n xs hown u news hsrc h1 h63 hbytes hbase
  unfold Oper.wp execOp
  simp only [ho, resolve, invoke, builtin, Sem.run_bind, Sem.run_pure, Result.andThen_ok, List.map_toArray, List.map_cons, List.map_nil, hs, hx, hr]
  exact h v' w' h2 h3

theorem alloc_new9 (w : World) (o : Obj) : (w.alloc o).heap[w.heap.size]? = some o := heap_alloc_new w o

theorem alloc_new9' (w : World) (o : Obj) {k : Nat} (h : k = w.heap.size) : (w.alloc o).heap[k]? = some o := by rw [h]; exact alloc_new9 w o

/-- A call's value. -/
def callV (sg : Int) (cv : Value) : Value := .agg #[.int .i32 sg, cv]

theorem Vals.take {w : World} {p : Option Addr} {m c k : Nat} {vs : List Value} (h : Vals w (.slice p m c) vs) (hk : k ≤ vs.length) : Vals w (.slice p k c) (vs.take k) := by
  rcases h with ⟨rfl, p', c', e⟩ | ⟨b, off, cap, e, h0, h1, h2, h3, hc⟩
  · simp at hk
    subst hk
    exact Or.inl ⟨rfl, _, _, rfl⟩
  · injection e with e1 e2 e3
    subst e1; subst e3
    have hl : (vs.take k).length = k := by rw [List.length_take]; omega
    rcases Nat.eq_zero_or_pos k with h9 | h9
    · subst h9; exact Or.inl ⟨rfl, _, _, rfl⟩
    · refine Or.inr ⟨b, off, c, by rw [hl], by omega, by omega, h2, h3, fun j hj => ?_⟩
      rw [hl] at hj
      rw [hc j (by omega)]
      simp [List.getD, hj]

theorem vals_len {w : World} {p : Option Addr} {m c : Nat} {vs : List Value} (h : Vals w (.slice p m c) vs) : m = vs.length := by
  rcases h with ⟨rfl, p', c', e⟩ | ⟨b, off, cap, e, _⟩
  · injection e
  · injection e

theorem vals_cap {w : World} {p : Option Addr} {m c : Nat} {vs : List Value} (h : Vals w (.slice p m c) vs) (h0 : 1 ≤ m) : m ≤ c ∧ ∃ b off, p = some ⟨b, off, none⟩ := by
  rcases h with ⟨rfl, p', c', e⟩ | ⟨b, off, cap, e, h0, h1, _⟩
  · injection e with _ e2 _; omega
  · injection e with e1 e2 e3
    subst e3
    exact ⟨by omega, b, off, e1⟩

set_option maxHeartbeats 8000000 in
theorem rends_ok (s : ByteArray) (n : Nat) (vp : Option Addr) (K vc : Nat) (sg : Int) (cp : Option Addr) (N cc : Nat) (vs us : List Value) (w : World) (hv : Vals w (.slice vp K vc) vs) (hu : Vals w (.slice cp N cc) us) (hK1 : 1 ≤ K) (hK2 : K ≤ 1000) (hN : N ≤ K) (h1 : ∀ u ∈ vs, u.oneCell' = true) (h2 : ∀ u ∈ us, u.oneCell' = true) :
    Calls Tryd.prog 40 #[.agg #[.string s, .int .i64 n, .slice vp K vc], callV sg (.slice cp N cc)] w fun e w' => ∃ v, e = .returned v ∧ w'.ownsRow (w.heap.size + 1 + 1) 26 1 v (K - N + N) (vs.take (K - N) ++ us) ∧ Below w.heap.size w w' := by
  obtain ⟨i0, hi, hz0, hz1, hz2⟩ := info_parts Tryd.info26
  obtain ⟨hcap, b, off, rfl⟩ := vals_cap hv hK1
  have hlv := vals_len hv
  have hlu := vals_len hu
  have HV := hide (hv.take (k := K - N) (by omega))
  have HU := hide hu
  have HLV := hide hlv
  have HLU := hide hlu
  obtain ⟨k, hk⟩ : ∃ k, Hid (K - N = k) := ⟨_, rfl⟩
  have hkN : (K : Int) - (N : Int) = (k : Int) := by have := hk.out; omega
  have hkK : k ≤ K := by have := hk.out; omega
  rw [hk.out] at HV ⊢
  unfold callV
  clear hv hu hlv hlu
  go_enter Tryd.func40, Tryd.ntmps40
  have hM0 := Below.heap_alloc (w.alloc (.cells #[.string s, .int .i64 (n : Int), .slice (some ⟨b, off, none⟩) K vc] 24)) (.cells #[.int .i32 sg, .slice cp N cc] 50) w.heap.size (by simp)
  rw [alloc_new9] at hM0
  have hC0 := alloc_new9' (w.alloc (.cells #[.string s, .int .i64 (n : Int), .slice (some ⟨b, off, none⟩) K vc] 24)) (.cells #[.int .i32 sg, .slice cp N cc] 50) (k := w.heap.size + 1) (by simp)
  have c0 : ((w.alloc (.cells #[.string s, .int .i64 (n : Int), .slice (some ⟨b, off, none⟩) K vc] 24)).alloc (.cells #[.int .i32 sg, .slice cp N cc] 50)).cell? ⟨w.heap.size, 2, none⟩ = some (.slice (some ⟨b, off, none⟩) K vc) := by unfold World.cell?; rw [hM0]; rfl
  have c1 : ((w.alloc (.cells #[.string s, .int .i64 (n : Int), .slice (some ⟨b, off, none⟩) K vc] 24)).alloc (.cells #[.int .i32 sg, .slice cp N cc] 50)).cell? ⟨w.heap.size + 1, 1, none⟩ = some (.slice cp N cc) := by unfold World.cell?; rw [hC0]; rfl
  have hB0 : Below w.heap.size w ((w.alloc (.cells #[.string s, .int .i64 (n : Int), .slice (some ⟨b, off, none⟩) K vc] 24)).alloc (.cells #[.int .i32 sg, .slice cp N cc] 50)) := ((Below.refl _ _).alloc (Nat.le_refl _) _).alloc (by simp) _
  have hs0 : ((w.alloc (.cells #[.string s, .int .i64 (n : Int), .slice (some ⟨b, off, none⟩) K vc] 24)).alloc (.cells #[.int .i32 sg, .slice cp N cc] 50)).heap.size = w.heap.size + 1 + 1 := by simp
  have HV0 := hide (HV.out.below hB0)
  have HU0 := hide (HU.out.below hB0)
  clear hM0 hC0
  go_upto_region 2 with fail
  generalize (w.alloc (.cells #[.string s, .int .i64 (n : Int), .slice (some ⟨b, off, none⟩) K vc] 24)).alloc (.cells #[.int .i32 sg, .slice cp N cc] 50) = W0 at *
  refine wp_region_held_drew (S := fun W' => W'.cell? ⟨w.heap.size, 2, none⟩ = some (.slice (some ⟨b, off, none⟩) K vc) ∧ W'.cell? ⟨w.heap.size + 1, 1, none⟩ = some (.slice cp N cc)) (by kernel_rfl) ⟨c0, c1⟩ (fun hS => ?_)
  refine wpAnyH_take (i := 1) (v := .pointer (some ⟨w.heap.size, 2, none⟩)) rfl (by kernel_rfl) (by kernel_rfl) (by kernel_rfl) (fun _ _ _ h => h) (Or.inl ⟨by kernel_rfl, fun w' hS' => by obtain ⟨q0, q1⟩ := hS'; go_simp⟩) hS ?_
  refine wpAnyH_take (i := 2) (v := .slice (some ⟨b, off, none⟩) K vc) rfl (by kernel_rfl) (by kernel_rfl) (by kernel_rfl) (fun _ _ _ h => h) (Or.inl ⟨by kernel_rfl, fun w' hS' => by obtain ⟨q0, q1⟩ := hS'; go_simp⟩) hS ?_
  refine wpAnyH_take (i := 3) (v := .int .i64 (k : Int)) rfl (by kernel_rfl) (by kernel_rfl) (by kernel_rfl) (fun _ _ _ h => h) (Or.inl ⟨by kernel_rfl, fun w' hS' => by obtain ⟨q0, q1⟩ := hS'; go_simp⟩) hS ?_
  refine wpAnyH_take (i := 4) (v := .slice (some ⟨b, off, none⟩) k vc) rfl (by kernel_rfl) (by kernel_rfl) (by kernel_rfl) (fun _ _ _ h => h) (Or.inl ⟨by kernel_rfl, fun w' hS' => by obtain ⟨q0, q1⟩ := hS'; go_simp; (try omega)⟩) hS ?_
  refine wpAnyH_take (i := 6) (v := .pointer (some ⟨w.heap.size + 1, 1, none⟩)) rfl (by kernel_rfl) (by kernel_rfl) (by kernel_rfl) (fun _ _ _ h => h) (Or.inl ⟨by kernel_rfl, fun w' hS' => by obtain ⟨q0, q1⟩ := hS'; go_simp⟩) hS ?_
  refine wpAnyH_take (i := 7) (v := .slice cp N cc) rfl (by kernel_rfl) (by kernel_rfl) (by kernel_rfl) (fun _ _ _ h => h) (Or.inl ⟨by kernel_rfl, fun w' hS' => by obtain ⟨q0, q1⟩ := hS'; go_simp⟩) hS ?_
  refine wpAnyH_ready (rs := [0]) (by kernel_rfl) (by simp) ?_
  refine AllReadyH.cons rfl (fun K9 hK => ?_) AllReadyH.nil
  go_simp
  have hk1 : ∀ g, g < W0.heap.size → (W0.alloc (.cells #[] 26)).drew.heap[g]? = W0.heap[g]? := fun g hg => Below.heap_alloc W0 _ g hg
  have d0 : (W0.alloc (.cells #[] 26)).drew.cell? ⟨w.heap.size, 2, none⟩ = some (.slice (some ⟨b, off, none⟩) K vc) := by rw [← c0]; exact World.cell?_of_block (w := W0) (hk1 w.heap.size (by omega))
  have d1 : (W0.alloc (.cells #[] 26)).drew.cell? ⟨w.heap.size + 1, 1, none⟩ = some (.slice cp N cc) := by rw [← c1]; exact World.cell?_of_block (w := W0) (hk1 (w.heap.size + 1) (by omega))
  have hE : (W0.alloc (.cells #[] 26)).drew.ownsRow (w.heap.size + 1 + 1) 26 1 (.slice (some ⟨w.heap.size + 1 + 1, 0, none⟩) 0 0) 0 [] := by
    have := World.ownsRow_made (e := 26) (size := 1) W0 #[] 0 (Nat.le_refl W0.heap.size) (by decide) (by simp)
    rw [hs0] at this
    exact this
  have hB1 : Below w.heap.size w (W0.alloc (.cells #[] 26)).drew := (hB0.alloc (by omega) _).drew
  have hs1 : (W0.alloc (.cells #[] 26)).drew.heap.size = w.heap.size + 1 + 1 + 1 := by show (W0.alloc _).heap.size = _; simp; omega
  refine hK.out _ _ ⟨d0, d1⟩ (fun hS => ?_)
  clear hK
  generalize (W0.alloc (.cells #[] 26)).drew = W1 at *
  refine wpAnyH_ready (rs := [5]) (by kernel_rfl) (by simp) ?_
  refine AllReadyH.cons rfl (fun K9 hK => ?_) AllReadyH.nil
  have hl1 : (vs.take k).length = k := by rw [List.length_take, ← HLV.out]; omega
  refine step_append_vals rfl (.tmp 13) (.tmp 17) 22 rfl (w.heap.size + 1 + 1) 26 i0 (.slice none 0 0) 24 Tryd.underlying22 hi hz0 hz1 hz2 rfl (.slice (some ⟨w.heap.size + 1 + 1, 0, none⟩) 0 0) 0 [] rfl hE (.slice (some ⟨b, off, none⟩) k vc) (vs.take k) rfl (HV.out.below hB1) (fun u hu => h1 u (List.mem_of_mem_take hu)) (by rw [hl1]; unfold maxLen; omega) (by rw [hl1]; omega) (by omega) (fun v5 w5 hown5 hg5 => ?_)
  rw [hl1, Nat.zero_add, List.nil_append] at hown5
  have hob : (Value.slice (some ⟨w.heap.size + 1 + 1, 0, none⟩) 0 0).ownBlock = some (w.heap.size + 1 + 1) := rfl
  rw [hob] at hg5
  have hk5 : ∀ g, g < w.heap.size + 1 + 1 → w5.heap[g]? = W1.heap[g]? := fun g hg => hg5.block g (by omega) (fun e => by injection e with e; omega)
  have e0 : w5.cell? ⟨w.heap.size, 2, none⟩ = some (.slice (some ⟨b, off, none⟩) K vc) := by rw [← d0]; exact World.cell?_of_block (w := W1) (hk5 w.heap.size (by omega))
  have e1 : w5.cell? ⟨w.heap.size + 1, 1, none⟩ = some (.slice cp N cc) := by rw [← d1]; exact World.cell?_of_block (w := W1) (hk5 (w.heap.size + 1) (by omega))
  have hB5 : Below w.heap.size w w5 := hB1.grown hg5 (by omega) (fun g e => by injection e with e; omega)
  have hs5 := hg5.size
  refine hK.out _ _ ⟨e0, e1⟩ (fun hS => ?_)
  clear hK hE hg5
  refine wpAnyH_ready (rs := [8]) (by kernel_rfl) (by simp) ?_
  refine AllReadyH.cons rfl (fun K9 hK => ?_) AllReadyH.nil
  have hl2 : us.length = N := HLU.out.symm
  refine step_append_vals rfl (.tmp 18) (.tmp 20) 22 rfl (w.heap.size + 1 + 1) 26 i0 (.slice none 0 0) 24 Tryd.underlying22 hi hz0 hz1 hz2 rfl v5 k (vs.take k) rfl hown5 (.slice cp N cc) us rfl (HU.out.below hB5) h2 (by rw [hl2]; unfold maxLen; omega) (by rw [hl2]; omega) (by omega) (fun v6 w6 hown6 hg6 => ?_)
  rw [hl2] at hown6
  have hlow : ∀ g, v5.ownBlock = some g → w.heap.size + 1 + 1 ≤ g := fun g e => (hown5.lt g e).1
  have hk6 : ∀ g, g < w.heap.size + 1 + 1 → w6.heap[g]? = w5.heap[g]? := fun g hg => hg6.block g (by omega) (fun e => by have := hlow g e.symm; omega)
  have f0 : w6.cell? ⟨w.heap.size, 2, none⟩ = some (.slice (some ⟨b, off, none⟩) K vc) := by rw [← e0]; exact World.cell?_of_block (w := w5) (hk6 w.heap.size (by omega))
  have f1 : w6.cell? ⟨w.heap.size + 1, 1, none⟩ = some (.slice cp N cc) := by rw [← e1]; exact World.cell?_of_block (w := w5) (hk6 (w.heap.size + 1) (by omega))
  have hB6 : Below w.heap.size w w6 := hB5.grown hg6 (by omega) (fun g e => by have := hlow g e; omega)
  refine hK.out _ _ ⟨f0, f1⟩ (fun hS => ?_)
  clear hK hg6
  have HOW := hide hown6
  clear hown6 hown5
  refine wpAnyH_take (i := 9) (v := v6) rfl (by kernel_rfl) (by kernel_rfl) (by kernel_rfl) (fun _ _ _ h => h) (Or.inl ⟨by kernel_rfl, fun w' hS' => by obtain ⟨q0, q1⟩ := hS'; go_simp⟩) hS ?_
  refine wpAnyH_done (by kernel_rfl) ?_ _
  go_wp2
  go_ret
  exact ⟨_, rfl, HOW.out, hB6⟩

end Go.Proofs.YtenpkhalgkodbaaDoor
