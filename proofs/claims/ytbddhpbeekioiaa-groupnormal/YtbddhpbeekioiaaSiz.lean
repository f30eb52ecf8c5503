/- Sizes: what is found in one round, and where it lies. -/
import Derived.Test.YtbddhpbeekioiaaThin
import Derived.Deep.QuietTactic
namespace Go.Proofs.Ytbddhpbeekioiaa
open Go.RowKit

/-- Where each bell stands among the spots, counted from 1; 0: nowhere. -/
def WhereOk (n : Nat) (T : List (Nat × Pm)) (wh : List Int) : Prop :=
  wh.length = n ∧ ∀ q, q < n → (wh.getD q 0 = 0 ∧ ¬ q ∈ T.map (·.1)) ∨ ∃ i e, T[i]? = some e ∧ e.1 = q ∧ wh.getD q 0 = ((i + 1 : Nat) : Int)

theorem WhereOk.start {n k : Nat} (hk : k < n) : WhereOk n [(k, 1)] ((List.replicate n (0 : Int)).set k 1) := by
  refine ⟨by simp, fun q hq => ?_⟩
  rw [getD_set (by simp; exact hk)]
  by_cases e : k = q
  · right
    exact ⟨0, (k, 1), rfl, e, by rw [if_pos e]; rfl⟩
  · left
    rw [if_neg e]
    exact ⟨by simp [List.getD, hq], by simp; omega⟩

theorem WhereOk.more {n q : Nat} {T : List (Nat × Pm)} {wh : List Int} (h : WhereOk n T wh) (hq : q < n) (x : Pm) : WhereOk n (T ++ [(q, x)]) (wh.set q ((T.length : Int) + 1)) := by
  refine ⟨by rw [List.length_set]; exact h.1, fun p hp => ?_⟩
  rw [getD_set (by rw [h.1]; exact hq)]
  by_cases e : q = p
  · right
    exact ⟨T.length, (q, x), by simp, e, by rw [if_pos e]; omega⟩
  · rw [if_neg e]
    rcases h.2 p hp with ⟨h1, h2⟩ | ⟨i, e', h1, h2, h3⟩
    · left
      refine ⟨h1, fun hm => ?_⟩
      rw [List.map_append] at hm
      rcases List.mem_append.1 hm with hm | hm
      · exact h2 hm
      · have epq : p = q := by simpa using hm
        exact e epq.symm
    · right
      exact ⟨i, e', by rw [List.getElem?_append_left (List.getElem?_eq_some_iff.1 h1).1]; exact h1, h2, h3⟩

/-- Rows that leave the place, of the spots ahead of i, and of spot i by the generators ahead of j. -/
structure StillTo (n : Nat) (gss : List (List Int)) (T : List (Nat × Pm)) (i j : Nat) (yss : List (List Int)) : Prop where
  rows : ∀ Y, Y ∈ yss → isRow Y ∧ Y.length = n ∧ Sch (fun y => y ∈ gss.map pad) T (pad Y)
  all : ∀ k l e X e', (k < i ∨ (k = i ∧ l < j)) → T[k]? = some e → gss[l]? = some X → e' ∈ T → e'.1 = (pad X).act e.1 → e'.2⁻¹ * (pad X * e.2) ∈ yss.map pad
  len : yss.length = i * gss.length + j

theorem StillTo.start (n : Nat) (gss : List (List Int)) (T : List (Nat × Pm)) : StillTo n gss T 0 0 [] :=
  ⟨fun Y h => (by cases h), fun k l e X e' h => (by omega), (by simp)⟩

theorem StillTo.step {n : Nat} {gss : List (List Int)} {T : List (Nat × Pm)} {i j : Nat} {yss : List (List Int)} (h : StillTo n gss T i j yss) (hT : (T.map (·.1)).Nodup) {e e' : Nat × Pm} {X Y : List Int} (he : T[i]? = some e) (hX : gss[j]? = some X) (he' : e' ∈ T) (h1 : e'.1 = (pad X).act e.1) (hY : isRow Y) (hl : Y.length = n) (hp : pad Y = e'.2⁻¹ * (pad X * e.2)) : StillTo n gss T i (j + 1) (yss ++ [Y]) := by
  refine ⟨fun Z hZ => ?_, fun k l f Z f' hk hf hZ hf' h2 => ?_, by rw [List.length_append, h.len]; simp; omega⟩
  · rcases List.mem_append.1 hZ with hZ | hZ
    · exact h.rows Z hZ
    · rw [List.mem_singleton.1 hZ]
      exact ⟨hY, hl, pad X, List.mem_map.2 ⟨X, List.mem_of_getElem? hX, rfl⟩, e, List.mem_of_getElem? he, e', he', h1, hp⟩
  · rw [List.map_append]
    by_cases hc : k < i ∨ (k = i ∧ l < j)
    · exact List.mem_append_left _ (h.all k l f Z f' hc hf hZ hf' h2)
    · have hk' : k = i := by omega
      have hl' : l = j := by omega
      subst hk'; subst hl'
      rw [he] at hf
      rw [hX] at hZ
      obtain rfl := Option.some.inj hf
      obtain rfl := Option.some.inj hZ
      have : f'.2 = e'.2 := tab_eq hT (b := e'.1) (by rw [h1, ← h2]; exact hf') he'
      rw [this, ← hp]
      exact List.mem_append_right _ (by simp)

theorem StillTo.next {n : Nat} {gss : List (List Int)} {T : List (Nat × Pm)} {i : Nat} {yss : List (List Int)} (h : StillTo n gss T i gss.length yss) : StillTo n gss T (i + 1) 0 yss := by
  refine ⟨h.rows, fun k l e X e' hk he hX he' h1 => ?_, by rw [h.len, Nat.succ_mul]; omega⟩
  have hl := (List.getElem?_eq_some_iff.1 hX).1
  exact h.all k l e X e' (by omega) he hX he' h1

theorem StillTo.gen {n : Nat} {gss : List (List Int)} {T : List (Nat × Pm)} {yss : List (List Int)} (h : StillTo n gss T T.length 0 yss) (x : Pm) : Gen (fun y => y ∈ yss.map pad) x ↔ Gen (Sch (fun y => y ∈ gss.map pad) T) x := by
  constructor
  · refine Gen.mono (fun y hy => ?_)
    obtain ⟨Y, hY, rfl⟩ := List.mem_map.1 hy
    exact (h.rows Y hY).2.2
  · refine Gen.mono (fun y hy => ?_)
    obtain ⟨s, hs, e, he, e', he', h1, rfl⟩ := hy
    obtain ⟨X, hX, rfl⟩ := List.mem_map.1 hs
    obtain ⟨k, hk, ek⟩ := List.getElem_of_mem he
    obtain ⟨l, hl, el⟩ := List.getElem_of_mem hX
    exact h.all k l e X e' (Or.inl hk) (by rw [List.getElem?_eq_getElem hk, ek]) (by rw [List.getElem?_eq_getElem hl, el]) he' h1

/-- The spots ahead of i are gone through, and spot i by the generators ahead of j. -/
def OrbTo (gss : List (List Int)) (T : List (Nat × Pm)) (i j : Nat) : Prop :=
  ∀ k l e X, (k < i ∨ (k = i ∧ l < j)) → T[k]? = some e → gss[l]? = some X → (pad X).act e.1 ∈ T.map (·.1)

theorem OrbTo.start (gss : List (List Int)) (T : List (Nat × Pm)) : OrbTo gss T 0 0 := fun k l e X h => by omega

theorem OrbTo.old {gss : List (List Int)} {T : List (Nat × Pm)} {i j : Nat} (h : OrbTo gss T i j) {e : Nat × Pm} {X : List Int} (he : T[i]? = some e) (hX : gss[j]? = some X) (hm : (pad X).act e.1 ∈ T.map (·.1)) : OrbTo gss T i (j + 1) := by
  intro k l f Z hk hf hZ
  by_cases hc : k < i ∨ (k = i ∧ l < j)
  · exact h k l f Z hc hf hZ
  · have hk' : k = i := by omega
    have hl' : l = j := by omega
    subst hk'; subst hl'
    rw [he] at hf
    rw [hX] at hZ
    obtain rfl := Option.some.inj hf
    obtain rfl := Option.some.inj hZ
    exact hm

theorem OrbTo.grow {gss : List (List Int)} {T : List (Nat × Pm)} {i j : Nat} (h : OrbTo gss T i j) (hi : i < T.length) (a : Nat × Pm) : OrbTo gss (T ++ [a]) i j := by
  intro k l f Z hk hf hZ
  rw [List.getElem?_append_left (by omega)] at hf
  rw [List.map_append]
  exact List.mem_append_left _ (h k l f Z hk hf hZ)

theorem OrbTo.next {gss : List (List Int)} {T : List (Nat × Pm)} {i : Nat} (h : OrbTo gss T i gss.length) : OrbTo gss T (i + 1) 0 := by
  intro k l f Z hk hf hZ
  have hl := (List.getElem?_eq_some_iff.1 hZ).1
  exact h k l f Z (by omega) hf hZ

theorem OrbTo.done {gss : List (List Int)} {T : List (Nat × Pm)} (h : OrbTo gss T T.length 0) : OrbsDone (fun y => y ∈ gss.map pad) T := by
  intro s hs e he
  obtain ⟨X, hX, rfl⟩ := List.mem_map.1 hs
  obtain ⟨k, hk, ek⟩ := List.getElem_of_mem he
  obtain ⟨l, hl, el⟩ := List.getElem_of_mem hX
  exact h k l e X (Or.inl hk) (by rw [List.getElem?_eq_getElem hk, ek]) (by rw [List.getElem?_eq_getElem hl, el])

theorem OwnAll.mono_mem {w w' : World} {base : Nat} : ∀ {us : List Value} {xs : List (List Int)}, (∀ u n xs, u ∈ us → w.ownsRow base 3 1 u n xs → w'.ownsRow base 3 1 u n xs) → OwnAll w base us xs → OwnAll w' base us xs
  | [], [], _, _ => trivial
  | _ :: _, _ :: _, h, ⟨h1, h2⟩ => ⟨h _ _ _ (by simp) h1, OwnAll.mono_mem (fun u n xs hu h' => h u n xs (by simp [hu]) h') h2⟩

theorem OwnAll.lt {w : World} {base : Nat} : ∀ {us : List Value} {xs : List (List Int)}, OwnAll w base us xs → ∀ u, u ∈ us → ∀ b, u.ownBlock = some b → b < w.heap.size
  | [], [], _, u, hu, _, _ => by cases hu
  | _ :: _, _ :: _, ⟨h1, h2⟩, u, hu, b, hb => by
    rcases List.mem_cons.1 hu with rfl | hu
    · exact (h1.lt b hb).2
    · exact OwnAll.lt h2 u hu b hb

def nums (P : List Nat) : List Value := (P.map (fun (k : Nat) => (k : Int))).map (Value.int .i64)

/-- Spots, rows, and where each bell stands, as they lie. -/
structure SRel (wa wr : World) (n gw : Nat) (vsp vr : Value) (wh : List Int) (vs : List Value) (P : List Nat) (Q : List Pm) : Prop where
  spots : wr.ownsRow wa.heap.size 3 1 vsp P.length (nums P)
  wher : wr.ownsRow wa.heap.size 3 1 (.slice (some ⟨gw, 0, none⟩) n n) n (wh.map (Value.int .i64))
  rows : wr.ownsRow wa.heap.size 22 1 vr Q.length vs
  rowsAt : OwnAll wr wa.heap.size vs (Q.map (cut n))
  ap1 : vsp.ownBlock ≠ some gw
  ap2 : ∀ u, u ∈ vs → u.ownBlock ≠ some gw ∧ u.ownBlock ≠ vsp.ownBlock
  below : Below wa.heap.size wa wr

theorem SRel.later {wa wr w' : World} {n gw : Nat} {vsp vr : Value} {wh : List Int} {vs : List Value} {P : List Nat} {Q : List Pm} (h : SRel wa wr n gw vsp vr wh vs P Q) (hb : Below wr.heap.size wr w') : SRel wa w' n gw vsp vr wh vs P Q :=
  ⟨owns_below h.spots hb (Nat.le_refl _), owns_below h.wher hb (Nat.le_refl _), owns_below h.rows hb (Nat.le_refl _), h.rowsAt.mono (fun _ _ _ h' => owns_below h' hb (Nat.le_refl _)), h.ap1, h.ap2, h.below.trans (hb.mono h.below.size)⟩

theorem SRel.alloc {wa wr : World} {n gw : Nat} {vsp vr : Value} {wh : List Int} {vs : List Value} {P : List Nat} {Q : List Pm} (h : SRel wa wr n gw vsp vr wh vs P Q) (o : Obj) : SRel wa (wr.alloc o) n gw vsp vr wh vs P Q :=
  h.later ((Below.refl _ _).alloc (Nat.le_refl _) o)

theorem SRel.mark {wa wr : World} {n gw : Nat} {vsp vr : Value} {wh : List Int} {vs : List Value} {P : List Nat} {Q : List Pm} (h : SRel wa wr n gw vsp vr wh vs P Q) (q : Nat) (y : Int) : SRel wa (wr.setCell ⟨gw, q, none⟩ (.int .i64 y)) n gw vsp vr (wh.set q y) vs P Q :=
  ⟨owns_of_block h.spots (fun b hb => heap_setCell_ne wr gw q _ (fun e => h.ap1 (by rw [hb, e]))), owns_set_int h.wher y, owns_of_block h.rows (fun b hb => heap_setCell_ne wr gw q _ (fun e => owns_ty_ne h.wher h.rows hb gw rfl e.symm)),
    h.rowsAt.mono_mem (fun u _ _ hu h' => owns_of_block h' (fun b hb => heap_setCell_ne wr gw q _ (fun e => (h.ap2 u hu).1 (by rw [hb, e])))), h.ap1, h.ap2, h.below.setCell (h.wher.lt gw rfl).1 _⟩

theorem SRel.spot {wa wr w' : World} {n gw q : Nat} {vsp vr v' : Value} {wh : List Int} {vs : List Value} {P : List Nat} {Q : List Pm} (h : SRel wa wr n gw vsp vr wh vs P Q) (hown : w'.ownsRow wa.heap.size 3 1 v' (P.length + 1) (nums P ++ [.int .i64 (q : Int)])) (hg : wr.grownBy w' vsp.ownBlock)
    (hp : v'.ownBlock = vsp.ownBlock ∨ (v'.ownBlock = some wr.heap.size ∧ wr.grownBy w' none)) : SRel wa w' n gw v' vr wh vs (P ++ [q]) Q := by
  refine ⟨?_, owns_row_kept h.wher (Or.inl (fun e => h.ap1 e.symm)) hg, ?_, ?_, ?_, ?_, h.below.grown hg h.below.size (fun g' hg' => (h.spots.lt g' hg').1)⟩
  · rw [List.length_append]
    unfold nums at hown ⊢
    rw [List.map_append, List.map_append]
    exact hown
  · exact owns_row_kept h.rows (by
      by_cases e : vr.ownBlock = none
      · exact Or.inr e
      · refine Or.inl (fun e' => ?_)
        cases hb : vr.ownBlock with
        | none => exact e hb
        | some b => exact owns_ty_ne h.spots h.rows hb b (by rw [← e', hb]) rfl) hg
  · exact h.rowsAt.mono_mem (fun u _ _ hu h' => owns_row_kept h' (Or.inl (h.ap2 u hu).2) hg)
  · intro e
    rcases hp with hp | ⟨hp, _⟩
    · exact h.ap1 (hp.symm.trans e)
    · rw [e] at hp
      injection hp with hp
      have := (h.wher.lt gw rfl).2
      omega
  · intro u hu
    refine ⟨(h.ap2 u hu).1, fun e => ?_⟩
    rcases hp with hp | ⟨hp, _⟩
    · exact (h.ap2 u hu).2 (e.trans hp)
    · have := OwnAll.lt h.rowsAt u hu wr.heap.size (e.trans hp)
      omega

theorem SRel.row {wa wr w' : World} {n gw : Nat} {vsp vr v' u : Value} {wh : List Int} {vs : List Value} {P : List Nat} {Q : List Pm} {x : Pm} (h : SRel wa wr n gw vsp vr wh vs P Q) (hown : w'.ownsRow wa.heap.size 22 1 v' (Q.length + 1) (vs ++ [u])) (hg : wr.grownBy w' vr.ownBlock)
    (hu : wr.ownsRow wa.heap.size 3 1 u (cut n x).length ((cut n x).map (Value.int .i64))) (hu1 : u.ownBlock ≠ some gw) (hu2 : u.ownBlock ≠ vsp.ownBlock) : SRel wa w' n gw vsp v' wh (vs ++ [u]) P (Q ++ [x]) := by
  refine ⟨owns_kept_ty h.spots h.rows hg, owns_kept_ty h.wher h.rows hg, by rw [List.length_append]; exact hown, ?_, h.ap1, ?_, h.below.grown hg h.below.size (fun g' hg' => (h.rows.lt g' hg').1)⟩
  · rw [List.map_append]
    exact OwnAll.snoc (owns_kept_ty hu h.rows hg) (h.rowsAt.mono (fun _ _ _ h' => owns_kept_ty h' h.rows hg))
  · intro y hy
    rcases List.mem_append.1 hy with hy | hy
    · exact h.ap2 y hy
    · rw [List.mem_singleton.1 hy]; exact ⟨hu1, hu2⟩

theorem SRel.other {wa wr w' : World} {n gw m : Nat} {vsp vr v : Value} {wh : List Int} {vs ys : List Value} {P : List Nat} {Q : List Pm} (h : SRel wa wr n gw vsp vr wh vs P Q) (h2 : wr.ownsRow wa.heap.size 22 1 v m ys) (hne : v.ownBlock ≠ vr.ownBlock) (hg : wr.grownBy w' v.ownBlock) : SRel wa w' n gw vsp vr wh vs P Q :=
  ⟨owns_kept_ty h.spots h2 hg, owns_kept_ty h.wher h2 hg, owns_row_kept h.rows (Or.inl (fun e => hne e.symm)) hg, h.rowsAt.mono (fun _ _ _ h' => owns_kept_ty h' h2 hg), h.ap1, h.ap2, h.below.grown hg h.below.size (fun g' hg' => (h2.lt g' hg').1)⟩

theorem below_drewN (w : World) (k : Nat) : Below w.heap.size w (w.drewN k) := ⟨rfl, rfl, rfl, Nat.le_refl _, fun _ _ => rfl⟩
theorem below_drew (w : World) : Below w.heap.size w w.drew := ⟨rfl, rfl, rfl, Nat.le_refl _, fun _ _ => rfl⟩

theorem SRel.start {wr w1 w2 : World} {n k g0 c0 : Nat} (h12 : n ≤ 12) (ho : w1.ownsRow (wr.heap.size + 1) 3 1 (.slice (some ⟨g0, 0, none⟩) n c0) n ((rnd n).map (Value.int .i64))) (hb1 : Below (wr.heap.size + 1) (wr.alloc (.cells #[.int .i64 (k : Int)] 3)) w1)
    (hown2 : w2.ownsRow wr.heap.size 3 1 (.slice (some ⟨w1.heap.size + 1, 0, none⟩) n n) n ((List.replicate n (0 : Int)).map (Value.int .i64))) (hg2 : (w1.alloc (.cells #[.slice (some ⟨g0, 0, none⟩) n c0] 22)).grownBy w2 none) :
    SRel wr w2 n (w1.heap.size + 1) (.slice (some ⟨wr.heap.size, 0, none⟩) 1 1) (.slice (some ⟨w1.heap.size, 0, none⟩) 1 1) (List.replicate n 0) [.slice (some ⟨g0, 0, none⟩) n c0] [k] [1] := by
  have hs1 : wr.heap.size + 1 ≤ w1.heap.size := by have := hb1.size; simp at this; omega
  have hb1' : Below wr.heap.size wr w1 := ((Below.refl _ _).alloc (Nat.le_refl _) _).trans (hb1.mono (by omega))
  have hba : Below w1.heap.size w1 (w1.alloc (.cells #[.slice (some ⟨g0, 0, none⟩) n c0] 22)) := (Below.refl _ _).alloc (Nat.le_refl _) _
  have hb2 : Below w1.heap.size w1 w2 := hba.grown hg2 (by simp) (fun k h => by cases h)
  have hg2' : Below (w1.heap.size + 1) (w1.alloc (.cells #[.slice (some ⟨g0, 0, none⟩) n c0] 22)) w2 := (Below.refl _ _).grown hg2 (by simp) (fun k h => by cases h)
  have hcut : cut n 1 = rnd n := by rw [← pad_rnd h12, cut_pad h12 (rnd_length n) (isRow_rnd n)]
  have hg0 := (ho.lt g0 rfl)
  refine ⟨?_, hown2, ?_, ⟨?_, trivial⟩, ?_, ?_, hb1'.trans (hb2.mono (by omega))⟩
  · have h := World.ownsRow_lit (base := wr.heap.size) (e := 3) (size := 1) wr #[.int .i64 (k : Int)] 1 (Nat.le_refl _) (by decide) (by simp)
    have h' := owns_below h hb1 (by simp)
    exact owns_below h' hb2 (Nat.le_refl _)
  · have h := World.ownsRow_lit (base := wr.heap.size) (e := 22) (size := 1) w1 #[.slice (some ⟨g0, 0, none⟩) n c0] 1 (by omega) (by decide) (by simp)
    exact owns_below h hg2' (by simp)
  · rw [hcut, rnd_length]
    exact owns_below (owns_base ho (by omega)) hb2 (Nat.le_refl _)
  · intro e
    have e' : wr.heap.size = w1.heap.size + 1 := Option.some.inj e
    omega
  · intro u hu
    rw [List.mem_singleton.1 hu]
    refine ⟨fun e => ?_, fun e => ?_⟩
    · have e' : g0 = w1.heap.size + 1 := Option.some.inj e
      omega
    · have e' : g0 = wr.heap.size := Option.some.inj e
      omega

theorem nums_at {w : World} {B g cap i : Nat} {P : List Nat} {N : Nat} (h : w.ownsRow B 3 1 (.slice (some ⟨g, 0, none⟩) N cap) N (nums P)) {b : Nat} (hb : P[i]? = some b) : w.cell? ⟨g, i, none⟩ = some (.int .i64 (b : Int)) := by
  have hi : i < P.length := (List.getElem?_eq_some_iff.1 hb).1
  have hl : P.length = N := by have := h.1; unfold nums at this; simpa using this
  have := owns_val h (j := i) (by omega)
  rw [this]
  unfold nums
  rw [List.getD, List.getElem?_map, List.getElem?_map, hb]
  rfl

theorem Ints.nth {w : World} {v : Value} {X : List Int} {n : Nat} (h : Ints w v X) (hl : X.length = n) (h1 : 1 ≤ n) : ∃ b o c, v = .slice (some ⟨b, o, none⟩) n c ∧ b < w.heap.size ∧ n ≤ c ∧ ∀ j, j < n → w.cell? ⟨b, o + j, none⟩ = some (.int .i64 (X.getD j 0)) := by
  rcases h with ⟨rfl, p, c, _⟩ | ⟨b, o, cap, e, h0, hc, hm, hb, hcell⟩
  · simp at hl; omega
  · exact ⟨b, o, cap, by rw [e, hl], hb, by omega, fun j hj => hcell j (by omega)⟩

theorem IntsAll.nth {w : World} {p : Option Addr} {N c : Nat} {gss : List (List Int)} (h : IntsAll w (.slice p N c) gss) {j n : Nat} {X : List Int} (hX : gss[j]? = some X) (hl : X.length = n) (h1 : 1 ≤ n) :
    ∃ b0 o0, p = some ⟨b0, o0, none⟩ ∧ b0 < w.heap.size ∧ N ≤ c ∧ N = gss.length ∧ ∃ b o cx, w.cell? ⟨b0, o0 + j, none⟩ = some (.slice (some ⟨b, o, none⟩) n cx) ∧ Hid (Ints w (.slice (some ⟨b, o, none⟩) n cx) X) ∧ b < w.heap.size ∧ n ≤ cx ∧ Hid (∀ i, i < n → w.cell? ⟨b, o + i, none⟩ = some (.int .i64 (X.getD i 0))) := by
  obtain ⟨us, hus, hul, hue⟩ := h
  have hj : j < gss.length := (List.getElem?_eq_some_iff.1 hX).1
  rcases hus with ⟨rfl, _⟩ | ⟨b0, o0, c', hv, _, hc, _, hb, hcell⟩
  · simp at hul; omega
  · injection hv with e1 e2 e3
    have hi := hue j hj
    have eX : gss.getD j [] = X := by rw [List.getD, hX]; rfl
    rw [eX] at hi
    obtain ⟨b, o, cx, e, h4, h5, h6⟩ := hi.nth hl h1
    rw [e] at hi
    exact ⟨b0, o0, e1, hb, by omega, by omega, b, o, cx, by rw [hcell j (by omega), e], hi, h4, h5, h6⟩

end Go.Proofs.Ytbddhpbeekioiaa
