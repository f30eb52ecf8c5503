/- Joined: Siz, SizW, RSay, TgA, IAl. -/
import Derived.Test.YtimfoggjocajiaaJ11
import Derived.Deep.QuietTactic
import Derived.Test.YtimfoggjocajiaaJ6
import Derived.Test.YtimfoggjocajiaaJ7
import Derived.Test.YtimfoggjocajiaaJ10
import Derived.Test.YtimfoggjocajiaaJ5
/- Sizes: what is found in one round, and where it lies. -/
namespace Go.Proofs.Ytimfoggjocajiaa
open Go.RowKit

/-- Where each bell stands among the spots, counted from 1; 0: nowhere. -/
def WhereOk (n : Nat) (T : List (Nat × Pm)) (wh : List Int) : Prop :=
  wh.length = n ∧ ∀ q, q < n → (wh.getD q 0 = 0 ∧ ¬ q ∈ T.map (·.1)) ∨ ∃ i e, T[i]? = some e ∧ e.1 = q ∧ wh.getD q 0 = ((i + 1 : Nat) : Int)

theorem WhereOk.start {n k : Nat} (hk : k < n) : WhereOk n [(k, 1)] ((List.replicate n (0 : Int)).set k 1) := by
  refine ⟨by simp, fun q hq => ?_⟩
  rw [getD_set (by simp; exact hk)]
  by_cases e : k = q
  · right
    exact ⟨0, (k, 1), rfl, e, by rw [if_pos e]; rfl⟩
  · left
    rw [if_neg e]
    exact ⟨by simp [List.getD, hq], by simp; omega⟩

theorem WhereOk.more {n q : Nat} {T : List (Nat × Pm)} {wh : List Int} (h : WhereOk n T wh) (hq : q < n) (x : Pm) : WhereOk n (T ++ [(q, x)]) (wh.set q ((T.length : Int) + 1)) := by
  refine ⟨by rw [List.length_set]; exact h.1, fun p hp => ?_⟩
  rw [getD_set (by rw [h.1]; exact hq)]
  by_cases e : q = p
  · right
    exact ⟨T.length, (q, x), by simp, e, by rw [if_pos e]; omega⟩
  · rw [if_neg e]
    rcases h.2 p hp with ⟨h1, h2⟩ | ⟨i, e', h1, h2, h3⟩
    · left
      refine ⟨h1, fun hm => ?_⟩
      rw [List.map_append] at hm
      rcases List.mem_append.1 hm with hm | hm
      · exact h2 hm
      · have epq : p = q := by simpa using hm
        exact e epq.symm
    · right
      exact ⟨i, e', by rw [List.getElem?_append_left (List.getElem?_eq_some_iff.1 h1).1]; exact h1, h2, h3⟩

/-- Rows that leave the place, of the spots ahead of i, and of spot i by the generators ahead of j. -/
structure StillTo (n : Nat) (gss : List (List Int)) (T : List (Nat × Pm)) (i j : Nat) (yss : List (List Int)) : Prop where
  rows : ∀ Y, Y ∈ yss → isRow Y ∧ Y.length = n ∧ Sch (fun y => y ∈ gss.map pad) T (pad Y)
  all : ∀ k l e X e', (k < i ∨ (k = i ∧ l < j)) → T[k]? = some e → gss[l]? = some X → e' ∈ T → e'.1 = (pad X).act e.1 → e'.2⁻¹ * (pad X * e.2) ∈ yss.map pad
  len : yss.length = i * gss.length + j

theorem StillTo.start (n : Nat) (gss : List (List Int)) (T : List (Nat × Pm)) : StillTo n gss T 0 0 [] :=
  ⟨fun Y h => (by cases h), fun k l e X e' h => (by omega), (by simp)⟩

theorem StillTo.step {n : Nat} {gss : List (List Int)} {T : List (Nat × Pm)} {i j : Nat} {yss : List (List Int)} (h : StillTo n gss T i j yss) (hT : (T.map (·.1)).Nodup) {e e' : Nat × Pm} {X Y : List Int} (he : T[i]? = some e) (hX : gss[j]? = some X) (he' : e' ∈ T) (h1 : e'.1 = (pad X).act e.1) (hY : isRow Y) (hl : Y.length = n) (hp : pad Y = e'.2⁻¹ * (pad X * e.2)) : StillTo n gss T i (j + 1) (yss ++ [Y]) := by
  refine ⟨fun Z hZ => ?_, fun k l f Z f' hk hf hZ hf' h2 => ?_, by rw [List.length_append, h.len]; simp; omega⟩
  · rcases List.mem_append.1 hZ with hZ | hZ
    · exact h.rows Z hZ
    · rw [List.mem_singleton.1 hZ]
      exact ⟨hY, hl, pad X, List.mem_map.2 ⟨X, List.mem_of_getElem? hX, rfl⟩, e, List.mem_of_getElem? he, e', he', h1, hp⟩
  · rw [List.map_append]
    by_cases hc : k < i ∨ (k = i ∧ l < j)
    · exact List.mem_append_left _ (h.all k l f Z f' hc hf hZ hf' h2)
    · have hk' : k = i := by omega
      have hl' : l = j := by omega
      subst hk'; subst hl'
      rw [he] at hf
      rw [hX] at hZ
      obtain rfl := Option.some.inj hf
      obtain rfl := Option.some.inj hZ
      have : f'.2 = e'.2 := tab_eq hT (b := e'.1) (by rw [h1, ← h2]; exact hf') he'
      rw [this, ← hp]
      exact List.mem_append_right _ (by simp)

theorem StillTo.next {n : Nat} {gss : List (List Int)} {T : List (Nat × Pm)} {i : Nat} {yss : List (List Int)} (h : StillTo n gss T i gss.length yss) : StillTo n gss T (i + 1) 0 yss := by
  refine ⟨h.rows, fun k l e X e' hk he hX he' h1 => ?_, by rw [h.len, Nat.succ_mul]; omega⟩
  have hl := (List.getElem?_eq_some_iff.1 hX).1
  exact h.all k l e X e' (by omega) he hX he' h1

theorem StillTo.gen {n : Nat} {gss : List (List Int)} {T : List (Nat × Pm)} {yss : List (List Int)} (h : StillTo n gss T T.length 0 yss) (x : Pm) : Gen (fun y => y ∈ yss.map pad) x ↔ Gen (Sch (fun y => y ∈ gss.map pad) T) x := by
  constructor
  · refine Gen.mono (fun y hy => ?_)
    obtain ⟨Y, hY, rfl⟩ := List.mem_map.1 hy
    exact (h.rows Y hY).2.2
  · refine Gen.mono (fun y hy => ?_)
    obtain ⟨s, hs, e, he, e', he', h1, rfl⟩ := hy
    obtain ⟨X, hX, rfl⟩ := List.mem_map.1 hs
    obtain ⟨k, hk, ek⟩ := List.getElem_of_mem he
    obtain ⟨l, hl, el⟩ := List.getElem_of_mem hX
    exact h.all k l e X e' (Or.inl hk) (by rw [List.getElem?_eq_getElem hk, ek]) (by rw [List.getElem?_eq_getElem hl, el]) he' h1

/-- The spots ahead of i are gone through, and spot i by the generators ahead of j. -/
def OrbTo (gss : List (List Int)) (T : List (Nat × Pm)) (i j : Nat) : Prop :=
  ∀ k l e X, (k < i ∨ (k = i ∧ l < j)) → T[k]? = some e → gss[l]? = some X → (pad X).act e.1 ∈ T.map (·.1)

theorem OrbTo.start (gss : List (List Int)) (T : List (Nat × Pm)) : OrbTo gss T 0 0 := fun k l e X h => by omega

theorem OrbTo.old {gss : List (List Int)} {T : List (Nat × Pm)} {i j : Nat} (h : OrbTo gss T i j) {e : Nat × Pm} {X : List Int} (he : T[i]? = some e) (hX : gss[j]? = some X) (hm : (pad X).act e.1 ∈ T.map (·.1)) : OrbTo gss T i (j + 1) := by
  intro k l f Z hk hf hZ
  by_cases hc : k < i ∨ (k = i ∧ l < j)
  · exact h k l f Z hc hf hZ
  · have hk' : k = i := by omega
    have hl' : l = j := by omega
    subst hk'; subst hl'
    rw [he] at hf
    rw [hX] at hZ
    obtain rfl := Option.some.inj hf
    obtain rfl := Option.some.inj hZ
    exact hm

theorem OrbTo.grow {gss : List (List Int)} {T : List (Nat × Pm)} {i j : Nat} (h : OrbTo gss T i j) (hi : i < T.length) (a : Nat × Pm) : OrbTo gss (T ++ [a]) i j := by
  intro k l f Z hk hf hZ
  rw [List.getElem?_append_left (by omega)] at hf
  rw [List.map_append]
  exact List.mem_append_left _ (h k l f Z hk hf hZ)

theorem OrbTo.next {gss : List (List Int)} {T : List (Nat × Pm)} {i : Nat} (h : OrbTo gss T i gss.length) : OrbTo gss T (i + 1) 0 := by
  intro k l f Z hk hf hZ
  have hl := (List.getElem?_eq_some_iff.1 hZ).1
  exact h k l f Z (by omega) hf hZ

theorem OrbTo.done {gss : List (List Int)} {T : List (Nat × Pm)} (h : OrbTo gss T T.length 0) : OrbsDone (fun y => y ∈ gss.map pad) T := by
  intro s hs e he
  obtain ⟨X, hX, rfl⟩ := List.mem_map.1 hs
  obtain ⟨k, hk, ek⟩ := List.getElem_of_mem he
  obtain ⟨l, hl, el⟩ := List.getElem_of_mem hX
  exact h k l e X (Or.inl hk) (by rw [List.getElem?_eq_getElem hk, ek]) (by rw [List.getElem?_eq_getElem hl, el])

theorem OwnAll.mono_mem {w w' : World} {base : Nat} : ∀ {us : List Value} {xs : List (List Int)}, (∀ u n xs, u ∈ us → w.ownsRow base 3 1 u n xs → w'.ownsRow base 3 1 u n xs) → OwnAll w base us xs → OwnAll w' base us xs
  | [], [], _, _ => trivial
  | _ :: _, _ :: _, h, ⟨h1, h2⟩ => ⟨h _ _ _ (by simp) h1, OwnAll.mono_mem (fun u n xs hu h' => h u n xs (by simp [hu]) h') h2⟩

theorem OwnAll.lt {w : World} {base : Nat} : ∀ {us : List Value} {xs : List (List Int)}, OwnAll w base us xs → ∀ u, u ∈ us → ∀ b, u.ownBlock = some b → b < w.heap.size
  | [], [], _, u, hu, _, _ => by cases hu
  | _ :: _, _ :: _, ⟨h1, h2⟩, u, hu, b, hb => by
    rcases List.mem_cons.1 hu with rfl | hu
    · exact (h1.lt b hb).2
    · exact OwnAll.lt h2 u hu b hb

def nums (P : List Nat) : List Value := (P.map (fun (k : Nat) => (k : Int))).map (Value.int .i64)

/-- Spots, rows, and where each bell stands, as they lie. -/
structure SRel (wa wr : World) (n gw : Nat) (vsp vr : Value) (wh : List Int) (vs : List Value) (P : List Nat) (Q : List Pm) : Prop where
  spots : wr.ownsRow wa.heap.size 3 1 vsp P.length (nums P)
  wher : wr.ownsRow wa.heap.size 3 1 (.slice (some ⟨gw, 0, none⟩) n n) n (wh.map (Value.int .i64))
  rows : wr.ownsRow wa.heap.size 23 1 vr Q.length vs
  rowsAt : OwnAll wr wa.heap.size vs (Q.map (cut n))
  ap1 : vsp.ownBlock ≠ some gw
  ap2 : ∀ u, u ∈ vs → u.ownBlock ≠ some gw ∧ u.ownBlock ≠ vsp.ownBlock
  below : Below wa.heap.size wa wr

theorem SRel.later {wa wr w' : World} {n gw : Nat} {vsp vr : Value} {wh : List Int} {vs : List Value} {P : List Nat} {Q : List Pm} (h : SRel wa wr n gw vsp vr wh vs P Q) (hb : Below wr.heap.size wr w') : SRel wa w' n gw vsp vr wh vs P Q :=
  ⟨owns_below h.spots hb (Nat.le_refl _), owns_below h.wher hb (Nat.le_refl _), owns_below h.rows hb (Nat.le_refl _), h.rowsAt.mono (fun _ _ _ h' => owns_below h' hb (Nat.le_refl _)), h.ap1, h.ap2, h.below.trans (hb.mono h.below.size)⟩

theorem SRel.alloc {wa wr : World} {n gw : Nat} {vsp vr : Value} {wh : List Int} {vs : List Value} {P : List Nat} {Q : List Pm} (h : SRel wa wr n gw vsp vr wh vs P Q) (o : Obj) : SRel wa (wr.alloc o) n gw vsp vr wh vs P Q :=
  h.later ((Below.refl _ _).alloc (Nat.le_refl _) o)

theorem SRel.mark {wa wr : World} {n gw : Nat} {vsp vr : Value} {wh : List Int} {vs : List Value} {P : List Nat} {Q : List Pm} (h : SRel wa wr n gw vsp vr wh vs P Q) (q : Nat) (y : Int) : SRel wa (wr.setCell ⟨gw, q, none⟩ (.int .i64 y)) n gw vsp vr (wh.set q y) vs P Q :=
  ⟨owns_of_block h.spots (fun b hb => heap_setCell_ne wr gw q _ (fun e => h.ap1 (by rw [hb, e]))), owns_set_int h.wher y, owns_of_block h.rows (fun b hb => heap_setCell_ne wr gw q _ (fun e => owns_ty_ne h.wher h.rows hb gw rfl e.symm)),
    h.rowsAt.mono_mem (fun u _ _ hu h' => owns_of_block h' (fun b hb => heap_setCell_ne wr gw q _ (fun e => (h.ap2 u hu).1 (by rw [hb, e])))), h.ap1, h.ap2, h.below.setCell (h.wher.lt gw rfl).1 _⟩

theorem SRel.spot {wa wr w' : World} {n gw q : Nat} {vsp vr v' : Value} {wh : List Int} {vs : List Value} {P : List Nat} {Q : List Pm} (h : SRel wa wr n gw vsp vr wh vs P Q) (hown : w'.ownsRow wa.heap.size 3 1 v' (P.length + 1) (nums P ++ [.int .i64 (q : Int)])) (hg : wr.grownBy w' vsp.ownBlock)
    (hp : v'.ownBlock = vsp.ownBlock ∨ (v'.ownBlock = some wr.heap.size ∧ wr.grownBy w' none)) : SRel wa w' n gw v' vr wh vs (P ++ [q]) Q := by
  refine ⟨?_, owns_row_kept h.wher (Or.inl (fun e => h.ap1 e.symm)) hg, ?_, ?_, ?_, ?_, h.below.grown hg h.below.size (fun g' hg' => (h.spots.lt g' hg').1)⟩
  · rw [List.length_append]
    unfold nums at hown ⊢
    rw [List.map_append, List.map_append]
    exact hown
  · exact owns_row_kept h.rows (by
      by_cases e : vr.ownBlock = none
      · exact Or.inr e
      · refine Or.inl (fun e' => ?_)
        cases hb : vr.ownBlock with
        | none => exact e hb
        | some b => exact owns_ty_ne h.spots h.rows hb b (by rw [← e', hb]) rfl) hg
  · exact h.rowsAt.mono_mem (fun u _ _ hu h' => owns_row_kept h' (Or.inl (h.ap2 u hu).2) hg)
  · intro e
    rcases hp with hp | ⟨hp, _⟩
    · exact h.ap1 (hp.symm.trans e)
    · rw [e] at hp
      injection hp with hp
      have := (h.wher.lt gw rfl).2
      omega
  · intro u hu
    refine ⟨(h.ap2 u hu).1, fun e => ?_⟩
    rcases hp with hp | ⟨hp, _⟩
    · exact (h.ap2 u hu).2 (e.trans hp)
    · have := OwnAll.lt h.rowsAt u hu wr.heap.size (e.trans hp)
      omega

theorem SRel.row {wa wr w' : World} {n gw : Nat} {vsp vr v' u : Value} {wh : List Int} {vs : List Value} {P : List Nat} {Q : List Pm} {x : Pm} (h : SRel wa wr n gw vsp vr wh vs P Q) (hown : w'.ownsRow wa.heap.size 23 1 v' (Q.length + 1) (vs ++ [u])) (hg : wr.grownBy w' vr.ownBlock)
    (hu : wr.ownsRow wa.heap.size 3 1 u (cut n x).length ((cut n x).map (Value.int .i64))) (hu1 : u.ownBlock ≠ some gw) (hu2 : u.ownBlock ≠ vsp.ownBlock) : SRel wa w' n gw vsp v' wh (vs ++ [u]) P (Q ++ [x]) := by
  refine ⟨owns_kept_ty h.spots h.rows hg, owns_kept_ty h.wher h.rows hg, by rw [List.length_append]; exact hown, ?_, h.ap1, ?_, h.below.grown hg h.below.size (fun g' hg' => (h.rows.lt g' hg').1)⟩
  · rw [List.map_append]
    exact OwnAll.snoc (owns_kept_ty hu h.rows hg) (h.rowsAt.mono (fun _ _ _ h' => owns_kept_ty h' h.rows hg))
  · intro y hy
    rcases List.mem_append.1 hy with hy | hy
    · exact h.ap2 y hy
    · rw [List.mem_singleton.1 hy]; exact ⟨hu1, hu2⟩

theorem SRel.other {wa wr w' : World} {n gw m : Nat} {vsp vr v : Value} {wh : List Int} {vs ys : List Value} {P : List Nat} {Q : List Pm} (h : SRel wa wr n gw vsp vr wh vs P Q) (h2 : wr.ownsRow wa.heap.size 23 1 v m ys) (hne : v.ownBlock ≠ vr.ownBlock) (hg : wr.grownBy w' v.ownBlock) : SRel wa w' n gw vsp vr wh vs P Q :=
  ⟨owns_kept_ty h.spots h2 hg, owns_kept_ty h.wher h2 hg, owns_row_kept h.rows (Or.inl (fun e => hne e.symm)) hg, h.rowsAt.mono (fun _ _ _ h' => owns_kept_ty h' h2 hg), h.ap1, h.ap2, h.below.grown hg h.below.size (fun g' hg' => (h2.lt g' hg').1)⟩

theorem below_dW (w : World) (k : Nat) : Below w.heap.size w (w.drewN k) := ⟨rfl, rfl, rfl, Nat.le_refl _, fun _ _ => rfl⟩
theorem below_drew (w : World) : Below w.heap.size w w.drew := ⟨rfl, rfl, rfl, Nat.le_refl _, fun _ _ => rfl⟩

theorem SRel.start {wr w1 w2 : World} {n k g0 c0 : Nat} (h12 : n ≤ 12) (ho : w1.ownsRow (wr.heap.size + 1) 3 1 (.slice (some ⟨g0, 0, none⟩) n c0) n ((rnd n).map (Value.int .i64))) (hb1 : Below (wr.heap.size + 1) (wr.alloc (.cells #[.int .i64 (k : Int)] 3)) w1)
    (hown2 : w2.ownsRow wr.heap.size 3 1 (.slice (some ⟨w1.heap.size + 1, 0, none⟩) n n) n ((List.replicate n (0 : Int)).map (Value.int .i64))) (hg2 : (w1.alloc (.cells #[.slice (some ⟨g0, 0, none⟩) n c0] 23)).grownBy w2 none) :
    SRel wr w2 n (w1.heap.size + 1) (.slice (some ⟨wr.heap.size, 0, none⟩) 1 1) (.slice (some ⟨w1.heap.size, 0, none⟩) 1 1) (List.replicate n 0) [.slice (some ⟨g0, 0, none⟩) n c0] [k] [1] := by
  have hs1 : wr.heap.size + 1 ≤ w1.heap.size := by have := hb1.size; simp at this; omega
  have hb1' : Below wr.heap.size wr w1 := ((Below.refl _ _).alloc (Nat.le_refl _) _).trans (hb1.mono (by omega))
  have hba : Below w1.heap.size w1 (w1.alloc (.cells #[.slice (some ⟨g0, 0, none⟩) n c0] 23)) := (Below.refl _ _).alloc (Nat.le_refl _) _
  have hb2 : Below w1.heap.size w1 w2 := hba.grown hg2 (by simp) (fun k h => by cases h)
  have hg2' : Below (w1.heap.size + 1) (w1.alloc (.cells #[.slice (some ⟨g0, 0, none⟩) n c0] 23)) w2 := (Below.refl _ _).grown hg2 (by simp) (fun k h => by cases h)
  have hcut : cut n 1 = rnd n := by rw [← pad_rnd h12, cut_pad h12 (rnd_length n) (isRow_rnd n)]
  have hg0 := (ho.lt g0 rfl)
  refine ⟨?_, hown2, ?_, ⟨?_, trivial⟩, ?_, ?_, hb1'.trans (hb2.mono (by omega))⟩
  · have h := World.ownsRow_lit (base := wr.heap.size) (e := 3) (size := 1) wr #[.int .i64 (k : Int)] 1 (Nat.le_refl _) (by decide) (by simp)
    have h' := owns_below h hb1 (by simp)
    exact owns_below h' hb2 (Nat.le_refl _)
  · have h := World.ownsRow_lit (base := wr.heap.size) (e := 23) (size := 1) w1 #[.slice (some ⟨g0, 0, none⟩) n c0] 1 (by omega) (by decide) (by simp)
    exact owns_below h hg2' (by simp)
  · rw [hcut, rnd_length]
    exact owns_below (owns_base ho (by omega)) hb2 (Nat.le_refl _)
  · intro e
    have e' : wr.heap.size = w1.heap.size + 1 := Option.some.inj e
    omega
  · intro u hu
    rw [List.mem_singleton.1 hu]
    refine ⟨fun e => ?_, fun e => ?_⟩
    · have e' : g0 = w1.heap.size + 1 := Option.some.inj e
      omega
    · have e' : g0 = wr.heap.size := Option.some.inj e
      omega

theorem nums_at {w : World} {B g cap i : Nat} {P : List Nat} {N : Nat} (h : w.ownsRow B 3 1 (.slice (some ⟨g, 0, none⟩) N cap) N (nums P)) {b : Nat} (hb : P[i]? = some b) : w.cell? ⟨g, i, none⟩ = some (.int .i64 (b : Int)) := by
  have hi : i < P.length := (List.getElem?_eq_some_iff.1 hb).1
  have hl : P.length = N := by have := h.1; unfold nums at this; simpa using this
  have := owns_val h (j := i) (by omega)
  rw [this]
  unfold nums
  rw [List.getD, List.getElem?_map, List.getElem?_map, hb]
  rfl

theorem Ints.nth {w : World} {v : Value} {X : List Int} {n : Nat} (h : Ints w v X) (hl : X.length = n) (h1 : 1 ≤ n) : ∃ b o c, v = .slice (some ⟨b, o, none⟩) n c ∧ b < w.heap.size ∧ n ≤ c ∧ ∀ j, j < n → w.cell? ⟨b, o + j, none⟩ = some (.int .i64 (X.getD j 0)) := by
  rcases h with ⟨rfl, p, c, _⟩ | ⟨b, o, cap, e, h0, hc, hm, hb, hcell⟩
  · simp at hl; omega
  · exact ⟨b, o, cap, by rw [e, hl], hb, by omega, fun j hj => hcell j (by omega)⟩

theorem IntsAll.nth {w : World} {p : Option Addr} {N c : Nat} {gss : List (List Int)} (h : IntsAll w (.slice p N c) gss) {j n : Nat} {X : List Int} (hX : gss[j]? = some X) (hl : X.length = n) (h1 : 1 ≤ n) :
    ∃ b0 o0, p = some ⟨b0, o0, none⟩ ∧ b0 < w.heap.size ∧ N ≤ c ∧ N = gss.length ∧ ∃ b o cx, w.cell? ⟨b0, o0 + j, none⟩ = some (.slice (some ⟨b, o, none⟩) n cx) ∧ Hid (Ints w (.slice (some ⟨b, o, none⟩) n cx) X) ∧ b < w.heap.size ∧ n ≤ cx ∧ Hid (∀ i, i < n → w.cell? ⟨b, o + i, none⟩ = some (.int .i64 (X.getD i 0))) := by
  obtain ⟨us, hus, hul, hue⟩ := h
  have hj : j < gss.length := (List.getElem?_eq_some_iff.1 hX).1
  rcases hus with ⟨rfl, _⟩ | ⟨b0, o0, c', hv, _, hc, _, hb, hcell⟩
  · simp at hul; omega
  · injection hv with e1 e2 e3
    have hi := hue j hj
    have eX : gss.getD j [] = X := by rw [List.getD, hX]; rfl
    rw [eX] at hi
    obtain ⟨b, o, cx, e, h4, h5, h6⟩ := hi.nth hl h1
    rw [e] at hi
    exact ⟨b0, o0, e1, hb, by omega, by omega, b, o, cx, by rw [hcell j (by omega), e], hi, h4, h5, h6⟩

end Go.Proofs.Ytimfoggjocajiaa

/- Contract: Sizes, the answer's own: the walk. -/
namespace Go.Proofs.Ytimfoggjocajiaa
open Go.RowKit

set_option maxRecDepth 20000 in
set_option maxHeartbeats 8000000 in
theorem sizes_ok (n : Nat) (v : Value) (xss : List (List Int)) (w : World) (h : IntsAll w v xss) (hr : RowsN n xss) (h1 : 1 ≤ n) (h12 : n ≤ 12) (hx : xss.length ≤ 144) :
    Calls Try.prog 17 #[.int .i64 n, v] w fun e w' => e = .returned (.int .i64 ((sz (Gen (fun y => y ∈ xss.map pad)) n : Nat) : Int)) ∧ Below w.heap.size w w' := by
  obtain ⟨i0, hi, hz0, hz1, hz2⟩ := info_parts Try.info23
  obtain ⟨j0, hji, hjz0, hjz1, hjz2⟩ := info_parts Try.info3
  obtain ⟨G, hG⟩ : ∃ G, G = Gen (fun y => y ∈ xss.map pad) := ⟨_, rfl⟩
  have HG0 := hide hG
  have HA := hide h
  have HR := hide hr
  rw [← hG]
  clear h hr hG
  go_enter Try.func17, Try.ntmps17
  go_wp2
  go_loopw [1, 5, 6] (fun u1 u5 u6 wr => ∃ (k : Nat) (gss : List (List Int)), k ≤ n ∧ u6 = .int .i64 k ∧ u5 = .int .i64 ((sz G k : Nat) : Int) ∧ Hid (IntsAll wr u1 gss) ∧ Hid (RowsN n gss) ∧ gss.length ≤ 144 ∧ Hid (∀ x, Gen (fun y => y ∈ gss.map pad) x ↔ Low G k x) ∧ Below w.heap.size w wr) (fun _ _ u6 _ => n - (intOf u6).toNat)
  case atStart => exact ⟨0, xss, by omega, rfl, rfl, HA, HR, hx, fun x => by rw [HG0.out]; exact ⟨fun h => ⟨h, fun b hb => by omega⟩, fun h => h.1⟩, Below.refl _ _⟩
  case round =>
    clear HA HR
    obtain ⟨k, gss, hk, rfl, rfl, HA, HR, hgl, HGL, hbw⟩ := hrel
    have hbs := hbw.size
    have hszk := sz_le G k
    have hpow : 12 ^ k ≤ 12 ^ 12 := Nat.pow_le_pow_right (by omega) (by omega)
    have hsz2 : sz G k ≤ 8916100448256 := Nat.le_trans hszk (Nat.le_trans hpow (by decide))
    clear hszk hpow
    by_cases hlt : k < n
    · obtain ⟨p0, cap0, rfl⟩ : ∃ p c, u1 = .slice p gss.length c := by
        obtain ⟨vs, hv, hl, _⟩ := HA.out
        obtain ⟨p, c, e⟩ := hv.form
        exact ⟨p, c, by rw [e, hl]⟩
      obtain ⟨wa, hwa⟩ : ∃ wa : World, wa = wr := ⟨_, rfl⟩
      subst hwa
      go_wp2_with fail
      refine (rrounds_ok n _ (by omega)).mono ?_
      rintro ex w1 ⟨u0, rfl, ho, hb1⟩
      obtain ⟨g0, c0, rfl, hg0a, hg0b, _, _⟩ := owns_form ho h1
      have hsa : (wa.alloc (.cells #[.int .i64 (k : Int)] 3)).heap.size = wa.heap.size + 1 := by simp
      rw [hsa] at ho hb1
      have hs1 : wa.heap.size + 1 ≤ w1.heap.size := by have := hb1.size; rw [hsa] at this; exact this
      have HO := hide ho
      have HB1 := hide hb1
      clear ho hb1 hsa hg0a hg0b
      go_wp2_with (at_make; refine wpList_make_full _ rfl _ _ 23 rfl wa.heap.size 3 j0 (.int .i64 0) 1 Try.underlying23 hji hjz0 hjz1 _ _ _ _ n rfl rfl (by omega) (by omega) ?b2 ?b3 ?b4 ?_)
      case b2 => rw [hjz2]; omega
      case b3 => unfold maxLen; omega
      case b4 => simp; omega
      intro w2 hown2 hg2
      rw [made_ints] at hown2
      have hS0 := (SRel.start h12 HO.out HB1.out hown2 hg2).mark k 1
      obtain ⟨y0, hy0, hcy0, hfy0⟩ := owns_cellAt hown2 hlt
      have HS0 := hide hS0
      clear hown2 hg2 hS0 hy0 HO HB1
      go_wp2
      generalize w1.heap.size + 1 = gw at *
      clear hs1 hcy0 hfy0
      go_loopw [7, 8, 11] (fun u7 u8 u11 wr => ∃ (i : Nat) (wh : List Int) (vs : List Value) (T : List (Nat × Pm)), i ≤ T.length ∧ u11 = .int .i64 i ∧ Hid (SRel wa wr n gw u7 u8 wh vs (T.map (·.1)) (T.map (·.2))) ∧ Hid (WhereOk n T wh) ∧ Hid (Orbs (fun y => y ∈ gss.map pad) n k T) ∧ Hid (OrbTo gss T i 0)) (fun _ _ u11 _ => n - (intOf u11).toNat)
      case atStart => exact ⟨0, _, _, [(k, 1)], by omega, rfl, HS0, WhereOk.start hlt, Orbs.start hlt, OrbTo.start _ _⟩
      case round =>
        clear HS0
        obtain ⟨i, wh, vs, T, hiT, rfl, HS, HW, HO, HOT⟩ := hrel
        have hTl := HO.out.len
        have hT1 : 1 ≤ T.length := List.length_pos_of_mem HO.out.first
        have hsp := HS.out.spots
        rw [List.length_map] at hsp
        obtain ⟨gs, cs, rfl, hgsa, hgsb, hcsa, hcsb⟩ := owns_form hsp hT1
        by_cases hit : i < T.length
        · clear hsp
          go_wp2
          go_loopw [7, 8, 12] (fun u7 u8 u12 wr => ∃ (j : Nat) (wh : List Int) (vs : List Value) (T : List (Nat × Pm)), j ≤ gss.length ∧ u12 = .int .i64 j ∧ i < T.length ∧ Hid (SRel wa wr n gw u7 u8 wh vs (T.map (·.1)) (T.map (·.2))) ∧ Hid (WhereOk n T wh) ∧ Hid (Orbs (fun y => y ∈ gss.map pad) n k T) ∧ Hid (OrbTo gss T i j)) (fun _ _ u12 _ => gss.length - (intOf u12).toNat)
          case atStart => exact ⟨0, _, _, T, by omega, rfl, hit, HS, HW, HO, HOT⟩
          case round =>
            clear HS HW HO HOT hTl hT1 hgsa hgsb hcsa hcsb hit hiT
            obtain ⟨j, wh, vs, T, hj, rfl, hit, HS, HW, HO, HOT⟩ := hrel
            have hTl := HO.out.len
            have hsp := HS.out.spots
            rw [List.length_map] at hsp
            obtain ⟨gs, cs, rfl, hgsa, hgsb, hcsa, hcsb⟩ := owns_form hsp (by omega)
            have hrw := HS.out.rows
            rw [List.length_map] at hrw
            obtain ⟨gr, cr, rfl, hgra, hgrb, hcra, hcrb⟩ := owns_form hrw (by omega)
            have hba := HS.out.below
            have hbas := hba.size
            by_cases hjl : j < gss.length
            · obtain ⟨X, hX⟩ : ∃ X, gss[j]? = some X := ⟨_, List.getElem?_eq_getElem hjl⟩
              obtain ⟨e, he⟩ : ∃ e, T[i]? = some e := ⟨_, List.getElem?_eq_getElem hit⟩
              have hXm := List.mem_of_getElem? hX
              have hem := List.mem_of_getElem? he
              have hXr := HR.out X hXm
              have hel := HO.out.lt e hem
              obtain ⟨b0, o0, hpp, hb0a, hNc, _, _⟩ := HA.out.nth hX hXr.2 h1
              subst hpp
              obtain ⟨b0', o0', hpp', hb0, _, _, bx, ox, cx, hcx, hix, hbx, hncx, hXc⟩ := (HA.out.below hba).nth hX hXr.2 h1
              injection hpp' with hpp'
              injection hpp' with hp1 hp2
              subst hp1; subst hp2
              have hqd := pad_getD hXr.1 hXr.2 h12 hel
              have hqa := hXr.1.at (j := e.1) (by rw [hXr.2]; exact hel)
              rw [hqd, hXr.2] at hqa
              have hXe := hXc.out e.1 hel
              rw [hqd] at hXe
              obtain ⟨q, hqe⟩ : ∃ q, (pad X).act e.1 = q := ⟨_, rfl⟩
              rw [hqe] at hXe hqa
              have hqn : q < n := by omega
              have hce := nums_at hsp (i := i) (b := e.1) (by rw [List.getElem?_map, he]; rfl)
              have hER : ((T.map (·.2)).map (cut n))[i]? = some (cut n e.2) := by rw [List.getElem?_map, List.getElem?_map, he]; rfl
              obtain ⟨ue, hcr, hoe⟩ := word_at hrw HS.out.rowsAt hER (by rw [List.length_map, List.length_map])
              rw [cut_length h12] at hoe
              obtain ⟨ge, ce, rfl, hgea, hgeb, hcea, hceb⟩ := owns_form hoe h1
              obtain ⟨y, hy, hcy, hfy⟩ := owns_cellAt HS.out.wher hqn
              have hnx : Fixes (fun b => n ≤ b) (pad X) := pad_fixes h12 hXr.2 hXr.1
              have hef : Fixes (fun b => n ≤ b) e.2 := (HO.out.gen e hem).least (fixes_sub _) (fun s hs => by
                obtain ⟨Z, hZ, rfl⟩ := List.mem_map.1 hs
                exact pad_fixes h12 (HR.out Z hZ).2 (HR.out Z hZ).1)
              have HOE := hide hoe
              have HX := hide hX
              have HE := hide he
              have HEM := hide hem
              have HXM := hide hXm
              have HXR := hide hXr
              have HQ := hide hqe
              have HXF := hide hnx
              have HEF := hide hef
              clear hX he hXm hem hXr hqe hqd hqa hsp hrw hoe hER hXc hnx hef
              go_wp2
              go_quiet (fail)
              have hbd := below_dW wr nq
              have hS2 := HS.out.later hbd
              have HS2 := hide hS2
              have HIX := hide (hix.out.below hbd)
              have HOE2 := hide (owns_below HOE.out hbd (Nat.le_refl _))
              have hcy2 : (wr.drewN nq).cell? ⟨gw, q, none⟩ = some (.int .i64 y) := hcy
              have hfy2 : (wr.drewN nq).frozen? ⟨gw, q, none⟩ = false := hfy
              have hcx2 : (wr.drewN nq).cell? ⟨b0, o0 + j, none⟩ = some (.slice (some ⟨bx, ox, none⟩) n cx) := hcx
              have hcr2 : (wr.drewN nq).cell? ⟨gr, i, none⟩ = some (.slice (some ⟨ge, 0, none⟩) n ce) := hcr
              have HSZD : Hid ((wr.drewN nq).heap.size = wr.heap.size) := rfl
              clear hcy hfy hcx hcr hce hXe HS hix hbd hS2 HOE hba
              generalize wr.drewN nq = wd at *
              by_cases hin : q ∈ T.map (·.1)
              · have hyn : (y == 0) = false := by
                  rcases HW.out.2 q hqn with ⟨_, h2⟩ | ⟨i', e', _, _, h3⟩
                  · exact absurd hin h2
                  · rw [show wh.getD q 0 = y from hy.out] at h3
                    rw [h3, beq_eq_false_iff_ne]; omega
                have HOT2 := hide (HOT.out.old HE.out HX.out (by rw [HQ.out]; exact hin))
                clear hin hy
                go_wp2
                go_roundw
                case rel => exact ⟨j + 1, _, _, T, by omega, by go_num, hit, HS2, HW, HO, HOT2⟩
                case measure => simp [intOf]; omega
              · have hy0 : y = 0 := by
                  rcases HW.out.2 q hqn with ⟨h2, _⟩ | ⟨i', e', h3, h4, _⟩
                  · rw [show wh.getD q 0 = y from hy.out] at h2; exact h2
                  · exact absurd (List.mem_map.2 ⟨e', List.mem_of_getElem? h3, h4⟩) hin
                subst hy0
                have HIN := hide hin
                have HSM := hide (HS2.out.mark q ((T.length : Int) + 1))
                have HWM := hide (HW.out.more hqn (pad X * e.2))
                have hspm := (HSM.out.alloc (.cells #[.int .i64 (q : Int)] 3)).spots
                rw [List.length_map] at hspm
                have HSP := hide hspm
                have hbm := HSM.out.below.size
                clear hspm hin hy HIX HOE2 hcx2 hcr2
                go_wp2_with (at_builtin; refine wpList_append_keep _ rfl _ _ 23 rfl wa.heap.size 3 j0 (.int .i64 0) 1 8 Try.underlying23 hji hjz0 hjz1 hjz2 rfl (by decide) _ T.length _ rfl HSP.out _ 1 1 [.int .i64 (q : Int)] rfl rfl ?c1 ?c2 ?c3 ?c4 ?c5 ?_)
                case c1 =>
                  have hc := cell_one_new (wd.setCell ⟨gw, q, none⟩ (.int .i64 ((T.length : Int) + 1))) (.int .i64 (q : Int)) 3
                  have ez : (wd.setCell ⟨gw, q, none⟩ (.int .i64 ((T.length : Int) + 1))).heap.size = wd.heap.size := by simp
                  rw [ez] at hc
                  exact hc
                case c2 => intro u hu; simp at hu; subst hu; rfl
                case c3 => unfold maxLen; omega
                case c4 => omega
                case c5 => simp; have := HSZD.out; omega
                intro v5 w5 hown5 hg5 hp5
                have hS5 := (HSM.out.alloc (.cells #[.int .i64 (q : Int)] 3)).spot (q := q) (by rw [List.length_map]; exact hown5) hg5 (hp5.imp id (fun h => ⟨by rw [h.1]; simp, h.2⟩))
                have hba5 := hS5.below
                have hs5 := hba5.size
                obtain ⟨b0', o0', hpp', hb0', _, _, bx2, ox2, cx2, hcx5, hix5, hbx2, _, _⟩ := (HA.out.below hba5).nth HX.out HXR.out.2 h1
                injection hpp' with hpp'
                injection hpp' with hp1 hp2
                subst hp1; subst hp2
                have hrw5 := hS5.rows
                rw [List.length_map] at hrw5
                have hgr5 := (hrw5.lt gr rfl).2
                obtain ⟨ue2, hcr5, hoe5⟩ := word_at hrw5 hS5.rowsAt (i := i) (X := cut n e.2) (by rw [List.getElem?_map, List.getElem?_map, HE.out]; rfl) (by rw [List.length_map, List.length_map])
                rw [cut_length h12] at hoe5
                obtain ⟨ge2, ce2, rfl, _, hge5, _, _⟩ := owns_form hoe5 h1
                have hgw5 := (hS5.wher.lt gw rfl).2
                have hcl := cut_length h12 e.2
                have hbyE : by_ X (cut n e.2) = cut n (pad X * e.2) := by
                  have := by_cut h12 HXF.out (cut_row h12 HEF.out) hcl
                  rw [cut_pad h12 HXR.out.2 HXR.out.1, pad_cut h12 HEF.out] at this
                  exact this
                have HBY := hide (rby_own (.slice (some ⟨bx2, ox2, none⟩) n cx2) (.slice (some ⟨ge2, 0, none⟩) n ce2) X (cut n e.2) w5.drew (hix5.out.below (below_drew w5)) ((Ints.own hoe5).below (below_drew w5)) (fun j hj => by have := (cut_row h12 HEF.out).at (j := j) hj; rw [hcl] at this; rw [HXR.out.2]; exact this) (by rw [HXR.out.2]; exact h1) (by rw [hcl]; omega))
                rw [hbyE, hcl] at HBY
                have HS5 := hide hS5
                have hV5 : v5.ownBlock ≠ none := by
                  obtain ⟨b, hb⟩ := ownsRow_block hown5 (by omega)
                  rw [hb]; simp
                have hv5l : ∀ b, v5.ownBlock = some b → b < w5.heap.size := fun b hb => (hown5.lt b hb).2
                have HV5 := hide hv5l
                clear hown5 hg5 hp5 hS5 hba5 hrw5 hoe5 hix5 hbyE HSP HSM hV5 hv5l
                go_wp2
                refine wp_region_held_drew (S := fun W' => W'.cell? ⟨b0, o0 + j, none⟩ = some (.slice (some ⟨bx2, ox2, none⟩) n cx2) ∧ W'.cell? ⟨gr, i, none⟩ = some (.slice (some ⟨ge2, 0, none⟩) n ce2)) (by kernel_rfl) ⟨hcx5, hcr5⟩ (fun hS => ?_)
                refine wpAnyH_take (i := 0) (v := .slice (some ⟨gr, 0, none⟩) T.length cr) rfl (by kernel_rfl) (by kernel_rfl) (by kernel_rfl) (fun _ _ _ h => h) (Or.inl ⟨by rfl, fun w' hS' => by clear hS'; go_simp⟩) hS ?_
                refine wpAnyH_take (i := 1) (v := .slice (some ⟨b0, o0, none⟩) gss.length cap0) rfl (by kernel_rfl) (by kernel_rfl) (by kernel_rfl) (fun _ _ _ h => h) (Or.inl ⟨by rfl, fun w' hS' => by clear hS'; go_simp⟩) hS ?_
                refine wpAnyH_take (i := 2) (v := .int .i64 (j : Int)) rfl (by kernel_rfl) (by kernel_rfl) (by kernel_rfl) (fun _ _ _ h => h) (Or.inl ⟨by rfl, fun w' hS' => by clear hS'; go_simp⟩) hS ?_
                refine wpAnyH_take (i := 3) (v := .pointer (some ⟨b0, o0 + j, none⟩)) rfl (by kernel_rfl) (by kernel_rfl) (by kernel_rfl) (fun _ _ _ h => h) (Or.inl ⟨by rfl, fun w' hS' => by clear hS'; go_simp⟩) hS ?_
                refine wpAnyH_take (i := 4) (v := .slice (some ⟨bx2, ox2, none⟩) n cx2) rfl (by kernel_rfl) (by kernel_rfl) (by kernel_rfl) (fun _ _ _ h => h) (Or.inl ⟨by rfl, fun w' hS' => by have hq := hS'.1; go_simp⟩) hS ?_
                refine wpAnyH_take (i := 5) (v := .slice (some ⟨gr, 0, none⟩) T.length cr) rfl (by kernel_rfl) (by kernel_rfl) (by kernel_rfl) (fun _ _ _ h => h) (Or.inl ⟨by rfl, fun w' hS' => by clear hS'; go_simp⟩) hS ?_
                refine wpAnyH_take (i := 6) (v := .int .i64 (i : Int)) rfl (by kernel_rfl) (by kernel_rfl) (by kernel_rfl) (fun _ _ _ h => h) (Or.inl ⟨by rfl, fun w' hS' => by clear hS'; go_simp⟩) hS ?_
                refine wpAnyH_take (i := 7) (v := .pointer (some ⟨gr, i, none⟩)) rfl (by kernel_rfl) (by kernel_rfl) (by kernel_rfl) (fun _ _ _ h => h) (Or.inl ⟨by rfl, fun w' hS' => by clear hS'; go_simp⟩) hS ?_
                refine wpAnyH_take (i := 8) (v := .slice (some ⟨ge2, 0, none⟩) n ce2) rfl (by kernel_rfl) (by kernel_rfl) (by kernel_rfl) (fun _ _ _ h => h) (Or.inl ⟨by rfl, fun w' hS' => by have hq := hS'.2; go_simp⟩) hS ?_
                refine wpAnyH_ready (rs := [9]) (by kernel_rfl) (by simp) ?_
                refine AllReadyH.cons rfl (fun K hK => ?_) AllReadyH.nil
                go_simp
                refine HBY.out.mono ?_
                rintro ex w6 ⟨v6, rfl, ho6, hb6⟩
                replace hb6 := undrew hb6
                have ho6' : w6.ownsRow w5.heap.size 3 1 v6 n ((cut n (pad X * e.2)).map (Value.int .i64)) := ho6
                obtain ⟨g6, c6, rfl, hg6a, hg6b, _, _⟩ := owns_form ho6' h1
                have hs6 := hb6.size
                have HS6 := hide (HS5.out.later hb6)
                have hcx6 := (hb6.cell (p := ⟨b0, o0 + j, none⟩) (by exact hb0')).trans hcx5
                have hcr6 := (hb6.cell (p := ⟨gr, i, none⟩) (by exact hgr5)).trans hcr5
                have hgr6 : gr < w6.heap.size := by omega
                have hb06 : b0 < w6.heap.size := by omega
                refine hK.out _ _ ⟨hcx6, hcr6⟩ (fun hS => ?_)
                clear hK HBY ho6
                refine wpAnyH_ready (rs := [10]) (by kernel_rfl) (by simp) ?_
                refine AllReadyH.cons rfl (fun K hK => ?_) AllReadyH.nil
                go_simp
                refine hK.out _ _ ⟨(World.cell?_of_block (w := w6) (a := ⟨b0, o0 + j, none⟩) (Below.heap_alloc w6 _ b0 hb06)).trans hcx6, (World.cell?_of_block (w := w6) (a := ⟨gr, i, none⟩) (Below.heap_alloc w6 _ gr hgr6)).trans hcr6⟩ (fun hS => ?_)
                clear hK
                have hr6 := (HS6.out.alloc (.cells #[.slice (some ⟨g6, 0, none⟩) n c6] 23)).rows
                rw [List.length_map] at hr6
                have hu6 : w6.ownsRow wa.heap.size 3 1 (.slice (some ⟨g6, 0, none⟩) n c6) (cut n (pad X * e.2)).length ((cut n (pad X * e.2)).map (Value.int .i64)) := by rw [cut_length h12]; exact owns_base ho6' hs5
                refine wpAnyH_ready (rs := [11]) (by kernel_rfl) (by simp) ?_
                refine AllReadyH.cons rfl (fun K hK => ?_) AllReadyH.nil
                refine step_append_keep rfl _ _ 22 rfl wa.heap.size 23 i0 (.slice none 0 0) 1 24 Try.underlying22 hi hz0 hz1 hz2 rfl (by decide) _ T.length vs rfl hr6 ⟨w6.heap.size, 0, none⟩ 1 1 [.slice (some ⟨g6, 0, none⟩) n c6] rfl rfl (cell_one_new _ _ _) (fun u hu => by simp at hu; subst hu; rfl) (by unfold maxLen; omega) (by omega) (by simp; omega) ?_
                intro v8 w8 hown8 hg8 hp8
                have hS8 := (HS6.out.alloc (.cells #[.slice (some ⟨g6, 0, none⟩) n c6] 23)).row (x := pad X * e.2) (by rw [List.length_map]; exact hown8) hg8 (hu6.alloc _) (fun e' => by have e'' : g6 = gw := Option.some.inj e'; omega) (fun e' => by have := HV5.out g6 e'.symm; omega)
                have hgb : gr < (w6.alloc (.cells #[.slice (some ⟨g6, 0, none⟩) n c6] 23)).heap.size := by simp; omega
                have hbb : b0 < (w6.alloc (.cells #[.slice (some ⟨g6, 0, none⟩) n c6] 23)).heap.size := by simp; omega
                have hn0 : (some b0 : Option Nat) ≠ (Value.slice (some ⟨gr, 0, none⟩) T.length cr).ownBlock := fun e' => by have e'' : b0 = gr := Option.some.inj e'; omega
                have HS8 : Hid (SRel wa w8 n gw v5 v8 (wh.set q ((T.length : Int) + 1)) (vs ++ [.slice (some ⟨g6, 0, none⟩) n c6]) ((T ++ [(q, pad X * e.2)]).map (·.1)) ((T ++ [(q, pad X * e.2)]).map (·.2))) := by
                  unfold Hid
                  rw [List.map_append, List.map_append]
                  exact hS8
                have HO8 : Hid (Orbs (fun y => y ∈ gss.map pad) n k (T ++ [(q, pad X * e.2)])) := by
                  unfold Hid
                  rw [← HQ.out]
                  exact HO.out.more (List.mem_map.2 ⟨X, HXM.out, rfl⟩) HEM.out (by rw [HQ.out]; exact hqn) (by rw [HQ.out]; exact HIN.out)
                have HOT8 : Hid (OrbTo gss (T ++ [(q, pad X * e.2)]) i (j + 1)) := by
                  refine (HOT.out.grow hit _).old (by rw [List.getElem?_append_left hit]; exact HE.out) HX.out ?_
                  rw [HQ.out, List.map_append]
                  exact List.mem_append_right _ (by simp)
                have hit8 : i < (T ++ [(q, pad X * e.2)]).length := by rw [List.length_append]; omega
                obtain ⟨gv8, cv8, rfl, _, _, _, _⟩ := owns_form hown8 (by omega)
                refine hK.out _ _ ⟨?_, ?_⟩ (fun hS => ?_)
                · exact (World.cell?_of_block (w := w6.alloc (.cells #[.slice (some ⟨g6, 0, none⟩) n c6] 23)) (a := ⟨b0, o0 + j, none⟩) (hg8.block b0 hbb hn0)).trans hS.1
                · rcases hp8 with hp | ⟨_, hg⟩
                  · exact (owns_prefix hr6 hown8 (b := gr) (x := i) rfl hp (by have := hr6.1; omega)).trans hS.2
                  · exact (World.cell?_of_block (w := w6.alloc (.cells #[.slice (some ⟨g6, 0, none⟩) n c6] 23)) (a := ⟨gr, i, none⟩) (hg.block gr hgb (by simp))).trans hS.2
                clear hK hS8 hown8 hg8 hp8 hr6 hu6 ho6' HS6
                refine wpAnyH_take (i := 12) (v := .slice (some ⟨gv8, 0, none⟩) (T.length + 1) cv8) rfl (by kernel_rfl) (by kernel_rfl) (by kernel_rfl) (fun _ _ _ h => h) (Or.inl ⟨by rfl, fun w' _ => by go_simp⟩) hS ?_
                refine wpAnyH_done (by kernel_rfl) ?_ _
                go_wp2
                go_roundw
                case rel => exact ⟨j + 1, _, _, T ++ [(q, pad X * e.2)], by omega, by go_num, hit8, HS8, HWM, HO8, HOT8⟩
                case measure => simp [intOf]; omega
            · have hje : j = gss.length := by omega
              have HOT2 : Hid (OrbTo gss T (i + 1) 0) := by have := HOT.out; rw [hje] at this; exact this.next
              clear hsp hrw hje
              go_wp2
              go_roundw
              case rel => exact ⟨i + 1, _, _, T, by omega, by go_num, HS, HW, HO, HOT2⟩
              case measure => simp [intOf]; omega
        · have hie : i = T.length := by omega
          have hOTD : OrbTo gss T T.length 0 := by have := HOT.out; rw [hie] at this; exact this
          have HD := hide hOTD.done
          have hrw := HS.out.rows
          rw [List.length_map] at hrw
          obtain ⟨gr, cr, rfl, hgra, hgrb, hcra, hcrb⟩ := owns_form hrw hT1
          clear hie hOTD HOT hsp hrw
          go_wp2
          go_loopw [10, 14] (fun u10 u14 wr => ∃ (i : Nat) (us : List Value) (yss : List (List Int)), i ≤ T.length ∧ u14 = .int .i64 i ∧ Hid (SRel wa wr n gw (.slice (some ⟨gs, 0, none⟩) T.length cs) (.slice (some ⟨gr, 0, none⟩) T.length cr) wh vs (T.map (·.1)) (T.map (·.2))) ∧ Hid (wr.ownsRow wa.heap.size 23 1 u10 us.length us) ∧ Hid (u10.ownBlock ≠ some gr) ∧ Hid (OwnAll wr wa.heap.size us yss) ∧ Hid (StillTo n gss T i 0 yss)) (fun _ u14 _ => T.length - (intOf u14).toNat)
          case atStart => exact ⟨0, [], [], by omega, rfl, HS, World.ownsRow_nil _ _ _ _, (fun e => by cases e), trivial, StillTo.start _ _ _⟩
          case round =>
            clear HS
            obtain ⟨i2, us, yss, hi2, rfl, HS, HU, HUN, HUA, HST⟩ := hrel
            by_cases hit2 : i2 < T.length
            · go_wp2
              go_loopw [10, 15] (fun u10 u15 wr => ∃ (j : Nat) (us : List Value) (yss : List (List Int)), j ≤ gss.length ∧ u15 = .int .i64 j ∧ Hid (SRel wa wr n gw (.slice (some ⟨gs, 0, none⟩) T.length cs) (.slice (some ⟨gr, 0, none⟩) T.length cr) wh vs (T.map (·.1)) (T.map (·.2))) ∧ Hid (wr.ownsRow wa.heap.size 23 1 u10 us.length us) ∧ Hid (u10.ownBlock ≠ some gr) ∧ Hid (OwnAll wr wa.heap.size us yss) ∧ Hid (StillTo n gss T i2 j yss)) (fun _ u15 _ => gss.length - (intOf u15).toNat)
              case atStart => exact ⟨0, us, yss, by omega, rfl, HS, HU, HUN, HUA, HST⟩
              case round =>
                clear HS HU HUN HUA HST
                obtain ⟨j, us, yss, hj, rfl, HS, HU, HUN, HUA, HST⟩ := hrel
                have hba := HS.out.below
                have hbas := hba.size
                by_cases hjl : j < gss.length
                · obtain ⟨X, hX⟩ : ∃ X, gss[j]? = some X := ⟨_, List.getElem?_eq_getElem hjl⟩
                  obtain ⟨e, he⟩ : ∃ e, T[i2]? = some e := ⟨_, List.getElem?_eq_getElem hit2⟩
                  have hXm := List.mem_of_getElem? hX
                  have hem := List.mem_of_getElem? he
                  have hXr := HR.out X hXm
                  have hel := HO.out.lt e hem
                  obtain ⟨b0, o0, hpp, hb0a, hNc, _, _⟩ := HA.out.nth hX hXr.2 h1
                  subst hpp
                  obtain ⟨b0', o0', hpp', hb0, _, _, bx, ox, cx, hcx, hix, hbx, hncx, hXc⟩ := (HA.out.below hba).nth hX hXr.2 h1
                  injection hpp' with hpp'
                  injection hpp' with hp1 hp2
                  subst hp1; subst hp2
                  have hrw := HS.out.rows
                  rw [List.length_map] at hrw
                  have hgr := (hrw.lt gr rfl).2
                  obtain ⟨ue, hcr, hoe⟩ := word_at hrw HS.out.rowsAt (i := i2) (X := cut n e.2) (by rw [List.getElem?_map, List.getElem?_map, he]; rfl) (by rw [List.length_map, List.length_map])
                  rw [cut_length h12] at hoe
                  obtain ⟨ge, ce, rfl, hgea, hgeb, hcea, hceb⟩ := owns_form hoe h1
                  have hnx : Fixes (fun b => n ≤ b) (pad X) := pad_fixes h12 hXr.2 hXr.1
                  have hfxT : ∀ e, e ∈ T → Fixes (fun b => n ≤ b) e.2 := fun e hem => (HO.out.gen e hem).least (fixes_sub _) (fun s hs => by
                    obtain ⟨Z, hZ, rfl⟩ := List.mem_map.1 hs
                    exact pad_fixes h12 (HR.out Z hZ).2 (HR.out Z hZ).1)
                  have hef := hfxT e hem
                  have hcl := cut_length h12 e.2
                  have hbyE : by_ X (cut n e.2) = cut n (pad X * e.2) := by
                    have := by_cut h12 hnx (cut_row h12 hef) hcl
                    rw [cut_pad h12 hXr.2 hXr.1, pad_cut h12 hef] at this
                    exact this
                  have HBY := hide (rby_own (.slice (some ⟨bx, ox, none⟩) n cx) (.slice (some ⟨ge, 0, none⟩) n ce) X (cut n e.2) wr.drew (hix.out.below (below_drew wr)) ((Ints.own hoe).below (below_drew wr)) (fun j hj => by have := (cut_row h12 hef).at (j := j) hj; rw [hcl] at this; rw [hXr.2]; exact this) (by rw [hXr.2]; exact h1) (by rw [hcl]; omega))
                  rw [hbyE, hcl] at HBY
                  obtain ⟨q, hqe⟩ : ∃ q, (pad X).act e.1 = q := ⟨_, rfl⟩
                  have hxq : (pad X * e.2).act k = q := by rw [Pm.act_mul, HO.out.brings e hem, hqe]
                  have hxF : Fixes (fun b => n ≤ b) (pad X * e.2) := (fixes_sub _).mul hnx hef
                  have hqn : q < n := by rw [← hxq]; exact fix_lt hxF hlt
                  have hqin : q ∈ T.map (·.1) := by rw [← hqe]; exact HD.out (pad X) (List.mem_map.2 ⟨X, hXm, rfl⟩) e hem
                  obtain ⟨i3, e3, h3a, h3b, h3c⟩ : ∃ i e, T[i]? = some e ∧ e.1 = q ∧ wh.getD q 0 = ((i + 1 : Nat) : Int) := by
                    rcases HW.out.2 q hqn with ⟨_, h2⟩ | h2
                    · exact absurd hqin h2
                    · exact h2
                  have hi3 : i3 < T.length := (List.getElem?_eq_some_iff.1 h3a).1
                  have hem3 := List.mem_of_getElem? h3a
                  have hef3 := hfxT e3 hem3
                  have HX := hide hX
                  have HE := hide he
                  have HE3 := hide h3a
                  have HM3 := hide hem3
                  have H3B : Hid (e3.1 = (pad X).act e.1) := by show _ = _; rw [h3b, hqe]
                  have H3C : Hid (wh.getD q 0 = (i3 : Int) + 1) := by show _ = _; rw [h3c]; omega
                  have HF3 := hide hef3
                  have HXQ := hide hxq
                  have HXF := hide hxF
                  clear hX he hXm hem hXr hrw hoe hXc hix hnx hfxT hef hbyE hqe hxq hxF hqin h3a h3b h3c hem3 hef3 hba
                  go_wp2
                  refine wp_region_held_drew (S := fun W' => W'.cell? ⟨b0, o0 + j, none⟩ = some (.slice (some ⟨bx, ox, none⟩) n cx) ∧ W'.cell? ⟨gr, i2, none⟩ = some (.slice (some ⟨ge, 0, none⟩) n ce)) (by kernel_rfl) ⟨hcx, hcr⟩ (fun hS => ?_)
                  refine wpAnyH_take (i := 0) (v := .slice (some ⟨b0, o0, none⟩) gss.length cap0) rfl (by kernel_rfl) (by kernel_rfl) (by kernel_rfl) (fun _ _ _ h => h) (Or.inl ⟨by rfl, fun w' hS' => by clear hS'; go_simp⟩) hS ?_
                  refine wpAnyH_take (i := 1) (v := .int .i64 (j : Int)) rfl (by kernel_rfl) (by kernel_rfl) (by kernel_rfl) (fun _ _ _ h => h) (Or.inl ⟨by rfl, fun w' hS' => by clear hS'; go_simp⟩) hS ?_
                  refine wpAnyH_take (i := 2) (v := .pointer (some ⟨b0, o0 + j, none⟩)) rfl (by kernel_rfl) (by kernel_rfl) (by kernel_rfl) (fun _ _ _ h => h) (Or.inl ⟨by rfl, fun w' hS' => by clear hS'; go_simp⟩) hS ?_
                  refine wpAnyH_take (i := 3) (v := .slice (some ⟨bx, ox, none⟩) n cx) rfl (by kernel_rfl) (by kernel_rfl) (by kernel_rfl) (fun _ _ _ h => h) (Or.inl ⟨by rfl, fun w' hS' => by have hq := hS'.1; go_simp⟩) hS ?_
                  refine wpAnyH_take (i := 4) (v := .slice (some ⟨gr, 0, none⟩) T.length cr) rfl (by kernel_rfl) (by kernel_rfl) (by kernel_rfl) (fun _ _ _ h => h) (Or.inl ⟨by rfl, fun w' hS' => by clear hS'; go_simp⟩) hS ?_
                  refine wpAnyH_take (i := 5) (v := .int .i64 (i2 : Int)) rfl (by kernel_rfl) (by kernel_rfl) (by kernel_rfl) (fun _ _ _ h => h) (Or.inl ⟨by rfl, fun w' hS' => by clear hS'; go_simp⟩) hS ?_
                  refine wpAnyH_take (i := 6) (v := .pointer (some ⟨gr, i2, none⟩)) rfl (by kernel_rfl) (by kernel_rfl) (by kernel_rfl) (fun _ _ _ h => h) (Or.inl ⟨by rfl, fun w' hS' => by clear hS'; go_simp⟩) hS ?_
                  refine wpAnyH_take (i := 7) (v := .slice (some ⟨ge, 0, none⟩) n ce) rfl (by kernel_rfl) (by kernel_rfl) (by kernel_rfl) (fun _ _ _ h => h) (Or.inl ⟨by rfl, fun w' hS' => by have hq := hS'.2; go_simp⟩) hS ?_
                  refine wpAnyH_ready (rs := [8]) (by kernel_rfl) (by simp) ?_
                  refine AllReadyH.cons rfl (fun K hK => ?_) AllReadyH.nil
                  go_simp
                  refine HBY.out.mono ?_
                  rintro ex w6 ⟨v6, rfl, ho6, hb6⟩
                  replace hb6 := undrew hb6
                  have ho6' : w6.ownsRow wr.heap.size 3 1 v6 n ((cut n (pad X * e.2)).map (Value.int .i64)) := ho6
                  obtain ⟨g6, c6, rfl, hg6a, hg6b, _, _⟩ := owns_form ho6' h1
                  have hs6 := hb6.size
                  have hcx6 := (hb6.cell (p := ⟨b0, o0 + j, none⟩) (by exact hb0)).trans hcx
                  have hcr6 := (hb6.cell (p := ⟨gr, i2, none⟩) (by exact hgr)).trans hcr
                  refine hK.out _ _ ⟨hcx6, hcr6⟩ (fun hS => ?_)
                  clear hK HBY ho6
                  refine wpAnyH_take (i := 9) (v := .slice (some ⟨g6, 0, none⟩) n c6) rfl (by kernel_rfl) (by kernel_rfl) (by kernel_rfl) (fun _ _ _ h => h) (Or.inl ⟨by rfl, fun w' _ => by go_simp⟩) hS ?_
                  refine wpAnyH_done (by kernel_rfl) ?_ _
                  have hS6 := HS.out.later hb6
                  have hrw6 := hS6.rows
                  rw [List.length_map] at hrw6
                  obtain ⟨ue3, hcr3, hoe3⟩ := word_at hrw6 hS6.rowsAt (i := i3) (X := cut n e3.2) (by rw [List.getElem?_map, List.getElem?_map, HE3.out]; rfl) (by rw [List.length_map, List.length_map])
                  rw [cut_length h12] at hoe3
                  obtain ⟨ge3, ce3, rfl, _, _, _, _⟩ := owns_form hoe3 h1
                  obtain ⟨y1, hy1, hcy1, _⟩ := owns_cellAt ho6' hlt
                  have ey1 : y1 = (q : Int) := by
                    have h7 := cut_get (n := n) (j := k) (pad X * e.2) h12 hlt
                    rw [HXQ.out] at h7
                    rw [← hy1.out]; exact h7
                  rw [ey1] at hcy1
                  obtain ⟨y2, hy2, hcy2, _⟩ := owns_cellAt hS6.wher hqn
                  have ey2 : y2 = (i3 : Int) + 1 := by rw [← hy2.out]; exact H3C.out
                  rw [ey2] at hcy2
                  have hcl3 := cut_length h12 e3.2
                  have HUD := hide (undo_own (.slice (some ⟨ge3, 0, none⟩) n ce3) (cut n e3.2) w6 (Ints.own hoe3) (cut_row h12 HF3.out) (by rw [hcl3]; exact h1) (by rw [hcl3]; exact h12))
                  have HO6 := hide ho6'
                  have HS6 := hide hS6
                  have HU6 := hide (owns_below HU.out hb6 (Nat.le_refl _))
                  have HUA6 := hide (HUA.out.mono (fun _ _ _ h' => owns_below h' hb6 (Nat.le_refl _)))
                  have hbs6 := hS6.below.size
                  clear hcx6 hcr6 hcx hcr hS hS6 hrw6 hoe3 hy1 ey1 hy2 ey2 ho6' HU HUA HS hb6
                  go_wp2_with fail
                  refine HUD.out.mono ?_
                  rintro ex w7 ⟨v7, zs, rfl, hoz, hzu, hb7⟩
                  rw [hcl3] at hoz
                  obtain ⟨gz, cz, rfl, _, _, _, _⟩ := owns_form hoz h1
                  have hzr := isRow_undoes (cut_row h12 HF3.out) hzu
                  have hzl : zs.length = n := hzu.1.trans hcl3
                  have hpz : pad zs = (e3.2)⁻¹ := by rw [pad_undoes (by rw [hcl3]; exact h12) (cut_row h12 HF3.out) hzu, pad_cut h12 HF3.out]
                  have hxr := cut_row h12 HXF.out
                  have hxl := cut_length h12 (pad X * e.2)
                  have hYr : isRow (by_ zs (cut n (pad X * e.2))) := isRow_by hzr hxr (by rw [hxl, hzl])
                  have hYl : (by_ zs (cut n (pad X * e.2))).length = n := by rw [by_length]; exact hxl
                  have hYp : pad (by_ zs (cut n (pad X * e.2))) = (e3.2)⁻¹ * (pad X * e.2) := by rw [pad_by (by omega) hzr hxr (by rw [hxl, hzl]), hpz, pad_cut h12 HXF.out]
                  have HB2 := hide (rby_own (.slice (some ⟨gz, 0, none⟩) n cz) (.slice (some ⟨g6, 0, none⟩) n c6) zs (cut n (pad X * e.2)) w7 (Ints.own hoz) ((Ints.own HO6.out).below hb7) (fun j hj => by have := hxr.at (j := j) hj; rw [hxl] at this; rw [hzl]; exact this) (by rw [hzl]; exact h1) (by rw [hxl]; omega))
                  rw [hxl] at HB2
                  have HST2 := hide (HST.out.step HO.out.nodup HE.out HX.out HM3.out H3B.out hYr hYl hYp)
                  have HYL := hide hYl
                  have HS7 := hide (HS6.out.later hb7)
                  have HU7 := hide (owns_below HU6.out hb7 (Nat.le_refl _))
                  have HUA7 := hide (HUA6.out.mono (fun _ _ _ h' => owns_below h' hb7 (Nat.le_refl _)))
                  have hs7 := hb7.size
                  clear HUD HS6 HU6 HUA6 hoz hzu hzr hpz hxr hxl hYr hYl hYp hb7 HO6 HST
                  generalize by_ zs (cut n (pad X * e.2)) = Y at *
                  go_wp2_with fail
                  refine HB2.out.mono ?_
                  rintro ex w8 ⟨v8, rfl, ho8, hb8⟩
                  obtain ⟨g8, c8, rfl, _, _, _, _⟩ := owns_form ho8 h1
                  have hs8 := hb8.size
                  have hS8 := HS7.out.later hb8
                  have hU8 := owns_below HU7.out hb8 (Nat.le_refl _)
                  have hUA8 := HUA7.out.mono (fun _ _ _ h' => owns_below h' hb8 (Nat.le_refl _))
                  have ho8' : w8.ownsRow wa.heap.size 3 1 (.slice (some ⟨g8, 0, none⟩) n c8) Y.length (Y.map (Value.int .i64)) := by rw [HYL.out]; exact owns_base ho8 (by omega)
                  have hul : us.length ≤ 2000 := by
                    have e1 := OwnAll.length hUA8
                    have e2 := HST2.out.len
                    rw [List.length_append] at e2
                    have e4 : i2 * gss.length ≤ 12 * 144 := Nat.mul_le_mul (by omega) hgl
                    simp at e2
                    omega
                  have HS8 := hide (hS8.alloc (.cells #[.slice (some ⟨g8, 0, none⟩) n c8] 23))
                  have HU8 := hide (hU8.alloc (.cells #[.slice (some ⟨g8, 0, none⟩) n c8] 23))
                  have HUA8 := hide (OwnAll.mono (fun _ _ _ h' => World.ownsRow.alloc h' (.cells #[.slice (some ⟨g8, 0, none⟩) n c8] 23)) hUA8)
                  have HO8 := hide (ho8'.alloc (.cells #[.slice (some ⟨g8, 0, none⟩) n c8] 23))
                  have hgr8 := (hS8.rows.lt gr rfl).2
                  clear HB2 HS7 HU7 HUA7 ho8 hS8 hU8 hUA8 ho8' hb8
                  go_wp2_with (at_builtin; refine wpList_append_keep _ rfl _ _ 22 rfl wa.heap.size 23 i0 (.slice none 0 0) 1 24 Try.underlying22 hi hz0 hz1 hz2 rfl (by decide) _ us.length us rfl HU8.out ⟨w8.heap.size, 0, none⟩ 1 1 [.slice (some ⟨g8, 0, none⟩) n c8] rfl rfl ?c1 ?c2 ?c3 ?c4 ?c5 ?_)
                  case c1 => exact cell_one_new _ _ _
                  case c2 => intro u hu; simp at hu; subst hu; rfl
                  case c3 => unfold maxLen; omega
                  case c4 => omega
                  case c5 => simp; omega
                  intro v9 w9 hown9 hg9 hp9
                  have HS9 := hide (HS8.out.other HU8.out HUN.out hg9)
                  have HU9 : Hid (w9.ownsRow wa.heap.size 23 1 v9 (us ++ [Value.slice (some ⟨g8, 0, none⟩) n c8]).length (us ++ [Value.slice (some ⟨g8, 0, none⟩) n c8])) := by unfold Hid; rw [List.length_append]; exact hown9
                  have HUN9 : Hid (v9.ownBlock ≠ some gr) := by
                    intro e'
                    rcases hp9 with hp | ⟨hp, _⟩
                    · exact HUN.out (hp.symm.trans e')
                    · rw [e'] at hp
                      injection hp with hp
                      omega
                  have HUA9 : Hid (OwnAll w9 wa.heap.size (us ++ [Value.slice (some ⟨g8, 0, none⟩) n c8]) (yss ++ [Y])) := OwnAll.snoc (owns_kept_ty HO8.out HU8.out hg9) (HUA8.out.mono (fun _ _ _ h' => owns_kept_ty h' HU8.out hg9))
                  clear hown9 hg9 hp9 HS8 HU8 HUA8 HO8
                  go_wp2
                  go_roundw
                  case rel => exact ⟨j + 1, _, _, by omega, by go_num, HS9, HU9, HUN9, HUA9, HST2⟩
                  case measure => simp [intOf]; omega
                · have hje : j = gss.length := by omega
                  have HST2 : Hid (StillTo n gss T (i2 + 1) 0 yss) := by have := HST.out; rw [hje] at this; exact this.next
                  clear hje hba
                  go_wp2
                  go_roundw
                  case rel => exact ⟨i2 + 1, _, _, by omega, by go_num, HS, HU, HUN, HUA, HST2⟩
                  case measure => simp [intOf]; omega
            · have hie : i2 = T.length := by omega
              have hst := HST.out
              rw [hie] at hst
              have hba := HS.out.below
              have hbas := hba.size
              have hoc := HO.out.size HD.out (by omega) HGL.out
              have hmul : ((sz G k : Nat) : Int) * (T.length : Int) = ((sz G (k + 1) : Nat) : Int) := by
                rw [hoc]; exact (Int.natCast_mul _ _).symm
              have hszn := sz_le G (k + 1)
              have hpow : 12 ^ (k + 1) ≤ 12 ^ 12 := Nat.pow_le_pow_right (by omega) (by omega)
              have hsz3 : sz G (k + 1) ≤ 8916100448256 := Nat.le_trans hszn (Nat.le_trans hpow (by decide))
              have hgen : ∀ x, Gen (fun y => y ∈ yss.map pad) x ↔ Low G (k + 1) x := fun x => by rw [hst.gen x]; exact HO.out.low HD.out HGL.out x
              have huy := OwnAll.length HUA.out
              have hIA : IntsAll wr u10 yss := IntsAll.own HU.out HUA.out
              have hyl : yss.length ≤ 100000 := by
                have e4 : T.length * gss.length ≤ 12 * 144 := Nat.mul_le_mul (by omega) hgl
                have := hst.len
                omega
              have HTH := hide (thinned_ok n (k + 1) u10 yss wr hIA (fun Y hY => ⟨(hst.rows Y hY).1, (hst.rows Y hY).2.1⟩) h1 h12 (by omega) hyl (fun Y hY c hc => ((hgen (pad Y)).1 (Gen.of (List.mem_map.2 ⟨Y, hY, rfl⟩))).2 c hc))
              rw [show ((k + 1 : Nat) : Int) = (k : Int) + 1 from by omega] at HTH
              have HGEN := hide hgen
              have hwB : Below w.heap.size w wr := hbw.trans (hba.mono hbs)
              clear hie hst hba hoc hszn hpow hgen huy hIA hyl HST
              go_wp2_with fail
              refine HTH.out.mono ?_
              rintro ex w9 ⟨hb9, u9, zss, rfl, hz1', hz2', hz3', hz4'⟩
              have HZ1 := hide hz1'
              have HZ2 := hide hz2'
              have HZ4 : Hid (∀ x, Gen (fun y => y ∈ zss.map pad) x ↔ Low G (k + 1) x) := fun x => (hz4' x).trans (HGEN.out x)
              have hwB9 : Below w.heap.size w w9 := hwB.trans (hb9.mono hwB.size)
              clear HTH hz1' hz2' hz4' HGEN hb9
              go_wp2
              go_roundw
              case rel => exact ⟨k + 1, zss, by omega, by go_num, rfl, HZ1, HZ2, hz3', HZ4, hwB9⟩
              case measure => simp [intOf]; omega
    · obtain rfl : k = n := by omega
      go_wp2
      go_ret
      exact ⟨rfl, hbw⟩

end Go.Proofs.Ytimfoggjocajiaa

/- Contract: Say, the answer's own: what a word says. -/
namespace Go.Proofs.Ytimfoggjocajiaa
open Go.RowKit

theorem lett_zero (gs : List Pm) : lett gs 0 = none := by unfold lett; rw [if_neg (by omega), if_neg (by omega)]
theorem lett_high {gs : List Pm} {k : Int} (h : (gs.length : Int) < k) : lett gs k = none := by
  unfold lett; rw [if_pos (by omega), List.getElem?_eq_none (by omega)]
theorem lett_low {gs : List Pm} {k : Int} (h : k < -(gs.length : Int)) : lett gs k = none := by
  unfold lett; rw [if_neg (by omega), if_pos (by omega), List.getElem?_eq_none (by omega)]; rfl
theorem lett_pos {gs : List Pm} {q : Nat} {x : Pm} (h : gs[q]? = some x) : lett gs ((q : Int) + 1) = some x := by
  unfold lett; rw [if_pos (by omega), show ((q : Int) + 1 - 1).toNat = q from by omega]; exact h
theorem lett_neg {gs : List Pm} {q : Nat} {x : Pm} (h : gs[q]? = some x) : lett gs (-((q : Int) + 1)) = some x⁻¹ := by
  unfold lett; rw [if_neg (by omega), if_pos (by omega), show (-(-((q : Int) + 1)) - 1).toNat = q from by omega, h]; rfl

def RSayPost (n : Nat) (gss : List (List Int)) (xs : List Int) (w : World) (e : Ending) (w' : World) : Prop :=
  ((say (gss.map pad) xs 1 = none ∧ e = .returned (.tuple #[.slice none 0 0, .int .i64 12])) ∨ ∃ v p, say (gss.map pad) xs 1 = some p ∧ Fixes (fun b => n ≤ b) p ∧ e = .returned (.tuple #[v, .int .i64 0]) ∧ Ints w' v (cut n p)) ∧ Below w.heap.size w w'

set_option maxRecDepth 20000 in
set_option maxHeartbeats 4000000 in
theorem rsay_ok (n : Nat) (v v2 : Value) (gss : List (List Int)) (xs : List Int) (w : World) (h1 : 1 ≤ n) (h12 : n ≤ 12) (hA : IntsAll w v gss) (hR : RowsN n gss) (h8 : gss.length ≤ 8) (hI : Ints w v2 xs) (hx : ∀ x, x ∈ xs → I64 x) (hl : xs.length ≤ 20000) :
    Calls Try.prog 21 #[.int .i64 n, v, v2] w fun e w' => RSayPost n gss xs w e w' := by
  have HA := hide hA
  have HR := hide hR
  have HI := hide hI
  have HX := hide hx
  obtain ⟨p0, cap0, rfl⟩ : ∃ p c, v = .slice p gss.length c := by
    obtain ⟨vs, hv, hl, _⟩ := hA
    obtain ⟨p, c, e⟩ := hv.form
    exact ⟨p, c, by rw [e, hl]⟩
  obtain ⟨p, c, rfl⟩ := hI.form
  have hl' : ¬ ((xs.length : Int) > 20000) := by omega
  have hg8 : (gss.length : Int) ≤ 8 := by omega
  clear hA hR hI hx
  go_enter Try.func21, Try.ntmps21
  go_wp2_with fail
  refine (rrounds_ok n _ (by omega)).mono ?_
  rintro e w1 ⟨u, rfl, ho, hb1⟩
  have hone : Ints w1 u (cut n 1) := by
    have hcut : cut n 1 = rnd n := by rw [← pad_rnd h12, cut_pad h12 (rnd_length n) (isRow_rnd n)]
    rw [hcut]; exact Ints.own ho
  have HONE := hide hone
  clear ho hone
  go_wp2
  go_loopw [8, 9] (fun u8 u9 wr => ∃ (k : Nat) (r : Pm), k ≤ xs.length ∧ u9 = .int .i64 k ∧ Hid (Ints wr u8 (cut n r)) ∧ Hid (Fixes (fun b => n ≤ b) r) ∧ Hid (say (gss.map pad) (xs.drop k) r = say (gss.map pad) xs 1) ∧ Below w.heap.size w wr) (fun _ u9 _ => xs.length - (intOf u9).toNat)
  case atStart => exact ⟨0, 1, by omega, rfl, HONE, (fixes_sub _).one, rfl, hb1⟩
  case round =>
    clear HONE hb1
    obtain ⟨k, r, hk, rfl, HU, HF, HS, hbw⟩ := hrel
    have hbs := hbw.size
    by_cases hlt : k < xs.length
    · obtain ⟨b, off, hpp, hcell, hcap⟩ : ∃ b off, p = some ⟨b, off, none⟩ ∧ (∀ j, j < xs.length → wr.cell? ⟨b, off + j, none⟩ = some (.int .i64 (xs.getD j 0))) ∧ xs.length ≤ c := by
        rcases HI.out.below hbw with ⟨e, _⟩ | ⟨b, off, cap, hv, _, hc, _, _, hcell⟩
        · rw [e] at hlt; simp at hlt
        · injection hv with e1 e2 e3
          exact ⟨b, off, e1, hcell, by omega⟩
      subst hpp
      obtain ⟨y, hy, hcy⟩ := cellAt hcell hlt
      have hyI : I64 y := HX.out y (by rw [← hy.out, List.getElem?_eq_getElem hlt]; exact List.getElem_mem hlt)
      have HSD := hide (say_drop (gs := gss.map pad) hlt hy.out r)
      rw [HS.out] at HSD
      obtain ⟨yl, yu⟩ := hyI
      have hml : (gss.map pad).length = gss.length := List.length_map ..
      clear hcell hy
      have bad : lett (gss.map pad) y = none → Hid (RSayPost n gss xs w (.returned (.tuple #[.slice none 0 0, .int .i64 12])) wr) := fun hn => ⟨Or.inl ⟨by have := HSD.out; rw [hn] at this; exact this, rfl⟩, hbw⟩
      by_cases h0 : y = 0
      · have HB := bad (by rw [h0]; exact lett_zero _)
        subst h0
        clear bad HSD HS hml
        go_wp2
        go_ret2
        exact HB.out
      · have h0' : (y == 0) = false := by rw [beq_eq_false_iff_ne]; exact h0
        by_cases hhi : y > (gss.length : Int)
        · have HB := bad (lett_high (by rw [hml]; omega))
          clear bad HSD HS hml
          go_wp2
          go_ret2
          exact HB.out
        · by_cases hlo : y < -(gss.length : Int)
          · have HB := bad (lett_low (by rw [hml]; exact hlo))
            clear bad HSD HS hml
            by_cases hmin : y = -9223372036854775808
            · subst hmin
              have hwm : wrap64 9223372036854775808 = -9223372036854775808 := by unfold wrap64; omega
              have hgn : ¬ ((gss.length : Int) < -9223372036854775808) := by omega
              go_wp2
              go_ret2
              exact HB.out
            · have hneg : -y > (gss.length : Int) := by omega
              go_wp2
              go_ret2
              exact HB.out
          · have hneg : ¬ (-y > (gss.length : Int)) := by omega
            have h100 : ¬ (y < -100) := by omega
            by_cases hp : y > 0
            · obtain ⟨q, rfl⟩ : ∃ q : Nat, y = (q : Int) + 1 := ⟨(y - 1).toNat, by omega⟩
              have hq : q < gss.length := by omega
              obtain ⟨X, hX⟩ : ∃ X, gss[q]? = some X := ⟨_, List.getElem?_eq_getElem hq⟩
              have hXr := HR.out X (List.mem_of_getElem? hX)
              have hXF := pad_fixes h12 hXr.2 hXr.1
              have HL := lett_pos (gs := gss.map pad) (q := q) (x := pad X) (by rw [List.getElem?_map, hX]; rfl)
              have HS2 : Hid (say (gss.map pad) (xs.drop (k + 1)) (r * pad X) = say (gss.map pad) xs 1) := by have h := HSD.out; rw [HL] at h; exact h.symm
              obtain ⟨b0, o0, hpp, hb0, hNc, hNN, bx, ox, cx, hcx, hix, _, _, _⟩ := (HA.out.below hbw).nth hX hXr.2 h1
              clear hNN
              subst hpp
              have HBY := hide (rby_own _ (.slice (some ⟨bx, ox, none⟩) n cx) (cut n r) X wr HU.out hix.out (fun j hj => by rw [cut_length h12]; have := hXr.1.at (j := j) hj; rw [hXr.2] at this; exact this) (by rw [cut_length h12]; exact h1) (by rw [hXr.2]; omega))
              rw [by_cut h12 HF.out hXr.1 hXr.2] at HBY
              have HF2 : Hid (Fixes (fun b => n ≤ b) (r * pad X)) := (fixes_sub _).mul HF.out hXF
              have hq1 : (q : Int) + 1 - 1 = (q : Int) := by omega
              clear bad HSD HS hml hX hXr hXF HL hix HU
              go_wp2_with fail
              refine HBY.out.mono ?_
              rintro ex w2 ⟨v3, rfl, ho3, hb3⟩
              have HU3 := hide (Ints.own ho3)
              have hB3 : Below w.heap.size w w2 := hbw.trans (hb3.mono hbw.size)
              clear HBY ho3 hb3
              go_wp2
              go_roundw
              case rel => exact ⟨k + 1, r * pad X, by omega, by go_num, HU3, HF2, HS2, hB3⟩
              case measure => simp [intOf]; omega
            · obtain ⟨q, hyq⟩ : ∃ q : Nat, -y = (q : Int) + 1 := ⟨(-y - 1).toNat, by omega⟩
              have ey : y = -((q : Int) + 1) := by omega
              have hq : q < gss.length := by omega
              obtain ⟨X, hX⟩ : ∃ X, gss[q]? = some X := ⟨_, List.getElem?_eq_getElem hq⟩
              have hXr := HR.out X (List.mem_of_getElem? hX)
              have hXF := pad_fixes h12 hXr.2 hXr.1
              have HL := lett_neg (gs := gss.map pad) (q := q) (x := pad X) (by rw [List.getElem?_map, hX]; rfl)
              have HS2 : Hid (say (gss.map pad) (xs.drop (k + 1)) (r * (pad X)⁻¹) = say (gss.map pad) xs 1) := by have h := HSD.out; rw [ey, HL] at h; exact h.symm
              obtain ⟨b0, o0, hpp, hb0, hNc, hNN, bx, ox, cx, hcx, hix, _, _, _⟩ := (HA.out.below hbw).nth hX hXr.2 h1
              clear hNN
              subst hpp
              have HUD := hide (undo_own (.slice (some ⟨bx, ox, none⟩) n cx) X wr hix.out hXr.1 (by rw [hXr.2]; exact h1) (by rw [hXr.2]; exact h12))
              have HF2 : Hid (Fixes (fun b => n ≤ b) (r * (pad X)⁻¹)) := (fixes_sub _).mul HF.out ((fixes_sub _).inv hXF)
              have HXR := hide hXr
              clear bad HSD HS hml hX hXr hXF HL hix hneg ey
              go_wp2_with fail
              refine HUD.out.mono ?_
              rintro ex w2 ⟨vz, zs, rfl, hoz, hzu, hbz⟩
              have hzr := isRow_undoes HXR.out.1 hzu
              have hzl : zs.length = n := hzu.1.trans HXR.out.2
              have hpz : pad zs = (pad X)⁻¹ := pad_undoes (by rw [HXR.out.2]; exact h12) HXR.out.1 hzu
              have HBY := hide (rby_own _ vz (cut n r) zs w2 (HU.out.below hbz) (Ints.own hoz) (fun j hj => by rw [cut_length h12]; have := hzr.at (j := j) hj; rw [hzl] at this; exact this) (by rw [cut_length h12]; exact h1) (by omega))
              rw [by_cut h12 HF.out hzr hzl, hpz] at HBY
              have hB2 : Below w.heap.size w w2 := hbw.trans (hbz.mono hbw.size)
              clear HUD hoz hzu hbz hzr hzl hpz HU
              go_wp2_with fail
              refine HBY.out.mono ?_
              rintro ex w3 ⟨v3, rfl, ho3, hb3⟩
              have HU3 := hide (Ints.own ho3)
              have hB3 : Below w.heap.size w w3 := hB2.trans (hb3.mono hB2.size)
              clear HBY ho3 hb3
              go_wp2
              go_roundw
              case rel => exact ⟨k + 1, r * (pad X)⁻¹, by omega, by go_num, HU3, HF2, HS2, hB3⟩
              case measure => simp [intOf]; omega
    · have hke : k = xs.length := by omega
      have hs : say (gss.map pad) xs 1 = some r := by have h := HS.out; rw [hke, List.drop_length] at h; exact h.symm
      have HFIN := hide (show RSayPost n gss xs w (.returned (.tuple #[u8, .int .i64 0])) wr from ⟨Or.inr ⟨u8, r, hs, HF.out, rfl, HU.out⟩, hbw⟩)
      clear hke hs HS
      go_wp2
      go_ret2
      exact HFIN.out

end Go.Proofs.Ytimfoggjocajiaa

/- Plain: words that may be said; orbits. -/
namespace Go.Proofs.Ytimfoggjocajiaa

theorem say_some {gs : List Pm} : ∀ (A : List Int) (p : Pm), (∀ z, z ∈ A → ∃ x, lett gs z = some x) → ∃ q, say gs A p = some q
  | [], p, _ => ⟨p, rfl⟩
  | z :: A, p, h => by
    obtain ⟨x, hx⟩ := h z List.mem_cons_self
    obtain ⟨q, hq⟩ := say_some A (p * x) (fun y hy => h y (List.mem_cons_of_mem _ hy))
    exact ⟨q, by show (lett gs z).elim none _ = _; rw [hx]; exact hq⟩

theorem lett_gen {gs : List Pm} {z : Int} {x : Pm} (h : lett gs z = some x) : Gen (fun y => y ∈ gs) x := by
  obtain ⟨l, hl, rfl⟩ := lett_glet h
  exact (glet_gen 0 gs l.2).1 (Gen.of ⟨l, hl, rfl⟩)

theorem say_gen {gs : List Pm} : ∀ (A : List Int) (p q : Pm), Gen (fun y => y ∈ gs) p → say gs A p = some q → Gen (fun y => y ∈ gs) q
  | [], p, q, hp, h => by rw [← Option.some.inj h]; exact hp
  | z :: A, p, q, hp, h => by
    have h' : (lett gs z).elim none (fun x => say gs A (p * x)) = some q := h
    cases hl : lett gs z with
    | none => rw [hl] at h'; cases h'
    | some x =>
      rw [hl] at h'
      exact say_gen A (p * x) q (Gen.mul' hp (lett_gen hl)) h'

theorem lett_up {gs : List Pm} {z : Int} (h1 : 1 ≤ z) (h2 : z ≤ gs.length) : ∃ x, lett gs z = some x := by
  unfold lett
  rw [if_pos h1]
  exact ⟨_, List.getElem?_eq_getElem (by omega)⟩

theorem lett_down {gs : List Pm} {z : Int} (h1 : z ≤ -1) (h2 : -(gs.length : Int) ≤ z) : ∃ x, lett gs z = some x := by
  unfold lett
  rw [if_neg (by omega), if_pos h1, List.getElem?_eq_getElem (show (-z - 1).toNat < gs.length by omega)]
  exact ⟨_, rfl⟩

theorem reach_back {gs : List Pm} {a b : Nat} (h : Reach gs a b) : Reach gs b a := by
  obtain ⟨x, hx, rfl⟩ := h
  exact ⟨x⁻¹, hx.inv, Pm.inv_act x a⟩

theorem reach_trans {gs : List Pm} {a b c : Nat} (h : Reach gs a b) (k : Reach gs b c) : Reach gs a c := by
  obtain ⟨x, hx, rfl⟩ := h
  obtain ⟨y, hy, rfl⟩ := k
  exact ⟨y * x, Gen.mul' hy hx, Pm.act_mul y x a⟩

theorem orbS_eq {gs : List Pm} {n a b : Nat} (h : Reach gs a b) : orbS gs n a = orbS gs n b :=
  sorted_ext _ _ (orbS_sorted gs n a) (orbS_sorted gs n b) (fun x => by
    rw [mem_orbS, mem_orbS]
    exact ⟨fun ⟨h1, h2⟩ => ⟨h1, reach_trans (reach_back h) h2⟩, fun ⟨h1, h2⟩ => ⟨h1, reach_trans h h2⟩⟩)

theorem orbsTo_form {gs : List Pm} {n : Nat} : ∀ (k : Nat) (O : List Nat), O ∈ orbsTo gs n k → ∃ a, a < k ∧ O = orbS gs n a
  | 0, O, h => by cases h
  | k + 1, O, h => by
    by_cases hk : k ∈ (orbsTo gs n k).flatten
    · rw [orbsTo_yes hk] at h
      obtain ⟨a, h1, h2⟩ := orbsTo_form k O h
      exact ⟨a, by omega, h2⟩
    · rw [orbsTo_no hk] at h
      rcases List.mem_append.1 h with h | h
      · obtain ⟨a, h1, h2⟩ := orbsTo_form k O h
        exact ⟨a, by omega, h2⟩
      · exact ⟨k, by omega, List.mem_singleton.1 h⟩

theorem orbsTo_len {gs : List Pm} {n bell : Nat} {O : List Nat} (h : O ∈ orbsTo gs n n) (hb : bell ∈ O) : O.length = (orbS gs n bell).length := by
  obtain ⟨a, _, rfl⟩ := orbsTo_form n O h
  rw [orbS_eq (mem_orbS.1 hb).2]

theorem orbsTo_all {gs : List Pm} {n : Nat} : ∀ (k : Nat), k ≤ n → ∀ b, b < k → b ∈ (orbsTo gs n k).flatten
  | 0, _, b, hb => by omega
  | k + 1, hk, b, hb => by
    by_cases hm : k ∈ (orbsTo gs n k).flatten
    · rw [orbsTo_yes hm]
      by_cases e : b = k
      · rw [e]; exact hm
      · exact orbsTo_all k (by omega) b (by omega)
    · rw [orbsTo_no hm, List.flatten_append, List.mem_append]
      by_cases e : b = k
      · right
        rw [e]
        simp
        exact mem_orbS.2 ⟨by omega, 1, Gen.one, Pm.act_one k⟩
      · left
        exact orbsTo_all k (by omega) b (by omega)

theorem orbS_pos {gs : List Pm} {n bell : Nat} (h : bell < n) : 1 ≤ (orbS gs n bell).length := List.length_pos_of_mem (mem_orbS.2 ⟨h, 1, Gen.one, Pm.act_one bell⟩)

theorem orbS_le (gs : List Pm) (n bell : Nat) : (orbS gs n bell).length ≤ n := nodup_le ((orbS_sorted gs n bell).imp (fun h => Nat.ne_of_lt h)) (fun _ hb => (mem_orbS.1 hb).1)

/-- The size is the orbit's times the stabiliser's. -/
theorem sz_orb {gs hs : List Pm} {n bell : Nat} (h12 : n ≤ 12) (hb : bell < n) (hf : ∀ x, Gen (fun y => y ∈ gs) x → Fixes (fun b => n ≤ b) x) (hs' : ∀ x, Gen (fun y => y ∈ hs) x ↔ Gen (fun y => y ∈ gs) x ∧ x.act bell = bell) :
    sz (Gen (fun y => y ∈ gs)) n = (orbS gs n bell).length * sz (Gen (fun y => y ∈ hs)) n := by
  rw [sz_congr hs' n]
  refine orb_stab (Gen.sub _) h12 hf bell ((orbS_sorted gs n bell).imp (fun h => Nat.ne_of_lt h)) (fun b => ?_)
  rw [mem_orbS]
  constructor
  · exact fun h => h.2
  · rintro ⟨x, hx, rfl⟩
    exact ⟨act_below (hf x hx) hb, x, hx, rfl⟩

/-- What one row and what undoes another make. -/
theorem by_undo {n : Nat} {x y : Pm} {zs : List Int} (h12 : n ≤ 12) (hx : Fixes (fun b => n ≤ b) x) (hy : Fixes (fun b => n ≤ b) y) (hz : Undoes zs (cut n y)) : isRow zs ∧ zs.length = n ∧ by_ (cut n x) zs = cut n (x * y⁻¹) := by
  have hcy := cut_row h12 hy
  have hl : zs.length = n := by rw [hz.1, cut_length h12]
  have hr := isRow_undoes hcy hz
  refine ⟨hr, hl, ?_⟩
  rw [by_cut h12 hx hr hl]
  have hp : pad zs = y⁻¹ := by
    have := pad_undoes (by rw [cut_length h12]; exact h12) hcy hz
    rw [pad_cut h12 hy] at this
    exact this
  rw [hp]

theorem rchk_ok {n : Nat} {xs : List Int} (h1 : 1 ≤ n) (h12 : n ≤ 12) (hr : isRow xs) (hl : xs.length = n) : rchk n xs = 0 := by
  unfold rchk
  rw [if_pos (chk_ok (by omega) (by omega) hr), if_pos hl]

theorem fct_nine {n : Nat} (h : n ≤ 9) : fct n ≤ 362880 := by
  obtain rfl | rfl | rfl | rfl | rfl | rfl | rfl | rfl | rfl | rfl : n = 0 ∨ n = 1 ∨ n = 2 ∨ n = 3 ∨ n = 4 ∨ n = 5 ∨ n = 6 ∨ n = 7 ∨ n = 8 ∨ n = 9 := by omega
  all_goals decide

theorem Run.full {L : List (Int × Pm)} {i j : Nat} {S T : List (Pm × List Int)} (h : Run L i S) (k : Run L j T) (hj : T.length ≤ j) {e : Pm × List Int} (he : e ∈ S) : e ∈ T := by
  rcases Nat.lt_or_ge j i with hlt | hge
  · obtain ⟨S', h', _⟩ := h.pre (j + 1) hlt
    cases h' with
    | step h'' he' =>
      rw [k.det h''] at hj
      have := (List.getElem?_eq_some_iff.1 he').1
      omega
  · obtain ⟨m, e1⟩ := h.more k hge
    rw [e1]
    exact List.mem_append_left _ he

theorem say_lett {gs : List Pm} : ∀ (A : List Int) (p q : Pm), say gs A p = some q → ∀ z, z ∈ A → ∃ x, lett gs z = some x
  | [], _, _, _, z, hz => by cases hz
  | y :: A, p, q, h, z, hz => by
    have h' : (lett gs y).elim none (fun x => say gs A (p * x)) = some q := h
    cases hl : lett gs y with
    | none => rw [hl] at h'; cases h'
    | some x =>
      rw [hl] at h'
      rcases List.mem_cons.1 hz with e | e
      · rw [e]; exact ⟨x, hl⟩
      · exact say_lett A (p * x) q h' z e

theorem lett_bound {gs : List Pm} {z : Int} {x : Pm} (h : lett gs z = some x) : -(gs.length : Int) ≤ z ∧ z ≤ gs.length := by
  rcases Int.lt_or_le (gs.length : Int) z with h1 | h1
  · rw [lett_high h1] at h; cases h
  · rcases Int.lt_or_le z (-(gs.length : Int)) with h2 | h2
    · rw [lett_low h2] at h; cases h
    · exact ⟨h2, h1⟩

/-- What the search's word is. -/
theorem word_is {gs : List Pm} {i : Nat} {S : List (Pm × List Int)} {x : Pm} {wd A : List Int} {X : List Pm} (hX : ∀ x, Gen (fun y => y ∈ gs) x → x ∈ X) (h : Run (glet 0 gs) i S) (hm : (x, wd) ∈ S) (hA : say gs A 1 = some x) : say gs wd 1 = some x ∧ wd.length ≤ A.length ∧ wd.length ≤ X.length := by
  have hX' : ∀ x, Gen (fun x => ∃ l, l ∈ glet 0 gs ∧ l.2 = x) x → x ∈ X := fun x hx => hX x ((glet_gen 0 gs x).1 hx)
  obtain ⟨j, T, hT, hj⟩ := Run.exists hX'
  obtain ⟨wd', h1, h2⟩ := hT.short hj (say_wds A 1 x 0 Wds.nil hA)
  have e := pair_eq hT.ok.nodup (h.full hT hj hm) h1
  have h3 := run_words h _ hm
  have h4 := h.len hX'
  refine ⟨h.said _ hm, by rw [e]; omega, by simp only at h3; omega⟩

/-- How long the orbit of a bell is, as far as it is found. -/
structure Cnted (X : List (List Nat)) (bell ol i j c : Nat) : Prop where
  two : c = ol ∨ c = 0
  ahead : bell ∈ (X.take i).flatten → c = ol
  here : ∀ O, X[i]? = some O → bell ∈ O.take j → c = ol

theorem Cnted.start (X : List (List Nat)) (bell ol : Nat) : Cnted X bell ol 0 0 0 := ⟨Or.inr rfl, fun h => by simp at h, fun O _ h => by simp at h⟩

theorem Cnted.hit (X : List (List Nat)) (bell ol i j : Nat) : Cnted X bell ol i (j + 1) ol := ⟨Or.inl rfl, fun _ => rfl, fun _ _ _ => rfl⟩

theorem Cnted.miss {X : List (List Nat)} {bell ol i j c : Nat} {O : List Nat} {z : Nat} (h : Cnted X bell ol i j c) (hO : X[i]? = some O) (hz : O[j]? = some z) (hne : z ≠ bell) : Cnted X bell ol i (j + 1) c :=
  ⟨h.two, h.ahead, fun O' hO' hb => by
    rw [hO] at hO'
    have e := Option.some.inj hO'
    subst e
    rw [List.take_add_one, hz, List.mem_append] at hb
    rcases hb with hb | hb
    · exact h.here O hO hb
    · simp at hb; exact absurd hb.symm hne⟩

theorem Cnted.next {X : List (List Nat)} {bell ol i c : Nat} {O : List Nat} (h : Cnted X bell ol i O.length c) (hO : X[i]? = some O) : Cnted X bell ol (i + 1) 0 c :=
  ⟨h.two, fun hb => by
    rw [List.take_add_one, hO, List.flatten_append, List.mem_append] at hb
    rcases hb with hb | hb
    · exact h.ahead hb
    · exact h.here O hO (by simpa using hb), fun O _ hb => by simp at hb⟩

theorem Cnted.done {X : List (List Nat)} {bell ol c : Nat} (h : Cnted X bell ol X.length 0 c) (hb : bell ∈ X.flatten) : c = ol := h.ahead (by rw [List.take_length]; exact hb)

end Go.Proofs.Ytimfoggjocajiaa

/- Plain: the length and the lists of a slice of lists. -/
namespace Go.Proofs.Ytimfoggjocajiaa
open Go.RowKit

theorem IntsAll.len {w : World} {v : Value} {xss : List (List Int)} (h : IntsAll w v xss) : ∃ p c, v = .slice p xss.length c := by
  obtain ⟨vs, h1, h2, _⟩ := h
  rw [← h2]; exact h1.form

/-- The k-th list of a slice of lists that is not empty. -/
theorem IntsAll.cell {w : World} {v : Value} {xss : List (List Int)} (h : IntsAll w v xss) (h0 : 1 ≤ xss.length) : ∃ b off cap, v = .slice (some ⟨b, off, none⟩) xss.length cap ∧ b < w.heap.size ∧ xss.length ≤ cap ∧ cap ≤ 9223372036854775807 ∧
    ∀ k, k < xss.length → ∃ p c, w.cell? ⟨b, off + k, none⟩ = some (.slice p (xss.getD k []).length c) ∧ Hid (Ints w (.slice p (xss.getD k []).length c) (xss.getD k [])) := by
  obtain ⟨vs, h1, h2, h3⟩ := h
  rcases h1 with ⟨rfl, _⟩ | ⟨b, off, cap, rfl, h4, h5, h6, h7, h8⟩
  · simp at h2; omega
  · refine ⟨b, off, cap, by rw [h2], h7, by omega, h6, fun k hk => ?_⟩
    exact elAt h8 (by omega) (h3 k hk)

theorem IntsAll.cut {w : World} {b off K cap k : Nat} {X : List (List Int)} (h : IntsAll w (.slice (some ⟨b, off, none⟩) K cap) X) (hl : X.length = K) (hk : k ≤ K) : IntsAll w (.slice (some ⟨b, off, none⟩) k cap) (X.take k) := by
  obtain ⟨vs, h1, h2, h3⟩ := h
  rcases Nat.eq_zero_or_pos k with rfl | h0
  · exact ⟨[], Or.inl ⟨rfl, _, _, rfl⟩, by simp, fun j hj => by simp at hj⟩
  rcases h1 with ⟨rfl, _⟩ | ⟨b', off', cap', e, h4, h5, h6, h7, h8⟩
  · simp at h2; omega
  obtain ⟨⟨rfl, rfl⟩, _, rfl⟩ : (b = b' ∧ off = off') ∧ K = vs.length ∧ cap = cap' := by
    simpa using e
  refine ⟨vs.take k, Or.inr ⟨b, off, cap, ?_, ?_, ?_, h6, h7, fun j hj => ?_⟩, ?_, fun j hj => ?_⟩
  · rw [List.length_take, Nat.min_eq_left (by omega)]
  · rw [List.length_take]; omega
  · rw [List.length_take]; omega
  · rw [List.length_take] at hj
    rw [h8 j (by omega)]
    simp [List.getD, show j < k by omega]
  · rw [List.length_take, List.length_take, h2]
  · rw [List.length_take] at hj
    have e1 : (vs.take k).getD j undef = vs.getD j undef := by simp [List.getD, show j < k by omega]
    have e2 : (X.take k).getD j [] = X.getD j [] := by simp [List.getD, show j < k by omega]
    rw [e1, e2]
    exact h3 j (by omega)

end Go.Proofs.Ytimfoggjocajiaa
