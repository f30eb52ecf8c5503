/- Joined: CoJ, CoK, CoL, GMay, May, CoM, CoS. -/
import Derived.Test.YtimfoggjocajiaaJ11
import Derived.ScopeJumps
import Derived.WalkMore
import Derived.Test.YtimfoggjocajiaaJ4
import Derived.Test.YtimfoggjocajiaaJ2
import Derived.Test.YtimfoggjocajiaaJ5
import Derived.Test.YtimfoggjocajiaaJ10
import Derived.Test.YtimfoggjocajiaaJ6
/- Plain: parts by marks. What coset's fill has laid so far. -/
namespace Go.Proofs.Ytimfoggjocajiaa
open Go.RowKit

/-- The parts of rows, by marks. -/
def MarkOk (H : Pm → Prop) (n : Nat) (T : List (Pm × List Int)) (F : Int → Option Value) : Prop := ∀ x, Fixes (fun b => n ≤ b) x → F ((mkN H n x : Nat) : Int) = partV H T x

theorem MarkOk.new {H : Pm → Prop} (hH : Sub H) {n : Nat} (h12 : n ≤ 12) (hf : ∀ h, H h → Fixes (fun b => n ≤ b) h) {T : List (Pm × List Int)} {d : Pm × List Int} {F : Int → Option Value} (h : ∀ x, Fixes (fun b => n ≤ b) x → ¬ H (x * d.1⁻¹) → F ((mkN H n x : Nat) : Int) = partV H T x) (hd : Fixes (fun b => n ≤ b) d.1) (hn : ∀ e, e ∈ T → ¬ H (d.1 * e.1⁻¹)) :
    MarkOk H n (T ++ [d]) (upd F ((mkN H n d.1 : Nat) : Int) (.int .i64 ((T.length : Nat) : Int))) := by
  classical
  intro x hx
  have hm := mkN_eq hH h12 hf hd hx
  unfold upd
  by_cases hc : H (x * d.1⁻¹)
  · have e : ((mkN H n x : Nat) : Int) = ((mkN H n d.1 : Nat) : Int) := by rw [hm.2 hc]
    rw [if_pos e]
    have hx' : ¬ cix H T x < T.length := fun hc' => by
      obtain ⟨e, he, hHe⟩ := cix_at hc'
      refine hn e (List.mem_of_getElem? he) ?_
      have := hH.mul (hH.inv hc) hHe
      rwa [Pm.inv_prod, Pm.inv_inv, Pm.mul_assoc, Pm.inv_mul_cancel] at this
    unfold partV
    rw [cix_app, List.length_append, List.length_singleton, if_neg hx', if_pos hc, if_pos (by omega)]
  · have e : ¬ ((mkN H n x : Nat) : Int) = ((mkN H n d.1 : Nat) : Int) := fun e => hc (hm.1 (by omega))
    rw [if_neg e, h x hx hc]
    unfold partV
    rw [cix_app, List.length_append, List.length_singleton]
    by_cases hc' : cix H T x < T.length
    · rw [if_pos hc', if_pos hc', if_pos (by omega)]
    · rw [if_neg hc', if_neg hc', if_neg hc, if_neg (by omega)]

theorem MarkOk.first {H : Pm → Prop} (hH : Sub H) {n : Nat} (h12 : n ≤ 12) (hf : ∀ h, H h → Fixes (fun b => n ≤ b) h) : MarkOk H n [(1, [])] (upd (fun _ => none) ((mkN H n 1 : Nat) : Int) (.int .i64 0)) :=
  MarkOk.new (T := []) (d := (1, [])) hH h12 hf (fun x _ _ => by unfold partV; rw [if_neg (by simp)]) (fixes_sub _).one (fun e he => by cases he)

theorem MarkOk.more {H : Pm → Prop} (hH : Sub H) {n : Nat} (h12 : n ≤ 12) (hf : ∀ h, H h → Fixes (fun b => n ≤ b) h) {T : List (Pm × List Int)} {d : Pm × List Int} {F : Int → Option Value} (h : MarkOk H n T F) (hd : Fixes (fun b => n ≤ b) d.1) (hn : ∀ e, e ∈ T → ¬ H (d.1 * e.1⁻¹)) :
    MarkOk H n (T ++ [d]) (upd F ((mkN H n d.1 : Nat) : Int) (.int .i64 ((T.length : Nat) : Int))) := MarkOk.new hH h12 hf (fun x hx _ => h x hx) hd hn

theorem mkN_le {H : Pm → Prop} {n : Nat} (x : Pm) (h12 : n ≤ 12) : mkN H n x ≤ 479001600 := rkP_le _ h12

/-- A table in memory. -/
abbrev tabC (n M : Nat) (vb vn vw : Value) : Array Value := #[.int .i64 n, vb, .map (some M), vn, vw]

theorem cells5 {w : World} {T : Nat} {a b c d e : Value} {t : TypeId} (h : w.heap[T]? = some (.cells #[a, b, c, d, e] t)) :
    w.cell? ⟨T, 0, none⟩ = some a ∧ w.cell? ⟨T, 1, none⟩ = some b ∧ w.cell? ⟨T, 2, none⟩ = some c ∧ w.cell? ⟨T, 3, none⟩ = some d ∧ w.cell? ⟨T, 4, none⟩ = some e ∧ w.frozen? ⟨T, 3, none⟩ = false ∧ w.frozen? ⟨T, 4, none⟩ = false := by
  simp [World.cell?, World.frozen?, h]

theorem set5n {w : World} {T : Nat} {a b c d e : Value} {t : TypeId} (h : w.heap[T]? = some (.cells #[a, b, c, d, e] t)) (u : Value) : (w.setCell ⟨T, 3, none⟩ u).heap[T]? = some (.cells #[a, b, c, u, e] t) := by
  simp [World.setCell, Array.getElem?_modify, h]

theorem set5w {w : World} {T : Nat} {a b c d e : Value} {t : TypeId} (h : w.heap[T]? = some (.cells #[a, b, c, d, e] t)) (u : Value) : (w.setCell ⟨T, 4, none⟩ u).heap[T]? = some (.cells #[a, b, c, d, u] t) := by
  simp [World.setCell, Array.getElem?_modify, h]

/-- What fill has laid so far. -/
structure FRel (w wr : World) (T M n : Nat) (vb v1 v2 v3 : Value) (s1 s2 s3 : List Value) (A1 A2 A3 : List (List Int)) (vl : Value) (L : List Int) (F : Int → Option Value) (cnt : Nat) : Prop where
  blk : wr.heap[T]? = some (.cells (tabC n M vb v3 v2) 110)
  quad : Quad w.heap.size wr v1 v2 v3 s1 s2 s3 A1 A2 A3 vl L
  map : IMap wr M cnt F
  frm : Frm w.heap.size T M w wr

theorem Frm.grown {B sb mb : Nat} {w wr w' : World} {g : Option Nat} (h : Frm B sb mb w wr) (hg : wr.grownBy w' g) (hB : B ≤ wr.heap.size) (hn : ∀ x, g = some x → B ≤ x ∨ x = sb ∨ x = mb) : Frm B sb mb w w' :=
  h.trans ⟨hg.os, hg.tape, hg.output, hg.size, fun x h1 h2 h3 => hg.block x (by omega) (fun e => by
    rcases hn x e.symm with h4 | h4 | h4
    · omega
    · exact h2 h4
    · exact h3 h4)⟩

section
variable {w wr w' : World} {T M n cnt : Nat} {vb v1 v2 v3 v' u vl : Value} {s1 s2 s3 : List Value} {A1 A2 A3 : List (List Int)} {L X : List Int} {F F' : Int → Option Value}

theorem FRel.later (hT : T < w.heap.size) (h : FRel w wr T M n vb v1 v2 v3 s1 s2 s3 A1 A2 A3 vl L F cnt) (hb : Below wr.heap.size wr w') : FRel w w' T M n vb v1 v2 v3 s1 s2 s3 A1 A2 A3 vl L F cnt :=
  ⟨(hb.block T (Nat.lt_of_lt_of_le hT h.frm.size)).trans h.blk, h.quad.later hb, h.map.below hb h.map.lt, h.frm.trans (Frm.of_below hb h.frm.size)⟩

theorem FRel.put (hT : T < w.heap.size) (hTM : T ≠ M) (h : FRel w wr T M n vb v1 v2 v3 s1 s2 s3 A1 A2 A3 vl L F cnt) (hm : IMap w' M (cnt + 1) F') (hg : wr.grownBy w' (some M)) : FRel w w' T M n vb v1 v2 v3 s1 s2 s3 A1 A2 A3 vl L F' (cnt + 1) :=
  ⟨(hg.block T (Nat.lt_of_lt_of_le hT h.frm.size) (fun e => hTM (Option.some.inj e))).trans h.blk, h.quad.put h.map hg, hm, h.frm.grown hg h.frm.size (fun _ hx => Or.inr (Or.inr (Option.some.inj hx).symm))⟩

theorem FRel.add1 (hT : T < w.heap.size) (h : FRel w wr T M n vb v1 v2 v3 s1 s2 s3 A1 A2 A3 vl L F cnt) (hu : wr.ownsRow w.heap.size 3 1 u X.length (X.map (Value.int .i64))) (hua : Apt u vl) (hown : w'.ownsRow w.heap.size 23 1 v' (s1.length + 1) (s1 ++ [u])) (hg : wr.grownBy w' v1.ownBlock)
    (hp : v'.ownBlock = v1.ownBlock ∨ (v'.ownBlock = some wr.heap.size ∧ wr.grownBy w' none)) : FRel w w' T M n vb v' v2 v3 (s1 ++ [u]) s2 s3 (A1 ++ [X]) A2 A3 vl L F cnt :=
  ⟨(hg.block T (Nat.lt_of_lt_of_le hT h.frm.size) (fun e => by have := (h.quad.tri.l1.row.lt T e.symm).1; omega)).trans h.blk, h.quad.add1 hu hua hown hg hp, map_row_kept h.quad.tri.l1.row h.map hg, h.frm.grown hg h.frm.size (fun x hx => Or.inl (h.quad.tri.l1.row.lt x hx).1)⟩

theorem FRel.word (hT : T < w.heap.size) (hTM : T ≠ M) (h : FRel w wr T M n vb v1 v2 v3 s1 s2 s3 A1 A2 A3 vl L F cnt) (hu : wr.ownsRow w.heap.size 3 1 u X.length (X.map (Value.int .i64))) (hua : Apt u vl) (hown : w'.ownsRow w.heap.size 23 1 v' (s2.length + 1) (s2 ++ [u])) (hg : wr.grownBy w' v2.ownBlock)
    (hp : v'.ownBlock = v2.ownBlock ∨ (v'.ownBlock = some wr.heap.size ∧ wr.grownBy w' none)) : FRel w (w'.setCell ⟨T, 4, none⟩ v') T M n vb v1 v' v3 s1 (s2 ++ [u]) s3 A1 (A2 ++ [X]) A3 vl L F cnt :=
  have hb := (hg.block T (Nat.lt_of_lt_of_le hT h.frm.size) (fun e => by have := (h.quad.tri.l2.row.lt T e.symm).1; omega)).trans h.blk
  ⟨set5w hb v', (h.quad.add2 hu hua hown hg hp).set hT v', (map_row_kept h.quad.tri.l2.row h.map hg).of_block (Below.heap_setCell _ _ _ _ (by show M ≠ T; exact hTM.symm)), (h.frm.grown hg h.frm.size (fun x hx => Or.inl (h.quad.tri.l2.row.lt x hx).1)).set 4 v'⟩

theorem FRel.fin (hT : T < w.heap.size) (hTM : T ≠ M) (h : FRel w wr T M n vb v1 v2 v3 s1 s2 s3 A1 A2 A3 vl L F cnt) (hown : w'.ownsRow w.heap.size 23 1 v' (s3.length + 1) (s3 ++ [vl])) (hg : wr.grownBy w' v3.ownBlock)
    (hp : v'.ownBlock = v3.ownBlock ∨ (v'.ownBlock = some wr.heap.size ∧ wr.grownBy w' none)) : FRel w (w'.setCell ⟨T, 3, none⟩ v') T M n vb v1 v2 v' s1 s2 (s3 ++ [vl]) A1 A2 (A3 ++ [L]) (.slice none 0 0) [] F cnt :=
  have hb := (hg.block T (Nat.lt_of_lt_of_le hT h.frm.size) (fun e => by have := (h.quad.tri.l3.row.lt T e.symm).1; omega)).trans h.blk
  ⟨set5n hb v', Quad.bare ((h.quad.tri.add3 h.quad.line hown hg hp).set hT v'), (map_row_kept h.quad.tri.l3.row h.map hg).of_block (Below.heap_setCell _ _ _ _ (by show M ≠ T; exact hTM.symm)), (h.frm.grown hg h.frm.size (fun x hx => Or.inl (h.quad.tri.l3.row.lt x hx).1)).set 3 v'⟩

theorem FRel.line (hT : T < w.heap.size) (h : FRel w wr T M n vb v1 v2 v3 s1 s2 s3 A1 A2 A3 (.slice none 0 0) [] F cnt) {L' : List Int} (hown : w'.ownsRow wr.heap.size 3 1 v' L'.length (L'.map (Value.int .i64))) (hb : Below wr.heap.size wr w') : FRel w w' T M n vb v1 v2 v3 s1 s2 s3 A1 A2 A3 v' L' F cnt := by
  have h' := h.later hT hb
  refine ⟨h'.blk, ⟨h'.quad.tri, owns_base hown h.frm.size, fun y hy g h1 h2 => ?_⟩, h'.map, h'.frm⟩
  have hge := (hown.lt g h2).1
  have hlt : g < wr.heap.size := by
    rcases List.mem_append.1 hy with hy | hy
    · rcases List.mem_append.1 hy with hy | hy
      · obtain ⟨Y, hY⟩ := h.quad.tri.l1.inner hy; exact (hY.lt g h1).2
      · obtain ⟨Y, hY⟩ := h.quad.tri.l2.inner hy; exact (hY.lt g h1).2
    · obtain ⟨Y, hY⟩ := h.quad.tri.l3.inner hy; exact (hY.lt g h1).2
  omega

theorem FRel.write {g k c : Nat} (hT : T < w.heap.size) (h : FRel w wr T M n vb v1 v2 v3 s1 s2 s3 A1 A2 A3 (.slice (some ⟨g, 0, none⟩) k c) L F cnt) (hk : L.length = k) (m : Nat) (x : Int) : FRel w (wr.setCell ⟨g, m, none⟩ (.int .i64 x)) T M n vb v1 v2 v3 s1 s2 s3 A1 A2 A3 (.slice (some ⟨g, 0, none⟩) k c) (L.set m x) F cnt := by
  have hg := (h.quad.line.lt g rfl).1
  have hgm : M ≠ g := fun e => by
    obtain ⟨cur, hc⟩ := owns_obj h.quad.line (b := g) rfl
    obtain ⟨es, cl, ho⟩ := h.map.obj
    rw [e, hc] at ho
    cases ho
  exact ⟨(Below.heap_setCell _ _ _ _ (by show T ≠ g; omega)).trans h.blk, h.quad.write hk m x, h.map.of_block (Below.heap_setCell _ _ _ _ hgm), h.frm.trans ⟨rfl, rfl, rfl, by simp [World.setCell], fun y h1 _ _ => Below.heap_setCell _ _ _ _ (by show y ≠ g; omega)⟩⟩

theorem FRel.lists {B1 B2 B3 : List (List Int)} {L' : List Int} (h : FRel w wr T M n vb v1 v2 v3 s1 s2 s3 A1 A2 A3 vl L F cnt) (e1 : A1 = B1) (e2 : A2 = B2) (e3 : A3 = B3) (e4 : L = L') : FRel w wr T M n vb v1 v2 v3 s1 s2 s3 B1 B2 B3 vl L' F cnt := by
  subst e1; subst e2; subst e3; subst e4; exact h

end

end Go.Proofs.Ytimfoggjocajiaa

/- Contract: coset's fill. -/
namespace Go.Proofs.Ytimfoggjocajiaa
open Go.RowKit

/-- What fill stands on. -/
structure FillIn (w0 w : World) (B T M n m0 b k0 : Nat) (vb vlet : Value) (H : Pm → Prop) (fs : Nat → Int → Option Value) (gss : List (List Int)) (X : List Pm) : Prop where
  sub : Sub H
  hfix : ∀ h, H h → Fixes (fun b => n ≤ b) h
  br : BrAt w0 vb n m0 H b fs k0
  b0 : Below w0.heap.size w0 w
  t0 : w0.heap.size ≤ T
  mt0 : w0.heap.size ≤ M
  tm : T ≠ M
  tB : T < B
  mB : M < B
  Bw : B ≤ w.heap.size
  lets : LetAt w0 B w vlet n gss
  rows : RowsN n gss
  one : 1 ≤ n
  twelve : n ≤ 12
  few : gss.length ≤ 1000
  all : ∀ x, Gen (fun x => ∃ l, l ∈ letters 0 gss ∧ l.2 = x) x → x ∈ X
  allLe : X.length ≤ 1000000

theorem FillIn.tw {w0 w : World} {B T M n m0 b k0 : Nat} {vb vlet : Value} {H : Pm → Prop} {fs : Nat → Int → Option Value} {gss : List (List Int)} {X : List Pm} (h : FillIn w0 w B T M n m0 b k0 vb vlet H fs gss X) : T < w.heap.size := Nat.lt_of_lt_of_le h.tB h.Bw

/-- What fill leaves. -/
def FillPost (w : World) (T M n : Nat) (vb : Value) (H : Pm → Prop) (gss : List (List Int)) (e : Ending) (w' : World) : Prop :=
  e = .returned (.tuple #[]) ∧ ∃ (T' : List (Pm × List Int)) (N : List (List Nat)) (F : Int → Option Value) (cnt : Nat) (v1 v2 v3 : Value) (s1 s2 s3 : List Value), RunC H (letters 0 gss) T'.length T' N ∧ MarkOk H n T' F ∧ FRel w w' T M n vb v1 v2 v3 s1 s2 s3 (T'.map (fun e => cut n e.1)) (T'.map (·.2)) (N.map natI) (.slice none 0 0) [] F cnt

/-- Where fill jumps to. -/
inductive FillJ (w : World) (T M n : Nat) (vb vlet : Value) (H : Pm → Prop) (gss : List (List Int)) : Act → World → Prop
  | mk {w' : World} {i cnt : Nat} {v1 v2 v3 : Value} {s1 s2 s3 : List Value} {T' : List (Pm × List Int)} {N : List (List Nat)} {F : Int → Option Value} {x2 x3 x4 x5 x8 x9 x10 x11 x12 x13 x14 x15 x16 x17 x18 x19 x20 x21 x22 x23 x24 x25 x26 x27 x28 x29 x30 x31 x32 x33 x34 x35 x36 x37 x38 x39 x40 x41 x42 x43 x44 x45 x46 x47 x48 x49 x50 x51 x52 x53 x54 x55 x56 x57 x58 x59 x60 x61 x62 x63 x64 x65 x66 x67 x68 x69 x70 x71 x72 x73 x74 x75 x76 x77 x78 x79 x80 x81 x82 x83 x84 x85 x86 x87 x88 x89 x90 x91 x92 x93 x94 x95 x96 x97 x98 x99 x100 x101 x102 x103 x104 x105 x106 x107 x108 x109 x110 x111 x112 x113 x114 x115 x116 x117 x118 x119 x120 x121 x122 x123 x124 : Value} :
    i < T'.length → RunC H (letters 0 gss) i T' N → MarkOk H n T' F → cnt ≤ T'.length → FRel w w' T M n vb v1 v2 v3 s1 s2 s3 (T'.map (fun e => cut n e.1)) (T'.map (·.2)) (N.map natI) (.slice none 0 0) [] F cnt →
    FillJ w T M n vb vlet H gss { tmps := List.toArray (Value.pointer (some ⟨T, 0, none⟩) :: vlet :: x2 :: x3 :: x4 :: x5 :: v1 :: Value.int .i64 (i : Int) :: x8 :: x9 :: x10 :: x11 :: x12 :: x13 :: x14 :: x15 :: x16 :: x17 :: x18 :: x19 :: x20 :: x21 :: x22 :: x23 :: x24 :: x25 :: x26 :: x27 :: x28 :: x29 :: x30 :: x31 :: x32 :: x33 :: x34 :: x35 :: x36 :: x37 :: x38 :: x39 :: x40 :: x41 :: x42 :: x43 :: x44 :: x45 :: x46 :: x47 :: x48 :: x49 :: x50 :: x51 :: x52 :: x53 :: x54 :: x55 :: x56 :: x57 :: x58 :: x59 :: x60 :: x61 :: x62 :: x63 :: x64 :: x65 :: x66 :: x67 :: x68 :: x69 :: x70 :: x71 :: x72 :: x73 :: x74 :: x75 :: x76 :: x77 :: x78 :: x79 :: x80 :: x81 :: x82 :: x83 :: x84 :: x85 :: x86 :: x87 :: x88 :: x89 :: x90 :: x91 :: x92 :: x93 :: x94 :: x95 :: x96 :: x97 :: x98 :: x99 :: x100 :: x101 :: x102 :: x103 :: x104 :: x105 :: x106 :: x107 :: x108 :: x109 :: x110 :: x111 :: x112 :: x113 :: x114 :: x115 :: x116 :: x117 :: x118 :: x119 :: x120 :: x121 :: x122 :: x123 :: x124 :: []), defers := [] } w'

theorem line_set {ln : List Nat} {j m : Nat} (k : Nat) (h : ln.length = j) (hj : j < m) : (natI ln ++ List.replicate (m - j) (0 : Int)).set j (k : Int) = natI (ln ++ [k]) ++ List.replicate (m - (j + 1)) 0 := by
  have h9 := set_at (0 : Int) (k : Int) (m - (j + 1)) (natI ln)
  rw [natI_length, h, show m - (j + 1) + 1 = m - j by omega] at h9
  rw [h9]
  unfold natI
  rw [List.map_append]
  rfl

/-- A scope whose first pass is as all others. -/
theorem scope_twice {P : Program} {Q : Exit → Act → World → Prop} {a : Act} {w : World} {c body : Code} (l : Nat) (J : Act → World → Prop) (μ : Act → World → Nat) (hf : findLabel c l = some (Code.skip.seq body))
    (pass : ∀ a w, J a w → body.wp P (Exit.jump l (fun a' w' => J a' w' ∧ μ a' w' < μ a w) Q) a w)
    (first : Hid (∀ a w, J a w → body.wp P (Exit.jump l J Q) a w) → c.wp P (Exit.jump l J Q) a w) : (Code.scope c).wp P Q a w :=
  wp_scope_jumps l J μ hf (first (fun a w h => Code.wp_mono (fun e b u hb => by cases e <;> first | exact hb | exact ⟨hb.1, hb.2.1⟩) (pass a w h))) (fun a w h => by
    apply wp_seq_k
    intro K hK
    apply wp_skip
    exact hK _ _ (pass a w h))

set_option maxRecDepth 20000 in
set_option maxHeartbeats 16000000 in
theorem fill_ok (w0 w : World) (B T M n m0 b k0 : Nat) (vb vlet : Value) (H : Pm → Prop) (fs : Nat → Int → Option Value) (gss : List (List Int)) (X : List Pm) (hI : FillIn w0 w B T M n m0 b k0 vb vlet H fs gss X) (hblk : w.heap[T]? = some (.cells (tabC n M vb (.slice none 0 0) (.slice none 0 0)) 110)) (hmap : IMap w M 0 (fun _ => none)) :
    Calls Try.prog 73 #[.pointer (some ⟨T, 0, none⟩), vlet] w fun e w' => FillPost w T M n vb H gss e w' := by
  obtain ⟨i0, hi0, hz0, hz1, hz2⟩ := info_parts Try.info23
  obtain ⟨j0, hji, hjz0, hjz1, hjz2⟩ := info_parts Try.info3
  have h1 := hI.one
  have h12 := hI.twelve
  have hc := cells5 hblk
  obtain ⟨c0, c1, c2, c3, c4, f3, f4⟩ := hc
  have HBLK := hide hblk
  have HMAP := hide hmap
  clear hblk hmap
  have HRo := hide (rounds_ok n w h1 h12)
  go_enter Try.func73, Try.ntmps73
  refine scope_twice 0 (FillJ w T M n vb vlet H gss) (fun a' _ => X.length - (intOf (a'.tmps.getD 7 undef)).toNat) rfl ?_ ?_
  · intro a' w' hJ
    cases hJ with
    | @mk _ i cnt v1 v2 v3 s1 s2 s3 T' N F x2 x3 x4 x5 x8 x9 x10 x11 x12 x13 x14 x15 x16 x17 x18 x19 x20 x21 x22 x23 x24 x25 x26 x27 x28 x29 x30 x31 x32 x33 x34 x35 x36 x37 x38 x39 x40 x41 x42 x43 x44 x45 x46 x47 x48 x49 x50 x51 x52 x53 x54 x55 x56 x57 x58 x59 x60 x61 x62 x63 x64 x65 x66 x67 x68 x69 x70 x71 x72 x73 x74 x75 x76 x77 x78 x79 x80 x81 x82 x83 x84 x85 x86 x87 x88 x89 x90 x91 x92 x93 x94 x95 x96 x97 x98 x99 x100 x101 x102 x103 x104 x105 x106 x107 x108 x109 x110 x111 x112 x113 x114 x115 x116 x117 x118 x119 x120 x121 x122 x123 x124 hi hRun hNum hcnt hF =>
    obtain ⟨lp, lc, elet⟩ := hI.lets.form
    have hO := hRun.ok hI.sub
    obtain ⟨e, hE⟩ : ∃ e, T'[i]? = some e := ⟨_, List.getElem?_eq_getElem hi⟩
    have hem := List.mem_of_getElem? hE
    have HEF : Hid (Fixes (fun b => n ≤ b) e.1) := gens_fix h12 hI.rows ((letters_gen 0 gss _).1 (hO.ok.gen e hem))
    have HTE := hide (tryCs_ok hI.sub hO.ok hem)
    have HE := hide hE
    have HRUN := hide (RunC.step hRun hE)
    have hTw := hI.tw
    have hs3 : s3.length ≤ 1000000 := by
      have h9 := hF.quad.tri.l3.len
      rw [List.length_map, hO.len] at h9
      have h8 := hO.ok.few hI.sub hI.all
      have h7 := hI.allLe
      omega
    have HI := hide hI
    have hfew := hI.few
    have HS3 := hide hF.quad.tri.l3.len
    have HNUM := hide hNum
    have HCNT := hide hcnt
    have HF0 := hide hF
    have HFS := hide hF.frm.size
    obtain ⟨xl, hxl⟩ : ∃ xl, xl = X.length := ⟨_, rfl⟩
    have HXL := hide hxl
    have hxle : xl ≤ 1000000 := by rw [hxl]; exact hI.allLe
    rw [← hxl]
    generalize hgl : gss.length = gl at *
    have HGL := hide hgl
    subst elet
    clear hO hE hem hRun hNum hcnt hF hI hxl hgl c0 c1 c2 c3 c4 f3 f4 HRo
    go_wp2_with (at_make; refine wpList_make_full _ rfl _ _ 23 rfl w'.heap.size 3 j0 (.int .i64 0) 1 Try.underlying23 hji hjz0 hjz1 _ _ _ _ (2 * gl) rfl rfl (by omega) (by omega) ?b2 ?b3 (Nat.le_refl _) ?_)
    case b2 => rw [hjz2]; omega
    case b3 => unfold maxLen; omega
    intro w1 hown1 hg1
    rw [made_ints] at hown1
    have hb1 : Below w'.heap.size w' w1 := (Below.refl _ _).grown hg1 (Nat.le_refl _) (fun k h => by cases h)
    have HF1 := hide (HF0.out.line (L' := List.replicate (2 * gl) 0) hTw (by rw [List.length_replicate]; exact hown1) hb1)
    have HLB : Hid (w.heap.size ≤ w'.heap.size) := HFS
    obtain ⟨lg, hlg⟩ : ∃ lg, lg = w'.heap.size := ⟨_, rfl⟩
    have HF1 : Hid (FRel w w1 T M n vb v1 v2 v3 s1 s2 s3 (T'.map (fun e => cut n e.1)) (T'.map (·.2)) (N.map natI) (.slice (some ⟨w'.heap.size, 0, none⟩) (2 * gl) (2 * gl)) (natI [] ++ List.replicate (2 * gl - 0) 0) F cnt) := HF1
    clear hown1 hg1 hb1 HF0 hlg
    go_wp2
    go_loopw [6, 42] (fun sr sj wr => ∃ (j cnt : Nat) (v1 v2 : Value) (s1 s2 : List Value) (T2 : List (Pm × List Int)) (ln : List Nat) (F : Int → Option Value), j ≤ 2 * gl ∧ sr = v1 ∧ sj = .int .i64 j ∧ Hid ((T2, ln) = tryCs H (letters 0 gss) e T' j) ∧ Hid (MarkOk H n T2 F) ∧ Hid (cnt ≤ T2.length) ∧ FRel w wr T M n vb v1 v2 v3 s1 s2 s3 (T2.map (fun e => cut n e.1)) (T2.map (·.2)) (N.map natI) (.slice (some ⟨w'.heap.size, 0, none⟩) (2 * gl) (2 * gl)) (natI ln ++ List.replicate (2 * gl - j) 0) F cnt) (fun _ sj _ => 2 * gl - (intOf sj).toNat)
    case atStart => exact ⟨0, cnt, _, v2, s1, s2, T', [], F, Nat.zero_le _, rfl, rfl, (tryCs_zero H (letters 0 gss) e T').symm, HNUM, HCNT, HF1.out⟩
    case round =>
      clear HF1 HNUM HCNT
      obtain ⟨j, cnt, v1, v2, s1, s2, T2, ln, F, hj, rfl, rfl, hTr, hNum, hcnt, hF⟩ := hrel
      have hTO := HTE.out j (by rw [letters_length, HGL.out]; exact hj)
      rw [← hTr.out] at hTO
      have hTx : T2.length ≤ xl := by rw [HXL.out]; exact hTO.ok.few HI.out.sub HI.out.all
      have hl1' : s1.length = T2.length := by rw [hF.quad.tri.l1.len, List.length_map]
      have hl2' : s2.length = T2.length := by rw [hF.quad.tri.l2.len, List.length_map]
      obtain ⟨more, hmore0⟩ := hTO.more
      have hmore : T2 = T' ++ more := hmore0
      have hiT2 : i < T2.length := by rw [hmore, List.length_append]; omega
      have hE2 : T2[i]? = some e := by rw [hmore, List.getElem?_append_left hi]; exact HE.out
      have hlnl : ln.length = j := hTO.line.1
      have hr1 := hF.quad.tri.l1.row
      rw [hl1'] at hr1
      obtain ⟨g1, q1, e1, hg1a, hg1b, hc1a, hc1b⟩ := owns_form hr1 (by omega)
      have HF := hide hF
      have HL1 := hide hl1'
      have HL2 := hide hl2'
      have HLN := hide hlnl
      have HE2 := hide hE2
      by_cases hjl : j < 2 * gl
      · obtain ⟨l, hl⟩ : ∃ l, (letters 0 gss)[j]? = some l := ⟨_, List.getElem?_eq_getElem (by rw [letters_length, HGL.out]; exact hjl)⟩
        have HLF : Hid (Fixes (fun b => n ≤ b) l.2) := letters_fix h12 HI.out.rows (List.mem_of_getElem? hl)
        have HLL := hide hl
        have hletk := HI.out.lets.kept (w' := wr) (fun g h1' h2' => hF.frm.block g h2' (by have := HI.out.tB; omega) (by have := HI.out.mB; omega)) hF.frm.size
        obtain ⟨lb, lc', ul, hle, hlc1, hlc2, hlB, hlbw, hcl0, hcl1, hlI⟩ := hletk.cells j l hl
        have hb0 : Below w0.heap.size w0 wr := HI.out.b0.trans (hF.frm.below HI.out.b0.size HI.out.t0 HI.out.mt0)
        have HUL : Hid (Ints wr ul (cut n l.2)) := hlI.elim (fun h9 => h9.below hb0) (fun h9 => Ints.own h9)
        have HB0 := hide hb0
        rw [HGL.out] at hle hlc1
        injection hle with hle1 hle2 hle3
        subst hle1
        subst hle3
        obtain ⟨upl, ucl, eul⟩ := HUL.out.form
        rw [cut_length h12] at eul
        subst eul
        subst e1
        obtain ⟨ue, hcue, houe⟩ := word_at hr1 hF.quad.tri.l1.all (i := i) (X := cut n e.1) (by rw [List.getElem?_map, hE2]; rfl) (by rw [List.length_map])
        rw [cut_length h12] at houe
        obtain ⟨ge, ce, ee, hgea, hgeb, hcea, hceb⟩ := owns_form houe h1
        subst ee
        have HOE := hide houe
        have hal : Below wr.heap.size wr (wr.alloc (.cells #[.int .i64 l.1, .slice upl n ucl] 148)) := (Below.refl _ _).alloc (Nat.le_refl _) _
        have HFa := hide (HF.out.later hTw hal)
        have HAL := hide hal
        have hxa1 : (wr.alloc (.cells #[.int .i64 l.1, .slice upl n ucl] 148)).cell? ⟨wr.heap.size, 1, none⟩ = some (.slice upl n ucl) := (cells2_new _ _ _ _).2
        have hxa0 : (wr.alloc (.cells #[.int .i64 l.1, .slice upl n ucl] 148)).cell? ⟨wr.heap.size, 0, none⟩ = some (.int .i64 l.1) := (cells2_new _ _ _ _).1
        have hcue' := (hal.cell (p := ⟨g1, i, none⟩) hg1b).trans hcue
        have hsw := hF.frm.size
        clear hF hr1 hTO hmore0 hmore hE2 hl1' hl2' hlnl hl hletk hlI houe hal hb0 hcue hle2
        go_upto_region 9 with fail
        have hbx : wr.heap.size < (wr.alloc (.cells #[.int .i64 l.1, .slice upl n ucl] 148)).heap.size := by simp
        generalize hWA : wr.alloc (.cells #[.int .i64 l.1, .slice upl n ucl] 148) = WA at *
        have hald := HAL.out.trans ((Below.refl WA.heap.size WA).drew.mono HAL.out.size)
        have HTm := hide (crow_times n e.1 l.2 (.slice (some ⟨ge, 0, none⟩) n ce) (.slice upl n ucl) WA.drew h1 h12 HEF.out HLF.out ((Ints.own HOE.out).below hald) (HUL.out.below hald))
        refine wp_region_held_drew (S := fun W' => W'.cell? ⟨g1, i, none⟩ = some (.slice (some ⟨ge, 0, none⟩) n ce) ∧ W'.cell? ⟨wr.heap.size, 1, none⟩ = some (.slice upl n ucl)) (by kernel_rfl) ⟨hcue', hxa1⟩ (fun hS => ?_)
        refine wpAnyH_take (i := 0) (v := .slice (some ⟨g1, 0, none⟩) T2.length q1) rfl (by kernel_rfl) (by kernel_rfl) (by kernel_rfl) (fun _ _ _ h => h) (Or.inl ⟨by kernel_rfl, fun w' hS' => by clear hS'; go_simp⟩) hS ?_
        refine wpAnyH_take (i := 1) (v := .int .i64 (i : Int)) rfl (by kernel_rfl) (by kernel_rfl) (by kernel_rfl) (fun _ _ _ h => h) (Or.inl ⟨by kernel_rfl, fun w' hS' => by clear hS'; go_simp⟩) hS ?_
        refine wpAnyH_take (i := 2) (v := .pointer (some ⟨g1, i, none⟩)) rfl (by kernel_rfl) (by kernel_rfl) (by kernel_rfl) (fun _ _ _ h => h) (Or.inl ⟨by kernel_rfl, fun w' hS' => by clear hS'; go_simp⟩) hS ?_
        refine wpAnyH_take (i := 3) (v := .slice (some ⟨ge, 0, none⟩) n ce) rfl (by kernel_rfl) (by kernel_rfl) (by kernel_rfl) (fun _ _ _ h => h) (Or.inl ⟨by kernel_rfl, fun w' hS' => by obtain ⟨hS1', hS2'⟩ := hS'; go_simp⟩) hS ?_
        refine wpAnyH_take (i := 4) (v := .pointer (some ⟨wr.heap.size, 1, none⟩)) rfl (by kernel_rfl) (by kernel_rfl) (by kernel_rfl) (fun _ _ _ h => h) (Or.inl ⟨by kernel_rfl, fun w' hS' => by clear hS'; go_simp⟩) hS ?_
        refine wpAnyH_take (i := 5) (v := .slice upl n ucl) rfl (by kernel_rfl) (by kernel_rfl) (by kernel_rfl) (fun _ _ _ h => h) (Or.inl ⟨by kernel_rfl, fun w' hS' => by obtain ⟨hS1', hS2'⟩ := hS'; go_simp⟩) hS ?_
        refine wpAnyH_ready (rs := [6]) (by kernel_rfl) (by simp) ?_
        refine AllReadyH.cons rfl (fun K hK => ?_) AllReadyH.nil
        go_simp
        refine HTm.out.mono ?_
        rintro ex w5 ⟨u5, rfl, hown5, hb5⟩
        have hb5' : Below WA.heap.size WA w5 := (Below.refl WA.heap.size WA).drew.trans hb5
        have hx51 := (hb5'.cell (p := ⟨wr.heap.size, 1, none⟩) hbx).trans hxa1
        have hx50 := (hb5'.cell (p := ⟨wr.heap.size, 0, none⟩) hbx).trans hxa0
        refine hK.out _ _ ⟨(hb5'.cell (p := ⟨g1, i, none⟩) (Nat.lt_of_lt_of_le hg1b HAL.out.size)).trans hcue', hx51⟩ (fun hS => ?_)
        clear hK
        refine wpAnyH_take (i := 7) (v := .tuple #[u5, .int .i64 0]) rfl (by kernel_rfl) (by kernel_rfl) (by kernel_rfl) (fun _ _ _ h => h) (Or.inl ⟨by kernel_rfl, fun w' hS' => by clear hS'; go_simp⟩) hS ?_
        refine wpAnyH_take (i := 8) (v := u5) rfl (by kernel_rfl) (by kernel_rfl) (by kernel_rfl) (fun _ _ _ h => h) (Or.inl ⟨by kernel_rfl, fun w' hS' => by clear hS'; go_simp⟩) hS ?_
        refine wpAnyH_take (i := 9) (v := .int .i64 0) rfl (by kernel_rfl) (by kernel_rfl) (by kernel_rfl) (fun _ _ _ h => h) (Or.inl ⟨by kernel_rfl, fun w' hS' => by clear hS'; go_simp⟩) hS ?_
        refine wpAnyH_take (i := 10) (v := u5) rfl (by kernel_rfl) (by kernel_rfl) (by kernel_rfl) (fun _ _ _ h => h) (Or.inl ⟨by kernel_rfl, fun w' hS' => by clear hS'; go_simp⟩) hS ?_
        refine wpAnyH_take (i := 11) (v := .int .i64 0) rfl (by kernel_rfl) (by kernel_rfl) (by kernel_rfl) (fun _ _ _ h => h) (Or.inl ⟨by kernel_rfl, fun w' hS' => by clear hS'; go_simp⟩) hS ?_
        refine wpAnyH_done (by kernel_rfl) ?_ _
        have HYF : Hid (Fixes (fun b => n ≤ b) (e.1 * l.2)) := (fixes_sub _).mul HEF.out HLF.out
        have hF5 := HFa.out.later hTw hb5'
        have hs5 := hb5'.size
        have hsA := HAL.out.size
        have hown5' : w5.ownsRow WA.heap.size 3 1 u5 n ((cut n (e.1 * l.2)).map (Value.int .i64)) := hown5
        have HUA : Hid (Apt u5 (.slice (some ⟨w'.heap.size, 0, none⟩) (2 * gl) (2 * gl))) := apt_new HFa.out.quad.line (fun g hg => (hown5'.lt g hg).1)
        have HO5 := hide hown5'
        have hb05 : Below w0.heap.size w0 w5 := HB0.out.trans ((HAL.out.trans (hb5'.mono HAL.out.size)).mono HB0.out.size)
        obtain ⟨z0, z1, z2, z3, z4, _, _⟩ := cells5 hF5.blk
        have HMk := hide (mark_ok n m0 b k0 T vb u5 H fs (e.1 * l.2) w5 h1 h12 HI.out.sub HI.out.hfix (HI.out.br.later hb05) (Nat.lt_of_lt_of_le hTw hF5.frm.size) z1 HYF.out (Ints.own hown5'))
        have HF5 := hide hF5
        obtain ⟨p5, q5, eu5⟩ := owns_slice hown5'
        subst eu5
        clear hS hown5 hown5' hb5 hb5' hF5 hb05 z0 z1 z2 z3 z4 hx51 HTm hald HFa HAL HOE HUL hcl0 hcl1 hcue' hxa0 hxa1 hWA
        go_wp2_with fail
        refine HMk.out.mono ?_
        rintro ex w6 ⟨rfl, hb6⟩
        have hF6 := HF5.out.later hTw hb6
        have HO6 := hide (owns_below HO5.out hb6 (Nat.le_refl _))
        have hx60 := (hb6.cell (p := ⟨wr.heap.size, 0, none⟩) (by show wr.heap.size < w5.heap.size; omega)).trans hx50
        have hmk := mkN_le (H := H) (n := n) (e.1 * l.2) h12
        have hlk := hF6.map.look_ok Try.underlying108 (Try.zero3 w6) (a := ((mkN H n (e.1 * l.2) : Nat) : Int)) (by omega) (by omega)
        rw [hNum.out _ HYF.out] at hlk
        obtain ⟨_, _, y2, _, y4, _, _⟩ := cells5 hF6.blk
        have HF6 := hide hF6
        have hs6 := hb6.size
        clear hb6 hF6 HMk HF5 HO5 hx50
        generalize hmke : mkN H n (e.1 * l.2) = mk at *
        have HMKE := hide hmke
        clear hmke
        by_cases hc : cix H T2 (e.1 * l.2) < T2.length
        · rw [partV_some hc] at hlk
          have HTR2 := hide (tryC_old hTr.out HLL.out hc)
          generalize cix H T2 (e.1 * l.2) = kk at *
          have HNUM6 := hNum
          have HCNT6 := hcnt
          have HLI := hide HF6.out.quad.line
          have hlen : (natI ln ++ List.replicate (2 * gl - j) 0).length = 2 * gl := by rw [List.length_append, natI_length, List.length_replicate, HLN.out]; omega
          have hli := HLI.out
          rw [hlen] at hli
          obtain ⟨y9, _, hcy9, hfy9⟩ := owns_cellAt hli hjl
          have HFW := hide ((HF6.out.write hTw hlen j (kk : Int)).lists rfl rfl rfl (line_set kk HLN.out hjl))
          clear hli hlen HLI
          go_wp2
          go_roundw
          case rel =>
            have hfin : ∃ (j' cnt : Nat) (v1 v2 : Value) (s1 s2 : List Value) (T9 : List (Pm × List Int)) (ln9 : List Nat) (F : Int → Option Value), j' ≤ 2 * gl ∧ Value.slice (some ⟨g1, 0, none⟩) T2.length q1 = v1 ∧ Value.int .i64 ((j : Int) + 1) = .int .i64 (j' : Int) ∧ Hid ((T9, ln9) = tryCs H (letters 0 gss) e T' j') ∧ Hid (MarkOk H n T9 F) ∧ Hid (cnt ≤ T9.length) ∧ FRel w (w6.setCell ⟨w'.heap.size, j, none⟩ (.int .i64 (kk : Int))) T M n vb v1 v2 v3 s1 s2 s3 (T9.map (fun e => cut n e.1)) (T9.map (·.2)) (N.map natI) (.slice (some ⟨w'.heap.size, 0, none⟩) (2 * gl) (2 * gl)) (natI ln9 ++ List.replicate (2 * gl - j') 0) F cnt := ⟨j + 1, _, _, _, _, _, T2, ln ++ [kk], _, hjl, rfl, by go_num, HTR2, HNUM6, HCNT6, HFW.out⟩
            first
              | exact hfin
              | ((repeat apply Exists.intro); exact ⟨hfin, rfl⟩)
          case measure => simp [intOf]; omega
        · rw [partV_none hc] at hlk
          have HTR2 := hide (tryC_new hTr.out HLL.out hc)
          have HNEW := hide (cix_none hc)
          have HCL : Hid (cnt ≤ T2.length) := hcnt
          have hcl : cnt < maxLen := by have := hcnt.out; unfold maxLen; omega
          have HMP := hide HF6.out.map
          have HNUM2 : Hid (MarkOk H n (T2 ++ [(e.1 * l.2, e.2 ++ [l.1])]) (upd F ((mk : Nat) : Int) (.int .i64 ((T2.length : Nat) : Int)))) := by
            have h9 := hNum.out.more HI.out.sub h12 HI.out.hfix (d := (e.1 * l.2, e.2 ++ [l.1])) HYF.out HNEW.out
            rw [HMKE.out] at h9
            exact h9
          clear hNum hcnt
          go_wp2_with (at_mapUpdate; refine wpList_put rfl _ _ _ 108 rfl 3 Try.underlying108 HMP.out hcl ((mk : Nat) : Int) (.int .i64 ((T2.length : Nat) : Int)) rfl rfl rfl (by omega) (by omega) ?_)
          intro w7 hM7 hg7
          have hF7 := HF6.out.put hTw HI.out.tm hM7 hg7
          have hO7 := owns_map_kept HO6.out HMP.out hg7
          have hx70 : w7.cell? ⟨wr.heap.size, 0, none⟩ = some (.int .i64 l.1) := by
            rw [World.cell?_of_block (w := w6) (a := ⟨wr.heap.size, 0, none⟩) (hg7.block wr.heap.size (by omega) (fun e => by have h9 := HI.out.mB; have h8 := HI.out.Bw; have := Option.some.inj e; omega))]
            exact hx60
          have hs7 := hg7.size
          have hr2 := hF7.quad.tri.l2.row
          rw [HL2.out] at hr2
          obtain ⟨g2, q2, e2, hg2a, hg2b, hc2a, hc2b⟩ := owns_form hr2 (by omega)
          subst e2
          obtain ⟨uw, hcuw, houw⟩ := word_at hr2 hF7.quad.tri.l2.all (i := i) (X := e.2) (by rw [List.getElem?_map, HE2.out]; rfl) (by rw [List.length_map])
          have hesh := (HTE.out j (by rw [letters_length, HGL.out]; exact hj)).ok.short e (by rw [← hTr.out]; exact List.mem_of_getElem? HE2.out)
          rw [← hTr.out] at hesh
          have hesh : e.2.length < T2.length := hesh
          obtain ⟨uwp, uwc, euw⟩ := owns_slice houw
          subst euw
          obtain ⟨_, _, x2, _, x4, _, k4⟩ := cells5 hF7.blk
          have HF7 := hide hF7
          have HO7 := hide hO7
          have HWO := hide houw
          have HCln := hide (fun W (hW : Below w7.heap.size w7 W) => clone_own (xs := e.2) (base := w.heap.size) (owns_below HWO.out hW (Nat.le_refl _)) (by omega))
          have hd0 : Below w7.heap.size w7 w7.drew := (Below.refl _ _).drew
          have hTw7 : T < w7.heap.size := Nat.lt_of_lt_of_le hTw hF7.frm.size
          have hbx7 : wr.heap.size < w7.heap.size := by omega
          clear hM7 hg7 hF7 hO7 hr2 houw HMP HF6 HO6 hx60 y2 y4 hlk hTr x2
          go_upto_region 15 with fail
          refine wp_region_last (S := fun W' => W'.cell? ⟨T, 4, none⟩ = some (.slice (some ⟨g2, 0, none⟩) T2.length q2) ∧ W'.cell? ⟨g2, i, none⟩ = some (.slice uwp e.2.length uwc) ∧ W'.cell? ⟨wr.heap.size, 0, none⟩ = some (.int .i64 l.1)) 21 (by kernel_rfl) ⟨x4, hcuw, hx70⟩ (fun hS => ?_)
          refine wpLast.take (i := 0) (v := .pointer (some ⟨T, 0, none⟩)) rfl (by kernel_rfl) (by kernel_rfl) (by kernel_rfl) (by kernel_rfl) (fun _ _ _ h => h) (Or.inl ⟨by kernel_rfl, fun w' hS' => by clear hS'; go_simp⟩) hS ?_
          refine wpLast.take (i := 1) (v := .pointer (some ⟨T, 0, none⟩)) rfl (by kernel_rfl) (by kernel_rfl) (by kernel_rfl) (by kernel_rfl) (fun _ _ _ h => h) (Or.inl ⟨by kernel_rfl, fun w' hS' => by clear hS'; go_simp⟩) hS ?_
          refine wpLast.take (i := 2) (v := .pointer (some ⟨T, 0, none⟩)) rfl (by kernel_rfl) (by kernel_rfl) (by kernel_rfl) (by kernel_rfl) (fun _ _ _ h => h) (Or.inl ⟨by kernel_rfl, fun w' hS' => by clear hS'; go_simp⟩) hS ?_
          refine wpLast.take (i := 3) (v := .pointer (some ⟨T, 4, none⟩)) rfl (by kernel_rfl) (by kernel_rfl) (by kernel_rfl) (by kernel_rfl) (fun _ _ _ h => h) (Or.inl ⟨by kernel_rfl, fun w' hS' => by clear hS'; go_simp⟩) hS ?_
          refine wpLast.take (i := 4) (v := .slice (some ⟨g2, 0, none⟩) T2.length q2) rfl (by kernel_rfl) (by kernel_rfl) (by kernel_rfl) (by kernel_rfl) (fun _ _ _ h => h) (Or.inl ⟨by kernel_rfl, fun w' hS' => by obtain ⟨hS1', hS2', hS3'⟩ := hS'; go_simp⟩) hS ?_
          refine wpLast.take (i := 5) (v := .pointer (some ⟨T, 0, none⟩)) rfl (by kernel_rfl) (by kernel_rfl) (by kernel_rfl) (by kernel_rfl) (fun _ _ _ h => h) (Or.inl ⟨by kernel_rfl, fun w' hS' => by clear hS'; go_simp⟩) hS ?_
          refine wpLast.take (i := 6) (v := .pointer (some ⟨T, 0, none⟩)) rfl (by kernel_rfl) (by kernel_rfl) (by kernel_rfl) (by kernel_rfl) (fun _ _ _ h => h) (Or.inl ⟨by kernel_rfl, fun w' hS' => by clear hS'; go_simp⟩) hS ?_
          refine wpLast.take (i := 7) (v := .pointer (some ⟨T, 4, none⟩)) rfl (by kernel_rfl) (by kernel_rfl) (by kernel_rfl) (by kernel_rfl) (fun _ _ _ h => h) (Or.inl ⟨by kernel_rfl, fun w' hS' => by clear hS'; go_simp⟩) hS ?_
          refine wpLast.take (i := 8) (v := .slice (some ⟨g2, 0, none⟩) T2.length q2) rfl (by kernel_rfl) (by kernel_rfl) (by kernel_rfl) (by kernel_rfl) (fun _ _ _ h => h) (Or.inl ⟨by kernel_rfl, fun w' hS' => by obtain ⟨hS1', hS2', hS3'⟩ := hS'; go_simp⟩) hS ?_
          refine wpLast.take (i := 9) (v := .int .i64 (i : Int)) rfl (by kernel_rfl) (by kernel_rfl) (by kernel_rfl) (by kernel_rfl) (fun _ _ _ h => h) (Or.inl ⟨by kernel_rfl, fun w' hS' => by clear hS'; go_simp⟩) hS ?_
          refine wpLast.take (i := 10) (v := .pointer (some ⟨g2, i, none⟩)) rfl (by kernel_rfl) (by kernel_rfl) (by kernel_rfl) (by kernel_rfl) (fun _ _ _ h => h) (Or.inl ⟨by kernel_rfl, fun w' hS' => by clear hS'; go_simp⟩) hS ?_
          refine wpLast.take (i := 11) (v := .slice uwp e.2.length uwc) rfl (by kernel_rfl) (by kernel_rfl) (by kernel_rfl) (by kernel_rfl) (fun _ _ _ h => h) (Or.inl ⟨by kernel_rfl, fun w' hS' => by obtain ⟨hS1', hS2', hS3'⟩ := hS'; go_simp⟩) hS ?_
          refine wpLast.take (i := 13) (v := .pointer (some ⟨wr.heap.size, 0, none⟩)) rfl (by kernel_rfl) (by kernel_rfl) (by kernel_rfl) (by kernel_rfl) (fun _ _ _ h => h) (Or.inl ⟨by kernel_rfl, fun w' hS' => by clear hS'; go_simp⟩) hS ?_
          refine wpLast.take (i := 14) (v := .int .i64 l.1) rfl (by kernel_rfl) (by kernel_rfl) (by kernel_rfl) (by kernel_rfl) (fun _ _ _ h => h) (Or.inl ⟨by kernel_rfl, fun w' hS' => by obtain ⟨hS1', hS2', hS3'⟩ := hS'; go_simp⟩) hS ?_
          have HKP : Hid (∀ W, Below w7.heap.size w7 W → (W.cell? ⟨T, 4, none⟩ = some (.slice (some ⟨g2, 0, none⟩) T2.length q2) ∧ W.cell? ⟨g2, i, none⟩ = some (.slice uwp e.2.length uwc) ∧ W.cell? ⟨wr.heap.size, 0, none⟩ = some (.int .i64 l.1))) := fun W hW => ⟨(hW.cell (p := ⟨T, 4, none⟩) hTw7).trans x4, (hW.cell (p := ⟨g2, i, none⟩) hg2b).trans hcuw, (hW.cell (p := ⟨wr.heap.size, 0, none⟩) hbx7).trans hx70⟩
          refine wpLast.ready (rs := [12, 15]) (by kernel_rfl) (by simp) ?_
          refine EachL.cons rfl (fun K hK => ?_) (EachL.cons rfl (fun K hK => ?_) EachL.nil)
          · go_simp
            refine (HCln.out w7.drew hd0).mono ?_
            rintro ex w8 ⟨v8, rfl, hown8, hb8⟩
            have hb8' : Below w7.heap.size w7 w8 := hd0.trans hb8
            refine hK.out _ _ (HKP.out w8 hb8') (fun hS => ?_)
            clear hK
            refine wpLast.ready (rs := [15]) (by kernel_rfl) (by simp) ?_
            refine EachL.cons rfl (fun K hK => ?_) EachL.nil
            have hs8 := hb8'.size
            have hal8 : Below w8.heap.size w8 (w8.alloc (.cells #[.int .i64 l.1] 3)) := (Below.refl _ _).alloc (Nat.le_refl _) _
            have hb9 := hb8'.trans (hal8.mono hs8)
            have HO8 : Hid ((w8.alloc (.cells #[.int .i64 l.1] 3)).ownsRow w7.heap.size 3 1 v8 e.2.length (e.2.map (Value.int .i64))) := owns_below hown8 hal8 (Nat.le_refl _)
            have HNW := hide (cell_one_new w8 (.int .i64 l.1) 3)
            have HB9 := hide hb9
            have hs9 := hb9.size
            go_simp
            refine hK.out _ _ (HKP.out _ hb9) (fun hS => ?_)
            clear hK hown8 hb8 hb8' hal8 hb9
            refine wpLast.ready (rs := [16]) (by kernel_rfl) (by simp) ?_
            refine EachL.cons rfl (fun K hK => ?_) EachL.nil
            refine step_append_own rfl (.tmp 91) (.tmp 94) 23 rfl w7.heap.size 3 j0 (.int .i64 0) 1 8 Try.underlying23 hji hjz0 hjz1 hjz2 rfl (by decide) v8 e.2.length (e.2.map (Value.int .i64)) rfl HO8.out ⟨w8.heap.size, 0, none⟩ 1 1 [.int .i64 l.1] rfl rfl HNW.out (by intro u hu; simp at hu; subst hu; rfl) (by unfold maxLen; omega) (by omega) hs9 ?_
            intro v10 w10 hown10 hg10
            have hb10 : Below w7.heap.size w7 w10 := HB9.out.grown hg10 hs9 (fun k hk => (HO8.out.lt k hk).1)
            refine hK.out _ _ (HKP.out w10 hb10) (fun hS => ?_)
            clear hK
            have ho10 : w10.ownsRow w7.heap.size 3 1 v10 (e.2 ++ [l.1]).length ((e.2 ++ [l.1]).map (Value.int .i64)) := by rw [List.length_append, List.map_append]; exact hown10
            obtain ⟨g10, q10, e10, _, _, _, _⟩ := owns_form ho10 (by simp)
            subst e10
            have HO10 := hide ho10
            have HB10 := hide hb10
            have hs10 := hb10.size
            clear hown10 hg10 hb10 ho10 HO8 HNW HB9
            generalize hlw : (e.2 ++ [l.1]).length = lw at *
            have HLW := hide hlw
            clear hlw
            have hal10 : Below w10.heap.size w10 (w10.alloc (.cells #[.slice (some ⟨g10, 0, none⟩) lw q10] 23)) := (Below.refl _ _).alloc (Nat.le_refl _) _
            have hb11 := HB10.out.trans (hal10.mono hs10)
            have HB11 := hide hb11
            refine wpLast.ready (rs := [17]) (by kernel_rfl) (by simp) ?_
            refine EachL.cons rfl (fun K hK => ?_) EachL.nil
            go_simp
            refine hK.out _ _ (HKP.out _ hb11) (fun hS => ?_)
            clear hK
            have hF11 := HF7.out.later hTw hb11
            have hr11 := hF11.quad.tri.l2.row
            rw [HL2.out] at hr11
            have HF11 := hide hF11
            have HR11 := hide hr11
            have hcn11 := cell_one_new w10 (.slice (some ⟨g10, 0, none⟩) lw q10) 23
            have hfs := hF11.frm.size
            have HO11 := hide (hal10)
            clear hF11 hr11 hb11 hal10
            refine wpLast.ready (rs := [18]) (by kernel_rfl) (by simp) ?_
            refine EachL.cons rfl (fun K hK => ?_) EachL.nil
            refine step_append_keep rfl (.tmp 83) (.tmp 96) 22 rfl w.heap.size 23 i0 (.slice none 0 0) 1 24 Try.underlying22 hi0 hz0 hz1 hz2 rfl (by decide) (.slice (some ⟨g2, 0, none⟩) T2.length q2) T2.length s2 rfl HR11.out ⟨w10.heap.size, 0, none⟩ 1 1 [.slice (some ⟨g10, 0, none⟩) lw q10] rfl rfl hcn11 (by intro u hu; simp at hu; subst hu; rfl) (by unfold maxLen; omega) (by omega) hfs ?_
            intro v12 w12 hown12 hg12 hp12
            have hS12 : w12.cell? ⟨T, 4, none⟩ = some (.slice (some ⟨g2, 0, none⟩) T2.length q2) ∧ w12.cell? ⟨g2, i, none⟩ = some (.slice uwp e.2.length uwc) ∧ w12.cell? ⟨wr.heap.size, 0, none⟩ = some (.int .i64 l.1) := by
              obtain ⟨k1, k2, k3⟩ := HKP.out _ HB11.out
              have hsz11 := HB11.out.size
              refine ⟨?_, ?_, ?_⟩
              · rw [World.cell?_of_block (a := ⟨T, 4, none⟩) (hg12.block T (by omega) (fun e => by have := (HR11.out.lt T e.symm).1; omega))]; exact k1
              · rcases hp12 with hp | ⟨hp, hgn⟩
                · have hxi : s2[i]? = some (.slice uwp e.2.length uwc) := by
                    have h9 := HR11.out.cells (g := g2) rfl
                    have hi2 : i < s2.length := by rw [HL2.out]; exact hiT2
                    have h8 := h9 i _ (List.getElem?_eq_getElem hi2)
                    rw [Addr.add_lit, Nat.zero_add, k2] at h8
                    rw [List.getElem?_eq_getElem hi2, ← Option.some.inj h8]
                  obtain ⟨g13, q13, e13, _, _, _, _⟩ := owns_form hown12 (by omega)
                  subst e13
                  have e14 : g13 = g2 := Option.some.inj hp
                  subst e14
                  have h9 := hown12.cells (g := g13) rfl i _ (by rw [List.getElem?_append_left (by rw [HL2.out]; exact hiT2)]; exact hxi)
                  rw [Addr.add_lit, Nat.zero_add] at h9
                  exact h9
                · rw [World.cell?_of_block (a := ⟨g2, i, none⟩) (hgn.block g2 (by omega) (fun e => by cases e))]; exact k2
              · rw [World.cell?_of_block (a := ⟨wr.heap.size, 0, none⟩) (hg12.block wr.heap.size (by omega) (fun e => by have h9 := (HF.out.quad.tri.l2.row.lt wr.heap.size e.symm).2; omega))]; exact k3
            refine hK.out _ _ hS12 (fun hS => ?_)
            clear hK
            refine wpLast.ready (rs := [19]) (by kernel_rfl) (by simp) ?_
            refine EachL.cons rfl (fun K hK => ?_) EachL.nil
            go_simp
            refine hK.out _ _ hS12 (fun hS => ?_)
            clear hK
            refine wpLast.ready (rs := [20]) (by kernel_rfl) (by simp) ?_
            refine EachL.cons rfl (fun K hK => ?_) EachL.nil
            go_simp
            refine hK.out _ _ hS12 (fun hS => ?_)
            clear hK
            refine wpLast.ready (rs := [21]) (by kernel_rfl) (by simp) ?_
            refine EachL.last rfl (fun K hK => ?_)
            obtain ⟨g12, q12, e12, _, _, _, _⟩ := owns_form hown12 (by omega)
            subst e12
            have hUA10 : Apt (.slice (some ⟨g10, 0, none⟩) lw q10) (.slice (some ⟨w'.heap.size, 0, none⟩) (2 * gl) (2 * gl)) := apt_new HF7.out.quad.line (fun g hg => (HO10.out.lt g hg).1)
            have hF13 := HF11.out.word (X := e.2 ++ [l.1]) hTw HI.out.tm (by rw [HLW.out]; exact owns_base (owns_below HO10.out HO11.out (Nat.le_refl _)) HF7.out.frm.size) hUA10 (by rw [HL2.out]; exact hown12) hg12 hp12
            have HF13 := hide hF13
            have HO13 : Hid ((w12.setCell ⟨T, 4, none⟩ (.slice (some ⟨g12, 0, none⟩) (T2.length + 1) q12)).ownsRow w.heap.size 3 1 (.slice p5 n q5) (cut n (e.1 * l.2)).length ((cut n (e.1 * l.2)).map (Value.int .i64))) := by
              show World.ownsRow _ _ _ _ _ _ _
              rw [cut_length h12]
              refine ownsRow_setCell_below (owns_kept_ty (owns_base (owns_below HO7.out HB11.out (Nat.le_refl _)) (by omega)) HR11.out hg12) (by exact hTw) _
            obtain ⟨_, _, _, _, _, _, kf⟩ := cells5 (show w12.heap[T]? = _ from (hg12.block T (by have := HB11.out.size; omega) (fun e => by have := (HR11.out.lt T e.symm).1; omega)).trans HF11.out.blk)
            have hk12 := hS12.1
            clear hS hown12 hg12 hp12 hF13 HF11 HR11 HO10 hUA10 hcn11 hS12 HB10 HB11 HO11 x4 hcuw hx70 HKP HF7 HO7 HCln
            go_simp
            refine hK.out _ _ ?_
            clear hK
            refine wpLast.done (by kernel_rfl) ?_ _
            generalize hW13 : w12.setCell ⟨T, 4, none⟩ (.slice (some ⟨g12, 0, none⟩) (T2.length + 1) q12) = w13 at *
            have hs13 := HF13.out.frm.size
            have HrA : Hid (w13.ownsRow w.heap.size 23 1 (.slice (some ⟨g1, 0, none⟩) T2.length q1) T2.length s1) := by
              have h9 := HF13.out.quad.tri.l1.row
              rw [HL1.out] at h9
              exact h9
            clear hW13 kf hk12
            go_wp2_with (at_builtin; refine wpList_append_keep _ rfl _ _ 22 rfl w.heap.size 23 i0 (.slice none 0 0) 1 24 Try.underlying22 hi0 hz0 hz1 hz2 rfl (by decide) _ T2.length s1 rfl (HrA.out.alloc _) ⟨w13.heap.size, 0, none⟩ 1 1 [.slice p5 n q5] rfl rfl (cell_one_new _ _ _) (by intro u hu; simp at hu; subst hu; rfl) (by unfold maxLen; omega) (by omega) (by simp; omega) ?_)
            intro v20 w20 hown20 hg20 hp20
            have hal13 : Below w13.heap.size w13 (w13.alloc (.cells #[.slice p5 n q5] 23)) := (Below.refl _ _).alloc (Nat.le_refl _) _
            have hF20 := (HF13.out.later hTw hal13).add1 (X := cut n (e.1 * l.2)) hTw (HO13.out.alloc _) HUA.out (by rw [HL1.out]; exact hown20) hg20 (hp20.imp id (fun h => ⟨by rw [h.1]; simp, h.2⟩))
            have HF20 := hide (hF20.lists (B1 := (T2 ++ [(e.1 * l.2, e.2 ++ [l.1])]).map (fun e => cut n e.1)) (B2 := (T2 ++ [(e.1 * l.2, e.2 ++ [l.1])]).map (·.2)) (by rw [List.map_append]; rfl) (by rw [List.map_append]; rfl) rfl rfl)
            have HCNT2 : Hid (cnt + 1 ≤ (T2 ++ [(e.1 * l.2, e.2 ++ [l.1])]).length) := by have := HCL.out; unfold Hid; rw [List.length_append, List.length_singleton]; omega
            clear hown20 hg20 hp20 hF20 hal13 HF13 HrA HO13
            have HLI := hide HF20.out.quad.line
            have hlen : (natI ln ++ List.replicate (2 * gl - j) 0).length = 2 * gl := by rw [List.length_append, natI_length, List.length_replicate, HLN.out]; omega
            have hli := HLI.out
            rw [hlen] at hli
            obtain ⟨y9, _, hcy9, hfy9⟩ := owns_cellAt hli hjl
            have HFW := hide ((HF20.out.write hTw hlen j ((T2.length : Nat) : Int)).lists rfl rfl rfl (line_set T2.length HLN.out hjl))
            clear hli hlen HLI
            go_wp2
            go_roundw
            case rel =>
              have hfin : ∃ (j' cnt : Nat) (v1 v2 : Value) (s1 s2 : List Value) (T9 : List (Pm × List Int)) (ln9 : List Nat) (F : Int → Option Value), j' ≤ 2 * gl ∧ v20 = v1 ∧ Value.int .i64 ((j : Int) + 1) = .int .i64 (j' : Int) ∧ Hid ((T9, ln9) = tryCs H (letters 0 gss) e T' j') ∧ Hid (MarkOk H n T9 F) ∧ Hid (cnt ≤ T9.length) ∧ FRel w (w20.setCell ⟨w'.heap.size, j, none⟩ (.int .i64 ((T2.length : Nat) : Int))) T M n vb v1 v2 v3 s1 s2 s3 (T9.map (fun e => cut n e.1)) (T9.map (·.2)) (N.map natI) (.slice (some ⟨w'.heap.size, 0, none⟩) (2 * gl) (2 * gl)) (natI ln9 ++ List.replicate (2 * gl - j') 0) F cnt := ⟨j + 1, _, _, _, _, _, T2 ++ [(e.1 * l.2, e.2 ++ [l.1])], ln ++ [T2.length], _, hjl, rfl, by go_num, HTR2, HNUM2, HCNT2, HFW.out⟩
              first
                | exact hfin
                | ((repeat apply Exists.intro); exact ⟨hfin, rfl⟩)
            case measure => simp [intOf]; omega
          · go_simp
            have hal7 : Below w7.heap.size w7 (w7.alloc (.cells #[.int .i64 l.1] 3)).drew := (hd0.alloc (Nat.le_refl _) _).trans (Below.refl _ _)
            refine hK.out _ _ (HKP.out _ hal7) (fun hS => ?_)
            clear hK
            refine wpLast.ready (rs := [12]) (by kernel_rfl) (by simp) ?_
            refine EachL.cons rfl (fun K hK => ?_) EachL.nil
            go_simp
            refine (HCln.out _ hal7).mono ?_
            rintro ex w8 ⟨v8, rfl, hown8, hb8⟩
            have hb8' := hal7.trans (hb8.mono hal7.size)
            have hsz7 : (w7.alloc (.cells #[.int .i64 l.1] 3)).drew.heap.size = w7.heap.size + 1 := by simp [World.drew]
            have HO8 : Hid (w8.ownsRow w7.heap.size 3 1 v8 e.2.length (e.2.map (Value.int .i64))) := owns_base hown8 (by rw [hsz7]; omega)
            have HNW : Hid (∀ (j : Nat) (u : Value), [Value.int .i64 l.1][j]? = some u → w8.cell? ((⟨w7.heap.size, 0, none⟩ : Addr).add j) = some u) := fun j u hu => by
              have h9 := cell_one_new w7 (.int .i64 l.1) 3 j u hu
              rw [Addr.add_lit] at h9 ⊢
              exact (hb8.cell (p := ⟨w7.heap.size, 0 + j, none⟩) (by rw [hsz7]; show w7.heap.size < w7.heap.size + 1; omega)).trans h9
            have HB9 := hide hb8'
            have hs9 := hb8'.size
            refine hK.out _ _ (HKP.out w8 hb8') (fun hS => ?_)
            clear hK hown8 hb8 hb8' hal7 hsz7
            refine wpLast.ready (rs := [16]) (by kernel_rfl) (by simp) ?_
            refine EachL.cons rfl (fun K hK => ?_) EachL.nil
            refine step_append_own rfl (.tmp 91) (.tmp 94) 23 rfl w7.heap.size 3 j0 (.int .i64 0) 1 8 Try.underlying23 hji hjz0 hjz1 hjz2 rfl (by decide) v8 e.2.length (e.2.map (Value.int .i64)) rfl HO8.out ⟨w7.heap.size, 0, none⟩ 1 1 [.int .i64 l.1] rfl rfl HNW.out (by intro u hu; simp at hu; subst hu; rfl) (by unfold maxLen; omega) (by omega) hs9 ?_
            intro v10 w10 hown10 hg10
            have hb10 : Below w7.heap.size w7 w10 := HB9.out.grown hg10 hs9 (fun k hk => (HO8.out.lt k hk).1)
            refine hK.out _ _ (HKP.out w10 hb10) (fun hS => ?_)
            clear hK
            have ho10 : w10.ownsRow w7.heap.size 3 1 v10 (e.2 ++ [l.1]).length ((e.2 ++ [l.1]).map (Value.int .i64)) := by rw [List.length_append, List.map_append]; exact hown10
            obtain ⟨g10, q10, e10, _, _, _, _⟩ := owns_form ho10 (by simp)
            subst e10
            have HO10 := hide ho10
            have HB10 := hide hb10
            have hs10 := hb10.size
            clear hown10 hg10 hb10 ho10 HO8 HNW HB9
            generalize hlw : (e.2 ++ [l.1]).length = lw at *
            have HLW := hide hlw
            clear hlw
            have hal10 : Below w10.heap.size w10 (w10.alloc (.cells #[.slice (some ⟨g10, 0, none⟩) lw q10] 23)) := (Below.refl _ _).alloc (Nat.le_refl _) _
            have hb11 := HB10.out.trans (hal10.mono hs10)
            have HB11 := hide hb11
            refine wpLast.ready (rs := [17]) (by kernel_rfl) (by simp) ?_
            refine EachL.cons rfl (fun K hK => ?_) EachL.nil
            go_simp
            refine hK.out _ _ (HKP.out _ hb11) (fun hS => ?_)
            clear hK
            have hF11 := HF7.out.later hTw hb11
            have hr11 := hF11.quad.tri.l2.row
            rw [HL2.out] at hr11
            have HF11 := hide hF11
            have HR11 := hide hr11
            have hcn11 := cell_one_new w10 (.slice (some ⟨g10, 0, none⟩) lw q10) 23
            have hfs := hF11.frm.size
            have HO11 := hide (hal10)
            clear hF11 hr11 hb11 hal10
            refine wpLast.ready (rs := [18]) (by kernel_rfl) (by simp) ?_
            refine EachL.cons rfl (fun K hK => ?_) EachL.nil
            refine step_append_keep rfl (.tmp 83) (.tmp 96) 22 rfl w.heap.size 23 i0 (.slice none 0 0) 1 24 Try.underlying22 hi0 hz0 hz1 hz2 rfl (by decide) (.slice (some ⟨g2, 0, none⟩) T2.length q2) T2.length s2 rfl HR11.out ⟨w10.heap.size, 0, none⟩ 1 1 [.slice (some ⟨g10, 0, none⟩) lw q10] rfl rfl hcn11 (by intro u hu; simp at hu; subst hu; rfl) (by unfold maxLen; omega) (by omega) hfs ?_
            intro v12 w12 hown12 hg12 hp12
            have hS12 : w12.cell? ⟨T, 4, none⟩ = some (.slice (some ⟨g2, 0, none⟩) T2.length q2) ∧ w12.cell? ⟨g2, i, none⟩ = some (.slice uwp e.2.length uwc) ∧ w12.cell? ⟨wr.heap.size, 0, none⟩ = some (.int .i64 l.1) := by
              obtain ⟨k1, k2, k3⟩ := HKP.out _ HB11.out
              have hsz11 := HB11.out.size
              refine ⟨?_, ?_, ?_⟩
              · rw [World.cell?_of_block (a := ⟨T, 4, none⟩) (hg12.block T (by omega) (fun e => by have := (HR11.out.lt T e.symm).1; omega))]; exact k1
              · rcases hp12 with hp | ⟨hp, hgn⟩
                · have hxi : s2[i]? = some (.slice uwp e.2.length uwc) := by
                    have h9 := HR11.out.cells (g := g2) rfl
                    have hi2 : i < s2.length := by rw [HL2.out]; exact hiT2
                    have h8 := h9 i _ (List.getElem?_eq_getElem hi2)
                    rw [Addr.add_lit, Nat.zero_add, k2] at h8
                    rw [List.getElem?_eq_getElem hi2, ← Option.some.inj h8]
                  obtain ⟨g13, q13, e13, _, _, _, _⟩ := owns_form hown12 (by omega)
                  subst e13
                  have e14 : g13 = g2 := Option.some.inj hp
                  subst e14
                  have h9 := hown12.cells (g := g13) rfl i _ (by rw [List.getElem?_append_left (by rw [HL2.out]; exact hiT2)]; exact hxi)
                  rw [Addr.add_lit, Nat.zero_add] at h9
                  exact h9
                · rw [World.cell?_of_block (a := ⟨g2, i, none⟩) (hgn.block g2 (by omega) (fun e => by cases e))]; exact k2
              · rw [World.cell?_of_block (a := ⟨wr.heap.size, 0, none⟩) (hg12.block wr.heap.size (by omega) (fun e => by have h9 := (HF.out.quad.tri.l2.row.lt wr.heap.size e.symm).2; omega))]; exact k3
            refine hK.out _ _ hS12 (fun hS => ?_)
            clear hK
            refine wpLast.ready (rs := [19]) (by kernel_rfl) (by simp) ?_
            refine EachL.cons rfl (fun K hK => ?_) EachL.nil
            go_simp
            refine hK.out _ _ hS12 (fun hS => ?_)
            clear hK
            refine wpLast.ready (rs := [20]) (by kernel_rfl) (by simp) ?_
            refine EachL.cons rfl (fun K hK => ?_) EachL.nil
            go_simp
            refine hK.out _ _ hS12 (fun hS => ?_)
            clear hK
            refine wpLast.ready (rs := [21]) (by kernel_rfl) (by simp) ?_
            refine EachL.last rfl (fun K hK => ?_)
            obtain ⟨g12, q12, e12, _, _, _, _⟩ := owns_form hown12 (by omega)
            subst e12
            have hUA10 : Apt (.slice (some ⟨g10, 0, none⟩) lw q10) (.slice (some ⟨w'.heap.size, 0, none⟩) (2 * gl) (2 * gl)) := apt_new HF7.out.quad.line (fun g hg => (HO10.out.lt g hg).1)
            have hF13 := HF11.out.word (X := e.2 ++ [l.1]) hTw HI.out.tm (by rw [HLW.out]; exact owns_base (owns_below HO10.out HO11.out (Nat.le_refl _)) HF7.out.frm.size) hUA10 (by rw [HL2.out]; exact hown12) hg12 hp12
            have HF13 := hide hF13
            have HO13 : Hid ((w12.setCell ⟨T, 4, none⟩ (.slice (some ⟨g12, 0, none⟩) (T2.length + 1) q12)).ownsRow w.heap.size 3 1 (.slice p5 n q5) (cut n (e.1 * l.2)).length ((cut n (e.1 * l.2)).map (Value.int .i64))) := by
              show World.ownsRow _ _ _ _ _ _ _
              rw [cut_length h12]
              refine ownsRow_setCell_below (owns_kept_ty (owns_base (owns_below HO7.out HB11.out (Nat.le_refl _)) (by omega)) HR11.out hg12) (by exact hTw) _
            obtain ⟨_, _, _, _, _, _, kf⟩ := cells5 (show w12.heap[T]? = _ from (hg12.block T (by have := HB11.out.size; omega) (fun e => by have := (HR11.out.lt T e.symm).1; omega)).trans HF11.out.blk)
            have hk12 := hS12.1
            clear hS hown12 hg12 hp12 hF13 HF11 HR11 HO10 hUA10 hcn11 hS12 HB10 HB11 HO11 x4 hcuw hx70 HKP HF7 HO7 HCln
            go_simp
            refine hK.out _ _ ?_
            clear hK
            refine wpLast.done (by kernel_rfl) ?_ _
            generalize hW13 : w12.setCell ⟨T, 4, none⟩ (.slice (some ⟨g12, 0, none⟩) (T2.length + 1) q12) = w13 at *
            have hs13 := HF13.out.frm.size
            have HrA : Hid (w13.ownsRow w.heap.size 23 1 (.slice (some ⟨g1, 0, none⟩) T2.length q1) T2.length s1) := by
              have h9 := HF13.out.quad.tri.l1.row
              rw [HL1.out] at h9
              exact h9
            clear hW13 kf hk12
            go_wp2_with (at_builtin; refine wpList_append_keep _ rfl _ _ 22 rfl w.heap.size 23 i0 (.slice none 0 0) 1 24 Try.underlying22 hi0 hz0 hz1 hz2 rfl (by decide) _ T2.length s1 rfl (HrA.out.alloc _) ⟨w13.heap.size, 0, none⟩ 1 1 [.slice p5 n q5] rfl rfl (cell_one_new _ _ _) (by intro u hu; simp at hu; subst hu; rfl) (by unfold maxLen; omega) (by omega) (by simp; omega) ?_)
            intro v20 w20 hown20 hg20 hp20
            have hal13 : Below w13.heap.size w13 (w13.alloc (.cells #[.slice p5 n q5] 23)) := (Below.refl _ _).alloc (Nat.le_refl _) _
            have hF20 := (HF13.out.later hTw hal13).add1 (X := cut n (e.1 * l.2)) hTw (HO13.out.alloc _) HUA.out (by rw [HL1.out]; exact hown20) hg20 (hp20.imp id (fun h => ⟨by rw [h.1]; simp, h.2⟩))
            have HF20 := hide (hF20.lists (B1 := (T2 ++ [(e.1 * l.2, e.2 ++ [l.1])]).map (fun e => cut n e.1)) (B2 := (T2 ++ [(e.1 * l.2, e.2 ++ [l.1])]).map (·.2)) (by rw [List.map_append]; rfl) (by rw [List.map_append]; rfl) rfl rfl)
            have HCNT2 : Hid (cnt + 1 ≤ (T2 ++ [(e.1 * l.2, e.2 ++ [l.1])]).length) := by have := HCL.out; unfold Hid; rw [List.length_append, List.length_singleton]; omega
            clear hown20 hg20 hp20 hF20 hal13 HF13 HrA HO13
            have HLI := hide HF20.out.quad.line
            have hlen : (natI ln ++ List.replicate (2 * gl - j) 0).length = 2 * gl := by rw [List.length_append, natI_length, List.length_replicate, HLN.out]; omega
            have hli := HLI.out
            rw [hlen] at hli
            obtain ⟨y9, _, hcy9, hfy9⟩ := owns_cellAt hli hjl
            have HFW := hide ((HF20.out.write hTw hlen j ((T2.length : Nat) : Int)).lists rfl rfl rfl (line_set T2.length HLN.out hjl))
            clear hli hlen HLI
            go_wp2
            go_roundw
            case rel =>
              have hfin : ∃ (j' cnt : Nat) (v1 v2 : Value) (s1 s2 : List Value) (T9 : List (Pm × List Int)) (ln9 : List Nat) (F : Int → Option Value), j' ≤ 2 * gl ∧ v20 = v1 ∧ Value.int .i64 ((j : Int) + 1) = .int .i64 (j' : Int) ∧ Hid ((T9, ln9) = tryCs H (letters 0 gss) e T' j') ∧ Hid (MarkOk H n T9 F) ∧ Hid (cnt ≤ T9.length) ∧ FRel w (w20.setCell ⟨w'.heap.size, j, none⟩ (.int .i64 ((T2.length : Nat) : Int))) T M n vb v1 v2 v3 s1 s2 s3 (T9.map (fun e => cut n e.1)) (T9.map (·.2)) (N.map natI) (.slice (some ⟨w'.heap.size, 0, none⟩) (2 * gl) (2 * gl)) (natI ln9 ++ List.replicate (2 * gl - j') 0) F cnt := ⟨j + 1, _, _, _, _, _, T2 ++ [(e.1 * l.2, e.2 ++ [l.1])], ln ++ [T2.length], _, hjl, rfl, by go_num, HTR2, HNUM2, HCNT2, HFW.out⟩
              first
                | exact hfin
                | ((repeat apply Exists.intro); exact ⟨hfin, rfl⟩)
            case measure => simp [intOf]; omega
      · obtain rfl : j = 2 * gl := by omega
        have HTR : Hid ((T2, ln) = tryCs H (letters 0 gss) e T' (letters 0 gss).length) := by
          show _ = _
          rw [letters_length, HGL.out]; exact hTr.out
        have HRun2 : Hid (RunC H (letters 0 gss) (i + 1) T2 (N ++ [ln])) := by
          have h9 := HRUN.out
          rw [← HTR.out] at h9
          exact h9
        have HrC := hide hF.quad.tri.l3.row
        have hs3s : w.heap.size ≤ wr.heap.size := hF.frm.size
        obtain ⟨_, _, _, y3, _, _, _⟩ := cells5 hF.blk
        have hTwr : T < wr.heap.size := Nat.lt_of_lt_of_le hTw hF.frm.size
        have y3' : (wr.alloc (.cells #[.slice (some ⟨w'.heap.size, 0, none⟩) (2 * gl) (2 * gl)] 23)).cell? ⟨T, 3, none⟩ = some v3 := (((Below.refl _ _).alloc (Nat.le_refl _) _).cell (p := ⟨T, 3, none⟩) hTwr).trans y3
        obtain ⟨p3, q3, ev3⟩ := owns_slice hF.quad.tri.l3.row
        generalize hs3l : s3.length = s3l at *
        have HS3L := hide hs3l
        subst ev3
        subst e1
        clear hF hr1 hTO hmore0 hmore hE2 hl1' hl2' hlnl hTr hs3l
        go_wp2_with (at_builtin; refine wpList_append_keep _ rfl _ _ 22 rfl w.heap.size 23 i0 (.slice none 0 0) 1 24 Try.underlying22 hi0 hz0 hz1 hz2 rfl (by decide) _ s3l s3 rfl (HrC.out.alloc _) ⟨wr.heap.size, 0, none⟩ 1 1 [.slice (some ⟨w'.heap.size, 0, none⟩) (2 * gl) (2 * gl)] rfl rfl ?m1 ?m2 ?m3 ?m4 ?m5 ?_)
        case m1 => exact cell_one_new _ _ _
        case m2 => intro u hu; simp at hu; subst hu; rfl
        case m3 => unfold maxLen; omega
        case m4 => omega
        case m5 => simp; omega
        intro v30 w30 hown30 hg30 hp30
        have hal3 : Below wr.heap.size wr (wr.alloc (.cells #[.slice (some ⟨w'.heap.size, 0, none⟩) (2 * gl) (2 * gl)] 23)) := (Below.refl _ _).alloc (Nat.le_refl _) _
        have hFa := HF.out.later hTw hal3
        have hF30 := hFa.fin hTw HI.out.tm (by rw [HS3L.out]; exact hown30) hg30 (hp30.imp id (fun h => ⟨by rw [h.1]; simp, h.2⟩))
        have HF30 := hide (hF30.lists rfl rfl (B3 := (N ++ [ln]).map natI) (by rw [List.map_append, Nat.sub_self, List.replicate_zero, List.append_nil]; rfl) rfl)
        obtain ⟨_, _, _, k3, _, kf3, _⟩ := cells5 (show w30.heap[T]? = _ from (hg30.block T (by have := hal3.size; omega) (fun e => by have := (hFa.quad.tri.l3.row.lt T e.symm).1; omega)).trans hFa.blk)
        obtain ⟨g30, q30, e30, _, _, _, _⟩ := owns_form hown30 (by omega)
        subst e30
        clear hown30 hg30 hp30 hF30 hFa hal3 HF HrC y3 y3'
        by_cases hmo : i + 1 < T2.length
        · have hix : i < xl := Nat.lt_of_lt_of_le (Nat.lt_of_succ_lt hmo) hTx
          have HN2 : Hid (MarkOk H n T2 F) := hNum
          have HC2 : Hid (cnt ≤ T2.length) := hcnt
          have HMS : Hid (xl - ((i : Int) + 1).toNat < xl - ((i : Int)).toNat) := by unfold Hid; omega
          go_wp2
          go_step3
          exact ⟨rfl, FillJ.mk (i := i + 1) hmo HRun2.out HN2.out HC2.out HF30.out, HMS.out⟩
        · obtain ⟨tl, htl⟩ : ∃ tl, tl = T2.length := ⟨_, rfl⟩
          have hie : i + 1 = T2.length := by omega
          have HFIN : Hid (FillPost w T M n vb H gss (.returned (.tuple #[])) (w30.setCell ⟨T, 3, none⟩ (.slice (some ⟨g30, 0, none⟩) (s3l + 1) q30))) := ⟨rfl, T2, N ++ [ln], F, cnt, _, _, _, _, _, _, by rw [← hie]; exact HRun2.out, hNum.out, HF30.out⟩
          clear htl hie
          go_wp2
          exact bodyPost_end (results_none rfl _ _ _) rfl HFIN.out
  · intro hpass
    go_wp2_with fail
    refine HRo.out.mono ?_
    rintro ex w1 ⟨v0, rfl, hown0, hb0⟩
    obtain ⟨p0, q0, ev0⟩ := owns_slice hown0
    subst ev0
    have hcut : cut n 1 = rnd n := by
      have := cut_pad h12 (rnd_length n) (isRow_rnd n)
      rwa [pad_rnd h12] at this
    have hTw := hI.tw
    have hs0 := hb0.size
    have hal0 : Below w1.heap.size w1 (w1.alloc (.cells #[.slice p0 n q0] 23)) := (Below.refl _ _).alloc (Nat.le_refl _) _
    have hB1 : Below w.heap.size w (w1.alloc (.cells #[.slice p0 n q0] 23)) := hb0.alloc hs0 _
    have HF1 : Hid (FRel w (w1.alloc (.cells #[.slice p0 n q0] 23)) T M n vb (.slice (some ⟨w1.heap.size, 0, none⟩) 1 1) (.slice none 0 0) (.slice none 0 0) [.slice p0 n q0] [] [] [cut n 1] [] [] (.slice none 0 0) [] (fun _ => none) 0) := by
      refine ⟨(hB1.block T hTw).trans HBLK.out, Quad.bare ⟨LL.one (by rw [hcut, rnd_length]; exact hown0) hs0, LL.nil _ _, LL.nil _ _, (apt_none _).symm, (apt_none _).symm, apt_none _⟩, HMAP.out.below hB1 HMAP.out.lt, Frm.of_below hB1 (Nat.le_refl _)⟩
    have hIr : Ints (w1.alloc (.cells #[.slice p0 n q0] 23)) (.slice p0 n q0) (cut n 1) := by rw [hcut]; exact (Ints.own hown0).below hal0
    have hb01 : Below w0.heap.size w0 (w1.alloc (.cells #[.slice p0 n q0] 23)) := hI.b0.trans (hB1.mono hI.b0.size)
    obtain ⟨z0, z1, z2, z3, z4, _, _⟩ := cells5 HF1.out.blk
    have HMk := hide (fun W (hW : Below (w1.alloc (.cells #[.slice p0 n q0] 23)).heap.size (w1.alloc (.cells #[.slice p0 n q0] 23)) W) => mark_ok n m0 b k0 T vb (.slice p0 n q0) H fs 1 W h1 h12 hI.sub hI.hfix (hI.br.later (hb01.trans (hW.mono hb01.size))) (Nat.lt_of_lt_of_le hTw (Nat.le_trans hB1.size hW.size)) ((hW.cell (p := ⟨T, 1, none⟩) (Nat.lt_of_lt_of_le hTw hB1.size)).trans z1) (fixes_sub _).one (hIr.below hW))
    have HI := hide hI
    clear hIr hcut hown0 hb0 hal0 hb01 z0 z1 z3 z4 hI c0 c1 c2 c3 c4 f3 f4 hB1
    go_upto_region 2 with fail
    generalize hW1 : w1.alloc (.cells #[.slice p0 n q0] 23) = W1 at *
    refine wp_region_held_drew (S := fun W' => W'.cell? ⟨T, 2, none⟩ = some (.map (some M))) (by kernel_rfl) z2 (fun hS => ?_)
    refine wpAnyH_take (i := 0) (v := .pointer (some ⟨T, 0, none⟩)) rfl (by kernel_rfl) (by kernel_rfl) (by kernel_rfl) (fun _ _ _ h => h) (Or.inl ⟨by kernel_rfl, fun w' hS' => by clear hS'; go_simp⟩) hS ?_
    refine wpAnyH_take (i := 1) (v := .pointer (some ⟨T, 0, none⟩)) rfl (by kernel_rfl) (by kernel_rfl) (by kernel_rfl) (fun _ _ _ h => h) (Or.inl ⟨by kernel_rfl, fun w' hS' => by clear hS'; go_simp⟩) hS ?_
    refine wpAnyH_take (i := 2) (v := .pointer (some ⟨T, 2, none⟩)) rfl (by kernel_rfl) (by kernel_rfl) (by kernel_rfl) (fun _ _ _ h => h) (Or.inl ⟨by kernel_rfl, fun w' hS' => by clear hS'; go_simp⟩) hS ?_
    refine wpAnyH_take (i := 3) (v := .map (some M)) rfl (by kernel_rfl) (by kernel_rfl) (by kernel_rfl) (fun _ _ _ h => h) (Or.inl ⟨by kernel_rfl, fun w' hS' => by go_simp⟩) hS ?_
    refine wpAnyH_take (i := 4) (v := .pointer (some ⟨T, 0, none⟩)) rfl (by kernel_rfl) (by kernel_rfl) (by kernel_rfl) (fun _ _ _ h => h) (Or.inl ⟨by kernel_rfl, fun w' hS' => by clear hS'; go_simp⟩) hS ?_
    refine wpAnyH_take (i := 5) (v := .slice p0 n q0) rfl (by kernel_rfl) (by kernel_rfl) (by kernel_rfl) (fun _ _ _ h => h) (Or.inl ⟨by kernel_rfl, fun w' hS' => by clear hS'; go_simp⟩) hS ?_
    refine wpAnyH_ready (rs := [6]) (by kernel_rfl) (by simp) ?_
    refine AllReadyH.cons rfl (fun K hK => ?_) AllReadyH.nil
    go_simp
    refine (HMk.out W1.drew (Below.refl _ _).drew).mono ?_
    rintro ex w2 ⟨rfl, hb2⟩
    have hb2' : Below W1.heap.size W1 w2 := (Below.refl _ _).drew.trans hb2
    have hF2 := HF1.out.later hTw hb2'
    refine hK.out _ _ (cells5 hF2.blk).2.2.1 (fun hS => ?_)
    clear hK
    refine wpAnyH_ready (rs := [7]) (by kernel_rfl) (by simp) ?_
    refine AllReadyH.cons rfl (fun K hK => ?_) AllReadyH.nil
    have hmk := mkN_le (H := H) (n := n) 1 h12
    obtain ⟨w3, hrun, hM3, hg3⟩ := hF2.map.put Try.underlying108 (show 0 < maxLen by unfold maxLen; omega) (a := ((mkN H n 1 : Nat) : Int)) (by omega) (by omega) (.int .i64 0)
    have hF3 := hF2.put hTw HI.out.tm hM3 hg3
    have HF3 := hide hF3
    have HMK := hide (MarkOk.first HI.out.sub h12 HI.out.hfix)
    go_simp
    refine hK.out _ _ (cells5 hF3.blk).2.2.1 (fun hS => ?_)
    clear hK hS hrun hM3 hg3 hF3 hF2 hb2 hb2' HF1 HMk z2
    refine wpAnyH_done (by kernel_rfl) ?_ _
    have hF4 := HF3.out.word (w' := w3.alloc (.cells #[.slice none 0 0] 23)) (u := .slice none 0 0) (X := []) (v' := .slice (some ⟨w3.heap.size, 0, none⟩) 1 1) hTw HI.out.tm (World.ownsRow_nil _ _ _ _) (apt_none _) (World.ownsRow_lit w3 #[.slice none 0 0] 1 HF3.out.frm.size (by unfold maxLen; omega) rfl) (World.grownBy_alloc w3 _ _) (Or.inr ⟨rfl, World.grownBy_alloc w3 _ _⟩)
    have HF4 := hide hF4
    obtain ⟨_, _, _, _, y4, _, k4⟩ := cells5 (show (w3.alloc (.cells #[.slice none 0 0] 23)).heap[T]? = _ from (Below.heap_alloc w3 _ T (Nat.lt_of_lt_of_le hTw HF3.out.frm.size)).trans HF3.out.blk)
    clear hF4 HF3
    go_wp2
    go_step3
    rename_i hKK
    exact hKK _ _ (hpass.out _ _ (FillJ.mk (i := 0) (cnt := 0 + 1) (T' := [(1, [])]) (N := []) (by simp) RunC.start HMK.out (by simp) HF4.out))

end Go.Proofs.Ytimfoggjocajiaa

/- A table of parts in memory; coset's copied. -/
namespace Go.Proofs.Ytimfoggjocajiaa
open Go.RowKit

/-- A table of parts in memory. -/
structure TabAt (w : World) (v : Value) (n : Nat) (H : Pm → Prop) (TT : List (Pm × List Int)) (N : List (List Nat)) : Prop where
  sub : Sub H
  hfix : ∀ h, H h → Fixes (fun b => n ≤ b) h
  one : 1 ≤ n
  twelve : n ≤ 12
  mem : ∃ (T M m0 b k0 cnt B : Nat) (vb vn vw : Value) (sn sw : List Value) (fs : Nat → Int → Option Value) (F : Int → Option Value),
    v = .pointer (some ⟨T, 0, none⟩) ∧ w.heap[T]? = some (.cells (tabC n M vb vn vw) 110) ∧ BrAt w vb n m0 H b fs k0 ∧ IMap w M cnt F ∧ MarkOk H n TT F ∧ LL w B vn sn (N.map natI) ∧ LL w B vw sw (TT.map (·.2))

theorem TabAt.later {w w' : World} {v : Value} {n : Nat} {H : Pm → Prop} {TT : List (Pm × List Int)} {N : List (List Nat)} (h : TabAt w v n H TT N) (hb : Below w.heap.size w w') : TabAt w' v n H TT N := by
  refine ⟨h.sub, h.hfix, h.one, h.twelve, ?_⟩
  obtain ⟨T, M, m0, b, k0, cnt, B, vb, vn, vw, sn, sw, fs, F, e, h1, h2, h3, h4, h5, h6⟩ := h.mem
  have hT : T < w.heap.size := (Array.getElem?_eq_some_iff.1 h1).1
  exact ⟨T, M, m0, b, k0, cnt, B, vb, vn, vw, sn, sw, fs, F, e, (hb.block T hT).trans h1, h2.later hb, h3.below hb h3.lt, h4, h5.below hb, h6.below hb⟩

/-- The lists ahead of i are copied. -/
structure CpR (w wr : World) (N : Nat) (A : List (List Int)) (i : Nat) (vs : List Value) : Prop where
  row : wr.ownsRow w.heap.size 23 1 (.slice (some ⟨w.heap.size, 0, none⟩) N N) N (vs ++ List.replicate (N - i) (.slice none 0 0))
  len : vs.length = i
  all : OwnAll wr (w.heap.size + 1) vs (A.take i)
  below : Below w.heap.size w wr

theorem CpR.step {w wr w7 : World} {N i : Nat} {A : List (List Int)} {vs : List Value} {X : List Int} {v : Value} (h : CpR w wr N A i vs) (hi : i < N) (hp : A[i]? = some X) (hb : Below wr.heap.size wr w7) (ho : w7.ownsRow wr.heap.size 3 1 v X.length (X.map (Value.int .i64))) : CpR w (w7.setCell ⟨w.heap.size, i, none⟩ v) N A (i + 1) (vs ++ [v]) := by
  have h2 := owns_below h.row hb (Nat.le_refl _)
  have hwr : w.heap.size + 1 ≤ wr.heap.size := (h.row.lt w.heap.size rfl).2
  have hk : ∀ u m xs, w7.ownsRow (w.heap.size + 1) 3 1 u m xs → (w7.setCell ⟨w.heap.size, i, none⟩ v).ownsRow (w.heap.size + 1) 3 1 u m xs := fun u m xs hu => ownsRow_setCell_below hu (by exact Nat.lt_succ_self _) _
  refine ⟨?_, by rw [List.length_append, h.len]; rfl, ?_, (h.below.trans (hb.mono h.below.size)).setCell (Nat.le_refl _) _⟩
  · have h3 := owns_set (m := i) h2 v
    rw [show N - i = (N - (i + 1)) + 1 from by omega] at h3
    have e := set_at (Value.slice none 0 0) v (N - (i + 1)) vs
    rw [h.len] at e
    rw [e] at h3
    exact h3
  · rw [List.take_add_one, hp]
    refine OwnAll.snoc ?_ (h.all.mono (fun u m xs hu => hk u m xs (owns_below hu hb (Nat.le_refl _))))
    exact hk _ _ _ (ownsE_low ho hwr)

theorem CpR.done {w wr : World} {N : Nat} {A : List (List Int)} {vs : List Value} (h : CpR w wr N A N vs) (hN : A.length = N) : LL wr w.heap.size (.slice (some ⟨w.heap.size, 0, none⟩) N N) vs A := by
  have h1 := h.row
  rw [Nat.sub_self, List.replicate_zero, List.append_nil] at h1
  refine (LL.mk (by rw [h.len]; exact h1) ?_)
  have h2 := h.all
  rw [← hN, List.take_length] at h2
  exact OwnAll.low (Nat.le_succ _) h2

end Go.Proofs.Ytimfoggjocajiaa

/- Contracts: GensMay, the answer's own; Check where it refuses. -/
namespace Go.Proofs.Ytimfoggjocajiaa
open Go.RowKit

set_option maxRecDepth 20000 in
set_option maxHeartbeats 2000000 in
theorem gensMay_ok (n : Nat) (v : Value) (xss : List (List Int)) (w : World) (h : IntsAll w v xss) (h1 : 1 ≤ n) (h12 : n ≤ 12) (h8 : xss.length ≤ 8) :
    Calls Try.prog 15 #[.int .i64 n, v] w fun e w' => e = .returned (.int .i64 (gchk n xss)) ∧ w = w' := by
  obtain ⟨vs, hv, hl, he⟩ := h
  have hn1 : ¬ ((n : Int) < 1) := by omega
  have hn2 : ¬ ((n : Int) > 12) := by omega
  rcases hv with ⟨rfl, p, c, rfl⟩ | ⟨b, off, cap, rfl, h0, hc, hm, hb, hcell⟩
  · obtain rfl : xss = [] := List.length_eq_zero_iff.1 (by simpa using hl.symm)
    clear he hl
    go_enter Try.func15, Try.ntmps15
    go_wp2
    go_loop [5] (fun i => i = .int .i64 0) (fun _ => 0)
    case atStart => rfl
    case round =>
      subst hrel
      go_wp2
      go_ret
      exact ⟨rfl, rfl⟩
  · have hv8 : (vs.length : Int) ≤ 8 := by omega
    have HL := hide hl
    have HE := hide he
    have HC := hide hcell
    clear hl he hcell
    go_enter Try.func15, Try.ntmps15
    go_wp2
    go_loop [5] (fun i => ∃ k : Nat, k ≤ vs.length ∧ i = .int .i64 k ∧ Hid (gchk n (xss.drop k) = gchk n xss)) (fun i => vs.length - (intOf i).toNat)
    case atStart => exact ⟨0, by omega, rfl, rfl⟩
    case round =>
      obtain ⟨k, hk, rfl, ht⟩ := hrel
      by_cases hlt : k < vs.length
      · have hkx : k < xss.length := by have := HL.out; omega
        obtain ⟨p1, c1, hcx, hix⟩ := elAt HC.out hlt (HE.out k hkx)
        have HS := hide (rowMay_any _ _ w hix.out)
        have HD := hide (gchk_drop (n := n) hkx)
        rw [ht.out] at HD
        generalize xss.getD k [] = X at *
        generalize hlx : X.length = lx at *
        have HLX := hide hlx
        clear hix hlx
        go_wp2_with fail
        refine HS.out.mono ?_
        rintro e w1 ⟨rfl, rfl⟩
        by_cases hz : chk X = 0
        · by_cases hn : lx = n
          · have hr : rchk n X = 0 := by unfold rchk; rw [if_pos hz, if_pos (by rw [HLX.out]; exact hn)]
            have HD' : Hid (gchk n (xss.drop (k + 1)) = gchk n xss) := by have := HD.out; rw [if_pos hr] at this; exact this.symm
            rw [hz]
            subst hn
            clear HD HS hz hr
            go_wp2
            go_round
            case rel => exact ⟨k + 1, by omega, by go_num, HD'⟩
            case measure => simp [intOf]; omega
          · have hr : rchk n X = 1 := by unfold rchk; rw [if_pos hz, if_neg (by rw [HLX.out]; exact hn)]
            have HD' : Hid (gchk n xss = 1) := by have := HD.out; rw [hr, if_neg (by decide)] at this; exact this
            have hnn : ((lx : Int) != (n : Int)) = true := by rw [bne_iff_ne]; omega
            rw [hz]
            clear HD HS hz hr hn
            go_wp2
            go_ret
            exact ⟨ret_int HD'.out.symm, rfl⟩
        · have hr : rchk n X = chk X := by unfold rchk; rw [if_neg hz]
          have HD' : Hid (gchk n xss = chk X) := by have := HD.out; rw [hr, if_neg hz] at this; exact this
          have hne : (chk X != 0) = true := by rw [bne_iff_ne]; exact hz
          clear HD HS hz hr
          generalize chk X = z at *
          go_wp2
          go_ret
          exact ⟨ret_int HD'.out.symm, rfl⟩
      · have HE0 : Hid (gchk n xss = 0) := by show _ = _; rw [← ht.out, List.drop_eq_nil_of_le (by have := HL.out; omega)]; rfl
        go_wp2
        go_ret
        exact ⟨ret_int HE0.out.symm, rfl⟩

set_option maxRecDepth 20000 in
theorem gensMay_bad (n : Int) (v : Value) (xss : List (List Int)) (w : World) (h : IntsAll w v xss) (hb : n < 1 ∨ 12 < n ∨ 8 < xss.length) :
    Calls Try.prog 15 #[.int .i64 n, v] w fun e w' => e = .returned (.int .i64 1) ∧ w = w' := by
  obtain ⟨vs, hv, hl, _⟩ := h
  obtain ⟨p, c, rfl⟩ := hv.form
  clear hv
  by_cases h1 : n < 1
  · go_enter Try.func15, Try.ntmps15
    go_wp2
    go_ret
    exact ⟨rfl, rfl⟩
  · by_cases h2 : n > 12
    · go_enter Try.func15, Try.ntmps15
      go_wp2
      go_ret
      exact ⟨rfl, rfl⟩
    · have h3 : (vs.length : Int) > 8 := by omega
      clear hb hl
      go_enter Try.func15, Try.ntmps15
      go_wp2
      go_ret
      exact ⟨rfl, rfl⟩

set_option maxRecDepth 20000 in
theorem gcheck_bad (n : Int) (v : Value) (xss : List (List Int)) (w : World) (h : IntsAll w v xss) (hb : n < 1 ∨ 12 < n ∨ 8 < xss.length) :
    Calls Try.prog 16 #[.int .i64 n, v] w fun e w' => e = .returned (.int .i64 1) ∧ w = w' := by
  obtain ⟨vs, hv, hl, _⟩ := h
  obtain ⟨p, c, rfl⟩ := hv.form
  clear hv
  by_cases h1 : n < 1
  · go_enter Try.func16, Try.ntmps16
    go_wp2
    go_ret
    exact ⟨rfl, rfl⟩
  · by_cases h2 : n > 12
    · go_enter Try.func16, Try.ntmps16
      go_wp2
      go_ret
      exact ⟨rfl, rfl⟩
    · have h3 : (vs.length : Int) > 8 := by omega
      clear hb hl
      go_enter Try.func16, Try.ntmps16
      go_wp2
      go_ret
      exact ⟨rfl, rfl⟩

end Go.Proofs.Ytimfoggjocajiaa

/- Contracts: GensMay, the answer's own; Check and Make where they refuse. -/
namespace Go.Proofs.Ytimfoggjocajiaa
open Go.RowKit

/-- Make, where Check refuses. -/
theorem make_refuses (n : Int) (v : Value) (c : Int) (w : World) (hc : c ≠ 0) (hk : Calls Try.prog 16 #[.int .i64 n, v] w fun e w' => e = .returned (.int .i64 c) ∧ Below w.heap.size w w') :
    Calls Try.prog 14 #[.int .i64 n, v] w fun e w' => e = .returned (.tuple #[.pointer none, .int .i64 c]) ∧ Below w.heap.size w w' := by
  have HK := hide hk
  have hne : (c != 0) = true := by rw [bne_iff_ne]; exact hc
  clear hk hc
  go_enter Try.func14, Try.ntmps14
  go_wp2_with fail
  refine HK.out.mono ?_
  rintro e w1 ⟨rfl, hb1⟩
  go_wp2
  go_ret2
  exact ⟨rfl, hb1⟩

end Go.Proofs.Ytimfoggjocajiaa

/- Contract: coset.Make, where it makes a table. -/
namespace Go.Proofs.Ytimfoggjocajiaa
open Go.RowKit

/-- What Make leaves. -/
def CMade (n : Nat) (H : Pm → Prop) (gss : List (List Int)) (w : World) (e : Ending) (w' : World) : Prop :=
  ∃ (u : Value) (T : List (Pm × List Int)) (N : List (List Nat)), e = .returned (.tuple #[u, .int .i64 0]) ∧ TabAt w' u n H T N ∧ RunC H (letters 0 gss) T.length T N ∧ Below w.heap.size w w'

theorem FillIn.tab {w0 w w' : World} {B T M n m0 b k0 : Nat} {vb vlet : Value} {H : Pm → Prop} {fs : Nat → Int → Option Value} {gss : List (List Int)} {X : List Pm} {e : Ending} (h : FillIn w0 w B T M n m0 b k0 vb vlet H fs gss X) (hF : FillPost w T M n vb H gss e w') :
    e = .returned (.tuple #[]) ∧ ∃ (TT : List (Pm × List Int)) (N : List (List Nat)), TabAt w' (.pointer (some ⟨T, 0, none⟩)) n H TT N ∧ RunC H (letters 0 gss) TT.length TT N ∧ Below w0.heap.size w0 w' := by
  obtain ⟨e1, TT, N, F, cnt, v1, v2, v3, s1, s2, s3, hR, hM, hF⟩ := hF
  have hb : Below w0.heap.size w0 w' := h.b0.trans (hF.frm.below h.b0.size h.t0 h.mt0)
  exact ⟨e1, TT, N, ⟨h.sub, h.hfix, h.one, h.twelve, T, M, m0, b, k0, cnt, w.heap.size, vb, v3, v2, s3, s2, fs, F, rfl, hF.blk, h.br.later hb, hF.map, hM, hF.quad.tri.l3, hF.quad.tri.l2⟩, hR, hb⟩

set_option maxRecDepth 20000 in
set_option maxHeartbeats 8000000 in
theorem cmake_ok (n : Nat) (vg vs : Value) (gss sss : List (List Int)) (w : World) (hA : IntsAll w vg gss) (hS : IntsAll w vs sss) (hR : RowsN n gss) (hRs : RowsN n sss) (h1 : 1 ≤ n) (h12 : n ≤ 12) (h8 : gss.length ≤ 8) (h8s : sss.length ≤ 8) (hm : ∀ x, x ∈ sss → Gen (fun y => y ∈ gss.map pad) (pad x))
    (hf : sz (Gen (fun y => y ∈ sss.map pad)) n ≤ 1000) (ha : sz (Gen (fun y => y ∈ gss.map pad)) n ≤ 1000 * sz (Gen (fun y => y ∈ sss.map pad)) n) :
    Calls Try.prog 30 #[.int .i64 n, vg, vs] w fun e w' => CMade n (Gen (fun y => y ∈ sss.map pad)) gss w e w' := by
  have HMk := hide (make_ok n vg gss w hA h1 h12 h8 hR)
  have HMk2 : Hid (∀ w', Below w.heap.size w w' → Calls Try.prog 14 #[.int .i64 n, vs] w' fun e w'' => ∃ u, e = .returned (.tuple #[u, .int .i64 0]) ∧ GroupAt w'' u n (sss.map pad) ∧ Below w'.heap.size w' w'') := fun w' hb => make_ok n vs sss w' (hS.below hb) h1 h12 h8s hRs
  obtain ⟨X, x1, x2, x3⟩ := sz_list (Gen.sub (fun y => y ∈ gss.map pad)) h12 (fun x hx => gens_fix h12 hR hx)
  have HXA : Hid (∀ x, Gen (fun x => ∃ l, l ∈ letters 0 gss ∧ l.2 = x) x → x ∈ X) := fun x hx => (x2 x).2 ((letters_gen 0 gss x).1 hx)
  have HXL : Hid (X.length ≤ 1000000) := by have : X.length ≤ 1000000 := (by omega); exact this
  have HSF : Hid (∀ h, Gen (fun y => y ∈ sss.map pad) h → Fixes (fun b => n ≤ b) h) := fun h hh => gens_fix h12 hRs hh
  have HA := hide hA
  have HS := hide hS
  have HR := hide hR
  have HRS := hide hRs
  have HM := hide hm
  obtain ⟨ps, cs, rfl⟩ := hS.len
  generalize hzs : sz (Gen (fun y => y ∈ sss.map pad)) n = zs at *
  generalize hzg : sz (Gen (fun y => y ∈ gss.map pad)) n = zg at *
  have HZS := hide hzs
  have HZG := hide hzg
  generalize hsl : sss.length = sl at *
  have HSL := hide hsl
  clear hA hS hR hRs hm x1 x2 x3 hzs hzg hsl
  have hmm := @run_makeMap Try.prog
  have g1 : decide ((1000 : Int) < (zs : Int)) = false := decide_eq_false (by omega)
  have g2 : decide ((1000 : Int) * (zs : Int) < (zg : Int)) = false := decide_eq_false (by omega)
  go_enter Try.func30, Try.ntmps30
  go_wp2_with fail
  refine HMk.out.mono ?_
  rintro ex w1 ⟨u1, rfl, hG1, hb1⟩
  have HG1 := hide hG1
  obtain ⟨gb1, _, _, _, _, _, _, rfl, _⟩ := hG1
  go_wp2_with fail
  refine (HMk2.out w1 hb1).mono ?_
  rintro ex w2 ⟨u2, rfl, hG2, hb2⟩
  have HG2 := hide hG2
  obtain ⟨gb2, _, _, _, _, _, _, rfl, _⟩ := hG2
  have hB2 := hb1.trans (hb2.mono hb1.size)
  have HGw := hide (HG1.out.below hb2 (Nat.le_refl _))
  clear hb1 hb2 HMk HMk2 HG1
  go_wp2
  go_loopw [37] (fun si wr => ∃ k : Nat, k ≤ sl ∧ si = .int .i64 k ∧ Below w2.heap.size w2 wr) (fun si _ => sl - (intOf si).toNat)
  case atStart => exact ⟨0, Nat.zero_le _, rfl, Below.refl _ _⟩
  case round =>
    obtain ⟨k, hk, rfl, hbk⟩ := hrel
    have hBk := hB2.trans (hbk.mono hB2.size)
    by_cases hkl : k < sl
    · obtain ⟨x, hx⟩ : ∃ x, sss[k]? = some x := ⟨_, List.getElem?_eq_getElem (by rw [HSL.out]; exact hkl)⟩
      obtain ⟨gg, og, hpg, hNg, hcg1, hcg2, hgg, hcellg⟩ := HS.out.rowI (by rw [HSL.out]; omega)
      obtain ⟨ux, hcux, hiux⟩ := hcellg _ x hx
      rw [HSL.out] at hcg1
      subst hpg
      have hcux' := (hBk.cell (p := ⟨gg, og + k, none⟩) hgg).trans hcux
      have hxm := List.mem_of_getElem? hx
      obtain ⟨hxr, hxl⟩ := HRS.out x hxm
      have hrz : rchk n x = 0 := by unfold rchk; rw [chk_ok (by omega) (by omega) hxr, if_pos rfl, if_pos hxl]
      have HHs := hide (ghas_ok n _ ux (gss.map pad) x wr (HGw.out.below hbk (Nat.le_refl _)) (hiux.below hBk) hrz)
      have HXM := hide (HM.out x hxm)
      obtain ⟨px, cx, epx⟩ := hiux.form
      rw [hxl] at epx
      subst epx
      clear hNg hcellg hcux hiux hx hxm hxr hxl hrz
      go_wp2_with fail
      refine HHs.out.mono ?_
      rintro ex w3 ⟨t, ht, rfl, hb3⟩
      have et : t = true := ht.2 HXM.out
      subst et
      have hb3' := hbk.trans (hb3.mono hbk.size)
      clear ht hb3 HHs HXM
      go_wp2
      go_roundw
      case rel =>
        have hfin : ∃ k' : Nat, k' ≤ sl ∧ Value.int .i64 ((k : Int) + 1) = .int .i64 (k' : Int) ∧ Below w2.heap.size w2 w3 := ⟨k + 1, hkl, by go_num, hb3'⟩
        first
          | exact hfin
          | ((repeat apply Exists.intro); exact ⟨hfin, rfl⟩)
      case measure => simp [intOf]; omega
    · obtain rfl : sl = k := by omega
      have HGc := hide (HG2.out.below hbk (Nat.le_refl _))
      have HGg := hide (HGw.out.below hbk (Nat.le_refl _))
      have HSz1 := hide (gsize_ok n _ (sss.map pad) wr h12 HGc.out)
      rw [HZS.out] at HSz1
      clear hbk HG2 HGw hB2
      go_wp2_with fail
      refine HSz1.out.mono ?_
      rintro ex w3 ⟨rfl, hb3⟩
      have hB3 := hBk.trans (hb3.mono hBk.size)
      have HGc3 := hide (HGc.out.below hb3 (Nat.le_refl _))
      have HGg3 := hide (HGg.out.below hb3 (Nat.le_refl _))
      have HSz2 := hide (gsize_ok n _ (gss.map pad) w3 h12 HGg3.out)
      rw [HZG.out] at HSz2
      clear hb3 hBk HGc HGg HSz1
      go_wp2_with fail
      refine HSz2.out.mono ?_
      rintro ex w4 ⟨rfl, hb4⟩
      have hB4 := hB3.trans (hb4.mono hB3.size)
      have HGc4 := hide (HGc3.out.below hb4 (Nat.le_refl _))
      have HSz3 := hide (gsize_ok n _ (sss.map pad) w4 h12 HGc4.out)
      rw [HZS.out] at HSz3
      clear hb4 hB3 HGc3 HGg3 HSz2
      go_wp2_with fail
      refine HSz3.out.mono ?_
      rintro ex w5 ⟨rfl, hb5⟩
      have hB5 := hB4.trans (hb5.mono hB4.size)
      have HGc5 := hide (HGc4.out.below hb5 (Nat.le_refl _))
      have HEl := hide (elements_ok n _ (sss.map pad) w5 h12 HGc5.out)
      clear hb5 hB4 HGc4 HSz3
      go_wp2_with fail
      refine HEl.out.mono ?_
      rintro ex w6 hE
      unfold ElPost at hE
      rw [HZS.out, if_neg (by omega)] at hE
      obtain ⟨hb6, ve, vse, Y, rfl, hYl, hYn, hYm, _, hLL⟩ := hE
      have hB6 := hB5.trans (hb6.mono hB5.size)
      have hY1 : 1 ≤ Y.length := List.length_pos_of_mem ((hYm 1).2 Gen.one)
      have HBr := hide (bringing_ok n ve Y w6 hLL.ints hY1 (by omega) h1 h12 (fun x hx => HSF.out x ((hYm x).1 hx)))
      have HYM := hide hYm
      obtain ⟨pe, qe, epe⟩ := hLL.ints.len
      rw [List.length_map, hYl] at epe
      subst epe
      clear hb6 hB5 hYl hYn hYm hLL HEl HGc5
      go_wp2_with fail
      refine HBr.out.mono ?_
      rintro ex w7 ⟨m0, fs, rfl, hBT⟩
      have hB7 := hB6.trans (hBT.below.mono hB6.size)
      have HBA := hide (hBT.done HYM.out h1)
      have HLt : Hid (∀ W, Below w7.heap.size w7 W → Calls Try.prog 74 #[vg] W fun e w' => ∃ u, e = .returned u ∧ LetAt w7 W.heap.size w' u n gss ∧ Below W.heap.size W w') := fun W hW => lettersOf_ok n vg gss w7 W (HA.out.below hB7) hW HR.out h1 h12 (by omega)
      have HB7 := hide hB7
      clear hBT HBr hB6 hB7
      go_wp2_with fail
      obtain ⟨W, hW⟩ : ∃ W, W = (w7.alloc (.map #[] 0)).alloc (.cells (tabC n w7.heap.size (.slice (some ⟨w6.heap.size, 0, none⟩) n n) (.slice none 0 0) (.slice none 0 0)) 110) := ⟨_, rfl⟩
      have hbW : Below w7.heap.size w7 W := by rw [hW]; exact ((Below.refl _ _).alloc (Nat.le_refl _) _).alloc (by simp) _
      have hsW : W.heap.size = w7.heap.size + 2 := by rw [hW]; simp
      have hkW : W.heap[w7.heap.size + 1]? = some (.cells (tabC n w7.heap.size (.slice (some ⟨w6.heap.size, 0, none⟩) n n) (.slice none 0 0) (.slice none 0 0)) 110) := by
        rw [hW]
        have h9 := heap_alloc_last (w7.alloc (.map #[] 0)) (.cells (tabC n w7.heap.size (.slice (some ⟨w6.heap.size, 0, none⟩) n n) (.slice none 0 0) (.slice none 0 0)) 110)
        simpa using h9
      have hmW : IMap W w7.heap.size 0 (fun _ => none) := by rw [hW]; exact (IMap.made w7).alloc _
      refine (HLt.out _ (by rw [hW] at hbW; exact hbW)).mono ?_
      rintro ex w9 ⟨vl, rfl, hLet, hb9⟩
      rw [← hW] at hLet
      have hb9 : Below W.heap.size W w9 := by rw [hW]; exact hb9
      have hFI : FillIn w7 w9 W.heap.size (w7.heap.size + 1) w7.heap.size n m0 w6.heap.size Y.length (.slice (some ⟨w6.heap.size, 0, none⟩) n n) vl (Gen (fun y => y ∈ sss.map pad)) fs gss X :=
        ⟨Gen.sub _, HSF.out, HBA.out, hbW.trans (hb9.mono hbW.size), by omega, Nat.le_refl _, by omega, by omega, by omega, hb9.size, hLet, HR.out, h1, h12, by omega, HXA.out, HXL.out⟩
      have HFl := hide (fill_ok w7 w9 W.heap.size (w7.heap.size + 1) w7.heap.size n m0 w6.heap.size Y.length (.slice (some ⟨w6.heap.size, 0, none⟩) n n) vl (Gen (fun y => y ∈ sss.map pad)) fs gss X hFI ((hb9.block _ (by omega)).trans hkW) (hmW.below hb9 hmW.lt))
      have HFI := hide hFI
      obtain ⟨pl, ql, epl⟩ := hLet.form
      subst epl
      clear hLet hb9 hFI hbW hsW hkW hmW HLt HBA
      go_wp2_with fail
      refine HFl.out.mono ?_
      rintro ex w10 hFP
      obtain ⟨rfl, TT, N, hTab, hRun, hb10⟩ := HFI.out.tab hFP
      have HTab := hide hTab
      have HRun := hide hRun
      have HB10 := hide (HB7.out.trans (hb10.mono HB7.out.size))
      clear hFP hTab hRun hb10 HFl HFI hW
      go_wp2
      go_ret2
      exact ⟨_, TT, N, rfl, HTab.out, HRun.out, HB10.out⟩

end Go.Proofs.Ytimfoggjocajiaa

/- Contracts: coset.Make where it refuses. -/
namespace Go.Proofs.Ytimfoggjocajiaa
open Go.RowKit

def CNo (c : Int) (w : World) (e : Ending) (w' : World) : Prop := e = .returned (.tuple #[.pointer none, .int .i64 c]) ∧ Below w.heap.size w w'

theorem cmake_no1 (n : Int) (vg vs : Value) (c : Int) (w : World) (hc : c ≠ 0) (hk : Calls Try.prog 16 #[.int .i64 n, vg] w fun e w' => e = .returned (.int .i64 c) ∧ Below w.heap.size w w') :
    Calls Try.prog 30 #[.int .i64 n, vg, vs] w fun e w' => CNo c w e w' := by
  have HK := hide (make_refuses n vg c w hc hk)
  have hne : (c != 0) = true := by rw [bne_iff_ne]; exact hc
  clear hk hc
  go_enter Try.func30, Try.ntmps30
  go_wp2_with fail
  refine HK.out.mono ?_
  rintro e w1 ⟨rfl, hb1⟩
  go_wp2
  go_ret2
  exact ⟨rfl, hb1⟩

theorem cmake_no2 (n : Nat) (vg vs : Value) (gss : List (List Int)) (c : Int) (w : World) (hA : IntsAll w vg gss) (hR : RowsN n gss) (h1 : 1 ≤ n) (h12 : n ≤ 12) (h8 : gss.length ≤ 8) (hc : c ≠ 0) (hk : ∀ w', Below w.heap.size w w' → Calls Try.prog 16 #[.int .i64 n, vs] w' fun e w'' => e = .returned (.int .i64 c) ∧ Below w'.heap.size w' w'') :
    Calls Try.prog 30 #[.int .i64 n, vg, vs] w fun e w' => CNo c w e w' := by
  have HMk := hide (make_ok n vg gss w hA h1 h12 h8 hR)
  have HK : Hid (∀ w', Below w.heap.size w w' → Calls Try.prog 14 #[.int .i64 n, vs] w' fun e w'' => e = .returned (.tuple #[.pointer none, .int .i64 c]) ∧ Below w'.heap.size w' w'') := fun w' hb => make_refuses n vs c w' hc (hk w' hb)
  have hne : (c != 0) = true := by rw [bne_iff_ne]; exact hc
  clear hk hc hA hR
  go_enter Try.func30, Try.ntmps30
  go_wp2_with fail
  refine HMk.out.mono ?_
  rintro ex w1 ⟨u1, rfl, hG1, hb1⟩
  obtain ⟨gb1, _, _, _, _, _, _, rfl, _⟩ := hG1
  go_wp2_with fail
  refine (HK.out w1 hb1).mono ?_
  rintro e w2 ⟨rfl, hb2⟩
  go_wp2
  go_ret2
  exact ⟨rfl, hb1.trans (hb2.mono hb1.size)⟩

set_option maxRecDepth 20000 in
set_option maxHeartbeats 8000000 in
theorem cmake_rest (n : Nat) (vg vs : Value) (gss sss : List (List Int)) (c : Int) (w : World) (hA : IntsAll w vg gss) (hS : IntsAll w vs sss) (hR : RowsN n gss) (hRs : RowsN n sss) (h1 : 1 ≤ n) (h12 : n ≤ 12) (h8 : gss.length ≤ 8) (h8s : sss.length ≤ 8)
    (hm : (c = 14 ∧ ∃ x, x ∈ sss ∧ ¬ Gen (fun y => y ∈ gss.map pad) (pad x)) ∨ (c = 3 ∧ (∀ x, x ∈ sss → Gen (fun y => y ∈ gss.map pad) (pad x)) ∧ (1000 < sz (Gen (fun y => y ∈ sss.map pad)) n ∨ 1000 * sz (Gen (fun y => y ∈ sss.map pad)) n < sz (Gen (fun y => y ∈ gss.map pad)) n))) :
    Calls Try.prog 30 #[.int .i64 n, vg, vs] w fun e w' => CNo c w e w' := by
  have HMk := hide (make_ok n vg gss w hA h1 h12 h8 hR)
  have HMk2 : Hid (∀ w', Below w.heap.size w w' → Calls Try.prog 14 #[.int .i64 n, vs] w' fun e w'' => ∃ u, e = .returned (.tuple #[u, .int .i64 0]) ∧ GroupAt w'' u n (sss.map pad) ∧ Below w'.heap.size w' w'') := fun w' hb => make_ok n vs sss w' (hS.below hb) h1 h12 h8s hRs
  have hzle : ∀ (l : List (List Int)), RowsN n l → sz (Gen (fun y => y ∈ l.map pad)) n ≤ 479001600 := fun l hl => by
    have hd := sz_fct (Gen.sub (fun y => y ∈ l.map pad)) h12 (fun x hx => gens_fix h12 hl hx)
    have hf : fct n ≤ 479001600 ∧ 0 < fct n := by
      rcases (show n = 1 ∨ n = 2 ∨ n = 3 ∨ n = 4 ∨ n = 5 ∨ n = 6 ∨ n = 7 ∨ n = 8 ∨ n = 9 ∨ n = 10 ∨ n = 11 ∨ n = 12 by omega) with rfl | rfl | rfl | rfl | rfl | rfl | rfl | rfl | rfl | rfl | rfl | rfl <;> decide
    exact Nat.le_trans (Nat.le_of_dvd hf.2 hd) hf.1
  have hz1 := hzle gss hR
  have hz2 := hzle sss hRs
  have HS := hide hS
  have HRS := hide hRs
  have HM := hide hm
  obtain ⟨ps, cs, rfl⟩ := hS.len
  generalize hzs : sz (Gen (fun y => y ∈ sss.map pad)) n = zs at *
  generalize hzg : sz (Gen (fun y => y ∈ gss.map pad)) n = zg at *
  have HZS := hide hzs
  have HZG := hide hzg
  generalize hsl : sss.length = sl at *
  have HSL := hide hsl
  clear hA hS hR hRs hm hzs hzg hsl hzle
  go_enter Try.func30, Try.ntmps30
  go_wp2_with fail
  refine HMk.out.mono ?_
  rintro ex w1 ⟨u1, rfl, hG1, hb1⟩
  have HG1 := hide hG1
  obtain ⟨gb1, _, _, _, _, _, _, rfl, _⟩ := hG1
  go_wp2_with fail
  refine (HMk2.out w1 hb1).mono ?_
  rintro ex w2 ⟨u2, rfl, hG2, hb2⟩
  have HG2 := hide hG2
  obtain ⟨gb2, _, _, _, _, _, _, rfl, _⟩ := hG2
  have hB2 := hb1.trans (hb2.mono hb1.size)
  have HGw := hide (HG1.out.below hb2 (Nat.le_refl _))
  clear hb1 hb2 HMk HMk2 HG1
  go_wp2
  go_loopw [37] (fun si wr => ∃ k : Nat, k ≤ sl ∧ si = .int .i64 k ∧ Hid (∀ j x, j < k → sss[j]? = some x → Gen (fun y => y ∈ gss.map pad) (pad x)) ∧ Below w2.heap.size w2 wr) (fun si _ => sl - (intOf si).toNat)
  case atStart => exact ⟨0, Nat.zero_le _, rfl, fun j x hj => by omega, Below.refl _ _⟩
  case round =>
    obtain ⟨k, hk, rfl, hall, hbk⟩ := hrel
    have hBk := hB2.trans (hbk.mono hB2.size)
    by_cases hkl : k < sl
    · obtain ⟨x, hx⟩ : ∃ x, sss[k]? = some x := ⟨_, List.getElem?_eq_getElem (by rw [HSL.out]; exact hkl)⟩
      obtain ⟨gg, og, hpg, hNg, hcg1, hcg2, hgg, hcellg⟩ := HS.out.rowI (by rw [HSL.out]; omega)
      obtain ⟨ux, hcux, hiux⟩ := hcellg _ x hx
      rw [HSL.out] at hcg1
      subst hpg
      have hcux' := (hBk.cell (p := ⟨gg, og + k, none⟩) hgg).trans hcux
      have hxm := List.mem_of_getElem? hx
      obtain ⟨hxr, hxl⟩ := HRS.out x hxm
      have hrz : rchk n x = 0 := by unfold rchk; rw [chk_ok (by omega) (by omega) hxr, if_pos rfl, if_pos hxl]
      have HHs := hide (ghas_ok n _ ux (gss.map pad) x wr (HGw.out.below hbk (Nat.le_refl _)) (hiux.below hBk) hrz)
      have HX := hide hx
      have HXM := hide hxm
      obtain ⟨px, cx, epx⟩ := hiux.form
      rw [hxl] at epx
      subst epx
      clear hNg hcellg hcux hiux hx hxm hxr hxl hrz
      go_wp2_with fail
      refine HHs.out.mono ?_
      rintro ex w3 ⟨t, ht, rfl, hb3⟩
      have hb3' := hbk.trans (hb3.mono hbk.size)
      have HT := hide ht
      have HB3 := hide (hBk.trans (hb3.mono hBk.size))
      clear ht hb3 HHs
      cases t
      · have ec : c = 14 := by
          rcases HM.out with h9 | ⟨_, h9, _⟩
          · exact h9.1
          · exact absurd (HT.out.2 (h9 x HXM.out)) (by simp)
        subst ec
        go_wp2
        go_ret2
        exact ⟨rfl, HB3.out⟩
      · have HAl2 : Hid (∀ j y, j < k + 1 → sss[j]? = some y → Gen (fun y => y ∈ gss.map pad) (pad y)) := fun j y hj hy => by
          by_cases e : j = k
          · subst e
            rw [HX.out] at hy
            rw [← Option.some.inj hy]
            exact HT.out.1 rfl
          · exact hall.out j y (by omega) hy
        clear hall
        go_wp2
        go_roundw
        case rel =>
          have hfin : ∃ k' : Nat, k' ≤ sl ∧ Value.int .i64 ((k : Int) + 1) = .int .i64 (k' : Int) ∧ Hid (∀ j x, j < k' → sss[j]? = some x → Gen (fun y => y ∈ gss.map pad) (pad x)) ∧ Below w2.heap.size w2 w3 := ⟨k + 1, hkl, by go_num, HAl2, hb3'⟩
          first
            | exact hfin
            | ((repeat apply Exists.intro); exact ⟨hfin, rfl⟩)
        case measure => simp [intOf]; omega
    · obtain rfl : sl = k := by omega
      have hc : c = 3 ∧ (1000 < zs ∨ 1000 * zs < zg) := by
        rcases HM.out with ⟨_, x, hx, hn⟩ | ⟨h9, _, h8⟩
        · obtain ⟨j, hj, ej⟩ := List.getElem_of_mem hx
          exact absurd (hall.out j x (by rw [← HSL.out]; exact hj) (by rw [List.getElem?_eq_getElem hj, ej])) hn
        · exact ⟨h9, h8⟩
      obtain ⟨rfl, hbig⟩ := hc
      have HGc := hide (HG2.out.below hbk (Nat.le_refl _))
      have HGg := hide (HGw.out.below hbk (Nat.le_refl _))
      have HSz1 := hide (gsize_ok n _ (sss.map pad) wr h12 HGc.out)
      rw [HZS.out] at HSz1
      clear hbk HG2 HGw hB2 hall
      by_cases hb1 : 1000 < zs
      · have g1 : decide ((1000 : Int) < (zs : Int)) = true := decide_eq_true (by omega)
        go_wp2_with fail
        refine HSz1.out.mono ?_
        rintro ex w3 ⟨rfl, hb3⟩
        have hB3 := hBk.trans (hb3.mono hBk.size)
        clear hb3
        go_wp2
        go_ret2
        exact ⟨rfl, hB3⟩
      · have g1 : decide ((1000 : Int) < (zs : Int)) = false := decide_eq_false (by omega)
        have g2 : decide ((1000 : Int) * (zs : Int) < (zg : Int)) = true := decide_eq_true (by omega)
        go_wp2_with fail
        refine HSz1.out.mono ?_
        rintro ex w3 ⟨rfl, hb3⟩
        have hB3 := hBk.trans (hb3.mono hBk.size)
        have HGc3 := hide (HGc.out.below hb3 (Nat.le_refl _))
        have HGg3 := hide (HGg.out.below hb3 (Nat.le_refl _))
        have HSz2 := hide (gsize_ok n _ (gss.map pad) w3 h12 HGg3.out)
        rw [HZG.out] at HSz2
        clear hb3 hBk HGc HGg HSz1
        go_wp2_with fail
        refine HSz2.out.mono ?_
        rintro ex w4 ⟨rfl, hb4⟩
        have hB4 := hB3.trans (hb4.mono hB3.size)
        have HGc4 := hide (HGc3.out.below hb4 (Nat.le_refl _))
        have HSz3 := hide (gsize_ok n _ (sss.map pad) w4 h12 HGc4.out)
        rw [HZS.out] at HSz3
        clear hb4 hB3 HGc3 HGg3 HSz2
        go_wp2_with fail
        refine HSz3.out.mono ?_
        rintro ex w5 ⟨rfl, hb5⟩
        have hB5 := hB4.trans (hb5.mono hB4.size)
        clear hb5
        go_wp2
        go_ret2
        exact ⟨rfl, hB5⟩

end Go.Proofs.Ytimfoggjocajiaa
