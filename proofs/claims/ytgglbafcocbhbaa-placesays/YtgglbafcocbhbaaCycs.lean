/- Contract: Cycles. -/
import Derived.Test.YtgglbafcocbhbaaCyc
namespace Go.Proofs.Ytgglbafcocbhbaa
open Go.RowKit

theorem Try.info22 : (Try.prog.info? 22).map (fun i => (i.zero, i.size, i.bytes)) = some (some (.slice none 0 0), 1, 24) := by kernel_rfl

/-- The cycles that are found from the first k bells. -/
def cycsTo (r : List Int) : Nat → List (List Int)
  | 0 => []
  | k + 1 => if (k : Int) ∈ (cycsTo r k).flatten then cycsTo r k else cycsTo r k ++ [orb r k (per r k)]

/-- Each of the slices is the call's own and holds its list. -/
def OwnAll (w : World) (base : Nat) : List Value → List (List Int) → Prop
  | [], [] => True
  | u :: us, x :: xs => w.ownsRow base 3 1 u x.length (x.map (Value.int .i64)) ∧ OwnAll w base us xs
  | _, _ => False

theorem OwnAll.mono {w w' : World} {base : Nat} (h : ∀ u n xs, w.ownsRow base 3 1 u n xs → w'.ownsRow base 3 1 u n xs) : ∀ {us : List Value} {xs : List (List Int)}, OwnAll w base us xs → OwnAll w' base us xs
  | [], [], _ => trivial
  | _ :: _, _ :: _, ⟨h1, h2⟩ => ⟨h _ _ _ h1, OwnAll.mono h h2⟩

theorem OwnAll.snoc {w : World} {base : Nat} {u : Value} {x : List Int} (h : w.ownsRow base 3 1 u x.length (x.map (Value.int .i64))) : ∀ {us : List Value} {xs : List (List Int)}, OwnAll w base us xs → OwnAll w base (us ++ [u]) (xs ++ [x])
  | [], [], _ => ⟨h, trivial⟩
  | _ :: _, _ :: _, ⟨h1, h2⟩ => ⟨h1, OwnAll.snoc h h2⟩

theorem OwnAll.length {w : World} {base : Nat} : ∀ {us : List Value} {xs : List (List Int)}, OwnAll w base us xs → us.length = xs.length
  | [], [], _ => rfl
  | _ :: _, _ :: _, ⟨_, h2⟩ => by simp [OwnAll.length h2]

/-- Rows of different element types are different rows: what is owned of ints stays owned while the row of slices is written. -/
theorem owns_kept_ty {w w' : World} {base n m : Nat} {u v : Value} {xs ys : List Value} (h1 : w.ownsRow base 3 1 u n xs) (h2 : w.ownsRow base 22 1 v m ys) (hg : w.grownBy w' v.ownBlock) : w'.ownsRow base 3 1 u n xs := by
  refine h1.kept hg ?_
  rcases h1.2 with ⟨rfl, _⟩ | ⟨g1, c1, cur1, rfl, _, hh1, _⟩
  · exact Or.inl rfl
  · right
    rcases h2.2 with ⟨rfl, _⟩ | ⟨g2, c2, cur2, rfl, _, hh2, _⟩
    · intro e; cases e
    · intro e
      have e' : g1 = g2 := by simpa [Value.ownBlock] using e
      subst e'
      rw [hh1] at hh2
      injection hh2 with hh2
      injection hh2 with _ e2 _
      exact absurd e2 (by decide)

theorem marks_kept {w w' : World} {D : Nat} {row : Option Nat} {xs : List Int} (h : Marks w D xs) (hg : w.grownBy w' row) (hD : D < w.heap.size) (hr : some D ≠ row) : Marks w' D xs := by
  intro j hj
  have hb := hg.block D hD hr
  refine ⟨?_, ?_⟩
  · rw [World.cell?_of_block (w := w) (a := ⟨D, j, none⟩) hb]; exact (h j hj).1
  · rw [World.frozen?_of_block (w := w) (a := ⟨D, j, none⟩) hb]; exact (h j hj).2

theorem marks_below {w w' : World} {D B : Nat} {xs : List Int} (h : Marks w D xs) (hb : Below B w w') (hD : D < B) : Marks w' D xs := by
  intro j hj
  refine ⟨?_, ?_⟩
  · rw [hb.cell (p := ⟨D, j, none⟩) hD]; exact (h j hj).1
  · rw [hb.frozen (p := ⟨D, j, none⟩) hD]; exact (h j hj).2

theorem owns_below {w w' : World} {base B e n : Nat} {v : Value} {xs : List Value} (h : w.ownsRow base e 1 v n xs) (hb : Below B w w') (hB : w.heap.size ≤ B) : w'.ownsRow base e 1 v n xs := by
  obtain ⟨h1, h2⟩ := h
  refine ⟨h1, ?_⟩
  rcases h2 with h2 | ⟨g, cap, cur, hv, hg, hh, r⟩
  · exact Or.inl h2
  · have hlt : g < w.heap.size := (Array.getElem?_eq_some_iff.1 hh).1
    exact Or.inr ⟨g, cap, cur, hv, hg, by rw [hb.block g (by omega)]; exact hh, r⟩

theorem owns_form {w : World} {base e n : Nat} {v : Value} {xs : List Value} (h : w.ownsRow base e 1 v n xs) (hn : 1 ≤ n) : ∃ g cap, v = .slice (some ⟨g, 0, none⟩) n cap ∧ base ≤ g ∧ g < w.heap.size ∧ n ≤ cap ∧ cap ≤ 9223372036854775807 := by
  rcases h.2 with ⟨_, h0⟩ | ⟨g, cap, cur, rfl, hg, hh, hc, hm, _⟩
  · omega
  · exact ⟨g, cap, rfl, hg, (Array.getElem?_eq_some_iff.1 hh).1, hc, by unfold maxLen at hm; omega⟩

theorem cycleFrom_own (v1 : Value) (a : List Int) (x : Nat) (w : World) (i1 : Ints w v1 a) (r1 : isRow a) (n2 : a.length ≤ 12) (hx : x < a.length) :
    Calls Try.prog 40 #[v1, .int .i64 x] w fun e w' => ∃ g cap, e = .returned (.slice (some ⟨g, 0, none⟩) (per a x) cap) ∧ w.heap.size ≤ g ∧ per a x ≤ cap ∧ cap ≤ 9223372036854775807 ∧
      w'.ownsRow w.heap.size 3 1 (.slice (some ⟨g, 0, none⟩) (per a x) cap) (per a x) ((orb a x (per a x)).map (Value.int .i64)) ∧ Below w.heap.size w w' := by
  refine (cycleFrom_ok v1 a x w i1 r1 n2 hx).mono ?_
  rintro e w' ⟨v, rfl, hown, hb⟩
  obtain ⟨g, cap, rfl, h1, _, h2, h3⟩ := owns_form hown (per_spec r1 hx).1
  exact ⟨g, cap, rfl, h1, h2, h3, hown, hb⟩

theorem orb_at {r : List Int} {x k i : Nat} (h : i < k) : (orb r x k)[i]?.getD 0 = ((it r i x : Nat) : Int) := by simp [orb, h]

theorem orb_take {r : List Int} {x k i : Nat} (h : i < k) : (orb r x k).take (i + 1) = (orb r x k).take i ++ [((it r i x : Nat) : Int)] := by
  rw [take_snoc _ _ (by rw [orb_length]; exact h), orb_at h]

/-- What the outer loop's relation says of the world. -/
structure CycRel (w wr : World) (D : Nat) (a : List Int) (v : Value) (k : Nat) (vs : List Value) (xss : List (List Int)) : Prop where
  row : wr.ownsRow (D + 1) 22 1 v vs.length vs
  all : OwnAll wr (D + 1) vs xss
  found : Hid (xss = cycsTo a k)
  marks : Marks wr D xss.flatten
  size : D < wr.heap.size
  below : Below w.heap.size w wr

/-- .. and the inner one's. -/
structure MarkRel (w wr : World) (D : Nat) (v : Value) (vs : List Value) (xss : List (List Int)) (g p cap i : Nat) (o : List Int) : Prop where
  row : wr.ownsRow (D + 1) 22 1 v vs.length vs
  all : OwnAll wr (D + 1) vs xss
  one : wr.ownsRow (D + 1) 3 1 (.slice (some ⟨g, 0, none⟩) p cap) p (o.map (Value.int .i64))
  marks : Marks wr D (xss.flatten ++ o.take i)
  size : D < wr.heap.size
  below : Below w.heap.size w wr

theorem cycsTo_length (r : List Int) (k : Nat) : (cycsTo r k).length ≤ k := by
  induction k with
  | zero => exact Nat.le_refl _
  | succ k ih =>
    show (if (k : Int) ∈ (cycsTo r k).flatten then cycsTo r k else cycsTo r k ++ [orb r k (per r k)]).length ≤ k + 1
    split
    · omega
    · simp; omega

theorem CycRel.skip {w wr : World} {D k : Nat} {a : List Int} {v : Value} {vs : List Value} {xss : List (List Int)} (h : CycRel w wr D a v k vs xss) (hm : (k : Int) ∈ xss.flatten) : CycRel w wr D a v (k + 1) vs xss :=
  ⟨h.row, h.all, by show xss = if (k : Int) ∈ (cycsTo a k).flatten then cycsTo a k else cycsTo a k ++ [orb a k (per a k)]; rw [← h.found.out, if_pos hm], h.marks, h.size, h.below⟩

theorem CycRel.enter {w wr w1 : World} {D k g cap : Nat} {a : List Int} {v : Value} {vs : List Value} {xss : List (List Int)} (h : CycRel w wr D a v k vs xss) (hB : Below wr.heap.size wr w1)
    (ho : w1.ownsRow wr.heap.size 3 1 (.slice (some ⟨g, 0, none⟩) (per a k) cap) (per a k) ((orb a k (per a k)).map (Value.int .i64))) : MarkRel w w1 D v vs xss g (per a k) cap 0 (orb a k (per a k)) :=
  ⟨owns_below h.row hB (Nat.le_refl _), h.all.mono (fun _ _ _ h' => owns_below h' hB (Nat.le_refl _)), owns_base ho h.size, by rw [List.take_zero, List.append_nil]; exact marks_below h.marks hB h.size, Nat.lt_of_lt_of_le h.size hB.size, h.below.trans (hB.mono h.below.size)⟩

theorem MarkRel.step {w wr : World} {D g p cap i m B : Nat} {v : Value} {vs : List Value} {xss : List (List Int)} {o : List Int} (h : MarkRel w wr D v vs xss g p cap i o) (hm : m < 12) (ho : o.take (i + 1) = o.take i ++ [(m : Int)]) (hB : B = w.heap.size) (hD : B ≤ D) :
    MarkRel w (wr.setCell ⟨D, m, none⟩ (.bool true)) D v vs xss g p cap (i + 1) o :=
  ⟨ownsRow_setCell_below h.row (by exact Nat.lt_succ_self D) _, h.all.mono (fun _ _ _ h' => ownsRow_setCell_below h' (by exact Nat.lt_succ_self D) _), ownsRow_setCell_below h.one (by exact Nat.lt_succ_self D) _,
    by rw [ho, ← List.append_assoc]; exact h.marks.set hm, by simp [World.setCell]; exact h.size, h.below.setCell (by subst hB; exact hD) _⟩

theorem MarkRel.leave {w wr w' : World} {D g cap k : Nat} {a : List Int} {v v' : Value} {vs : List Value} {xss : List (List Int)} {o : Obj} (h : MarkRel w wr D v vs xss g (per a k) cap (per a k) (orb a k (per a k))) (hf : Hid (xss = cycsTo a k)) (hm : ¬ (k : Int) ∈ xss.flatten) (hD : w.heap.size ≤ D)
    (ho : w'.ownsRow (D + 1) 22 1 v' (vs.length + 1) (vs ++ [.slice (some ⟨g, 0, none⟩) (per a k) cap])) (hg : (wr.alloc o).grownBy w' v.ownBlock) : CycRel w w' D a v' (k + 1) (vs ++ [.slice (some ⟨g, 0, none⟩) (per a k) cap]) (xss ++ [orb a k (per a k)]) := by
  have hrow := h.row.alloc o
  have hs : D < (wr.alloc o).heap.size := by have := h.size; simp; omega
  refine ⟨by rw [List.length_append]; exact ho, ?_, ?_, ?_, Nat.lt_of_lt_of_le hs hg.size, ?_⟩
  · refine OwnAll.snoc ?_ (h.all.mono (fun _ _ _ h' => owns_kept_ty (h'.alloc o) hrow hg))
    rw [orb_length]
    exact owns_kept_ty (h.one.alloc o) hrow hg
  · show _ = if (k : Int) ∈ (cycsTo a k).flatten then cycsTo a k else cycsTo a k ++ [orb a k (per a k)]
    rw [← hf.out, if_neg hm]
  · have hmk := h.marks
    rw [List.take_of_length_le (by rw [orb_length]; exact Nat.le_refl _)] at hmk
    rw [List.flatten_append, show [orb a k (per a k)].flatten = orb a k (per a k) from by simp]
    refine marks_kept (marks_kept hmk (World.grownBy_alloc wr o none) h.size (by simp)) hg hs ?_
    intro e
    have := (h.row.lt D e.symm).1
    omega
  · refine (h.below.alloc h.below.size o).grown hg (by have := h.below.size; simp; omega) (fun g' hg' => ?_)
    have := (h.row.lt g' hg').1
    omega

set_option maxRecDepth 20000 in
set_option maxHeartbeats 2000000 in
theorem cycles_ok (v1 : Value) (a : List Int) (w : World) (i1 : Ints w v1 a) (r1 : isRow a) (n1 : 1 ≤ a.length) (n2 : a.length ≤ 12) :
    Calls Try.prog 8 #[v1] w fun e w' => ∃ v vs D, e = .returned (.tuple #[v, .int .i64 0]) ∧ w'.ownsRow D 22 1 v vs.length vs ∧ OwnAll w' D vs (cycsTo a a.length) ∧ w.heap.size ≤ D ∧ Below w.heap.size w w' := by
  obtain ⟨i0, hi, hz0, hz1, hz2⟩ := info_parts Try.info22
  have hc1 := chk_ok n1 n2 r1
  have C1 := check_any v1 a w i1
  rw [hc1] at C1
  have HC1 := hide C1
  have HI := hide i1
  have R1 := hide r1
  clear C1 hc1
  rcases i1 with ⟨rfl, p, c, rfl⟩ | ⟨b1, o1, cap1, rfl, h01, hcp1, hm1, hb1, hcell1⟩
  · simp at n1
  clear r1 hcell1
  go_enter Try.func8, Try.ntmps8
  go_wp2_with fail
  refine HC1.out.mono ?_
  rintro e w2 ⟨rfl, hB2⟩
  clear HC1
  have hD := hB2.size
  go_wp2
  go_loopw [6, 18] (fun v i wr => ∃ (k : Nat) (vs : List Value) (xss : List (List Int)), k ≤ a.length ∧ i = .int .i64 k ∧ CycRel w wr w2.heap.size a v k vs xss) (fun _ i _ => a.length - (intOf i).toNat)
  case atStart => exact ⟨0, [], [], by omega, rfl, ⟨World.ownsRow_nil _ _ _ _, trivial, rfl, marks_start w2, by simp, hB2.alloc hB2.size _⟩⟩
  case round =>
    obtain ⟨k, vs, xss, hk, rfl, hrel⟩ := hrel
    by_cases hlt : k < a.length
    · obtain ⟨t, ht, gt, gf⟩ := marksAt hrel.marks (show k < 12 by omega)
      cases t with
      | true =>
        have hin := hide (hrel.skip (by simpa using ht.out.symm))
        go_wp2
        go_roundw
        case rel => exact ⟨k + 1, vs, xss, by omega, by go_num, hin.out⟩
        case measure => simp [intOf]; omega
      | false =>
        have hni := hide (p := ¬ (k : Int) ∈ xss.flatten) (by simpa using ht.out.symm)
        have HCF := hide (cycleFrom_own _ a k wr (HI.out.below hrel.below) R1.out n2 hlt)
        have hper := (per_spec R1.out hlt).2.1
        have hit := hide (fun i => it_lt R1.out hlt i)
        go_wp2_with fail
        refine HCF.out.mono ?_
        rintro e w3 ⟨g, cap, rfl, hgs, hpc, hcm, hown3, hB3⟩
        have hmr := hrel.enter hB3 hown3
        have HF := hrel.found
        have HV := hide (OwnAll.length hrel.all)
        have HX : Hid (xss.length ≤ k) := by have := hrel.found.out; rw [this]; exact cycsTo_length a k
        clear hrel hown3 hB3 HCF gt gf ht hgs
        obtain ⟨wo, hwo⟩ : ∃ wo : World, wo = wr := ⟨_, rfl⟩
        clear hwo
        generalize hpp : per a k = p at *
        generalize hoo : orb a k p = o at *
        have HPP := hide hpp
        have HOO := hide hoo
        clear hpp hoo
        go_wp2
        go_loopw [29] (fun i wr => ∃ j : Nat, j ≤ p ∧ i = .int .i64 j ∧ MarkRel w wr w2.heap.size u6 vs xss g p cap j o) (fun i _ => p - (intOf i).toNat)
        case atStart => exact ⟨0, by omega, rfl, hmr⟩
        case round =>
          clear hmr
          obtain ⟨j, hj, rfl, hmr⟩ := hrel
          by_cases hjp : j < p
          · obtain ⟨y, hy, hcy, _⟩ := owns_cellAt hmr.one hjp
            have hym : y = ((it a j k : Nat) : Int) := by rw [← hy.out, ← HOO.out, orb_at hjp]
            have htk := hide (orb_take (r := a) (x := k) hjp)
            rw [HOO.out] at htk
            rw [hym] at hcy
            have hm12 : it a j k < 12 := by have := hit.out j; omega
            clear hy hym
            generalize it a j k = m at *
            obtain ⟨t, _, gt, gf⟩ := marksAt hmr.marks hm12
            go_wp2
            go_roundw
            case rel => exact ⟨j + 1, by omega, by go_num, hmr.step hm12 htk.out rfl hD⟩
            case measure => simp [intOf]; omega
          · obtain rfl : j = p := by omega
            have hbs := hmr.size
            have hvl : vs.length ≤ 12 := by have := HV.out; have := HX.out; omega
            go_wp2_with (at_builtin; refine wpList_append_own _ rfl _ _ 25 rfl (w2.heap.size + 1) 22 i0 (.slice none 0 0) 1 24 Try.underlying25 hi hz0 hz1 hz2 rfl (by decide) _ _ _ rfl (hmr.row.alloc _) ⟨wr.heap.size, 0, none⟩ 1 1 [.slice (some ⟨g, 0, none⟩) j cap] rfl rfl ?c1 ?c2 ?c3 ?c4 ?c5 ?_)
            case c1 => exact cell_one_new _ _ _
            case c2 => intro u hu; simp at hu; subst hu; rfl
            case c3 => unfold maxLen; omega
            case c4 => omega
            case c5 => simp; omega
            · intro v' w4 hown4 hgrow _
              go_wp2
              go_roundw
              case rel =>
                have hP := HPP.out
                subst hP
                have hO := HOO.out
                subst hO
                exact ⟨k + 1, _, _, by omega, by go_num, hmr.leave HF hni.out hD hown4 hgrow⟩
              case measure => simp [intOf]; omega
    · obtain rfl : k = a.length := by omega
      go_wp2
      go_ret2
      refine ⟨_, vs, w2.heap.size + 1, rfl, hrel.row, ?_, by omega, hrel.below⟩
      have := hrel.all
      rw [hrel.found.out] at this
      exact this

end Go.Proofs.Ytgglbafcocbhbaa
