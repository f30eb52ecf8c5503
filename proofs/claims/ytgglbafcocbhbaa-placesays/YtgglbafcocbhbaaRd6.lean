/- Contracts: strings.IndexRune at the signs, (*reader).take, (*reader).end. (Written by mktk.py.) -/
import Derived.Test.YtgglbafcocbhbaaRd5
import Derived.Test.YtgglbafcocbhbaaIdx
namespace Go.Proofs.Ytgglbafcocbhbaa
open Go.RowKit

theorem indexRune_any (c : Nat) (w : World) (h2 : c < 55296 ∨ 57343 < c) (h3 : c ≤ 1114111) :
    Calls Try.prog 63 #[.string ⟨#[49, 50, 51, 52, 53, 54, 55, 56, 57, 48, 69, 84]⟩, .int .i32 c] w fun e w' => e = .returned (.int .i64 (si c)) ∧ Below w.heap.size w w' := by
  by_cases h1 : c < 128
  · exact indexRune_low c w h1
  · have hs : si c = -1 := by unfold si; rw [if_neg h1]
    rw [hs]
    by_cases h4 : c = 65533
    · subst h4; exact indexRune_bad w
    · exact indexRune_high c w (by omega) (by omega) (by omega) (by omega)

theorem si_range (c : Nat) : -1 ≤ si c ∧ si c ≤ 11 := by
  unfold si
  by_cases h : c < 128
  · rw [if_pos h]
    have key : ∀ k : Fin 128, -1 ≤ Go.Lib.indexByte [49, 50, 51, 52, 53, 54, 55, 56, 57, 48, 69, 84] k.1.toUInt8 ∧ Go.Lib.indexByte [49, 50, 51, 52, 53, 54, 55, 56, 57, 48, 69, 84] k.1.toUInt8 ≤ 11 := by decide +kernel
    exact key ⟨c, h⟩
  · rw [if_neg h]; omega

/-- What bounds a reader keeps, behind k runes. -/
structure RS.Fine (k : Nat) (st : RS) : Prop where
  block : st.block.length ≤ 200
  all : st.all.length ≤ 200
  signs : ∀ x ∈ st.opn, 1 ≤ x ∧ x ≤ 12
  opn : st.opn.length ≤ k
  inner : ∀ j, (st.block.getD j []).length ≤ k + 2

theorem RS.Fine.new : RS.Fine 0 RS.new := ⟨by decide, by decide, (fun x hx => by cases hx), by decide, fun j => by simp [RS.new]⟩

theorem fill_len (n : Int) (l : List Int) : (fill2 n (fill1 l)).length ≤ l.length + 2 := by
  have := fill1_len l
  unfold fill2
  split
  · simp; omega
  · omega

theorem getD_snoc_len {b : List (List Int)} {p : List Int} {k : Nat} (h : ∀ j, (b.getD j []).length ≤ k) (hp : p.length ≤ k) (j : Nat) : ((b ++ [p]).getD j []).length ≤ k := by
  by_cases hj : j < b.length
  · have := h j
    simp only [List.getD] at this ⊢
    rw [List.getElem?_append_left hj]; exact this
  · simp only [List.getD]
    rw [List.getElem?_append_right (by omega)]
    cases hq : j - b.length with
    | zero => simpa using hp
    | succ q => simp

theorem RS.Fine.mono {k k' : Nat} {st : RS} (h : RS.Fine k st) (hk : k ≤ k') : RS.Fine k' st := ⟨h.block, h.all, h.signs, Nat.le_trans h.opn hk, fun j => Nat.le_trans (h.inner j) (by omega)⟩

theorem RS.Fine.add {k : Nat} {n : Int} {st : RS} {ps : List Int} (h : RS.Fine k st) (hp : ps.length ≤ k + 2) (h0 : (st.add n ps).1 = 0) : RS.Fine k (st.add n ps).2 := by
  unfold RS.add at h0 ⊢
  split at h0
  · rename_i hok
    rw [if_pos hok]
    split at h0
    · cases h0
    · rename_i hl
      exact ⟨by show (st.block ++ [ps]).length ≤ 200; omega, h.all, h.signs, h.opn, getD_snoc_len h.inner hp⟩
  · cases h0

theorem RS.Fine.endSigns {k : Nat} {n : Int} {st : RS} (h : RS.Fine k st) (h0 : (st.endSigns n).1 = 0) : RS.Fine k (st.endSigns n).2 ∧ (st.endSigns n).2.opn = [] := by
  unfold RS.endSigns at h0 ⊢
  by_cases hz : st.opn = []
  · rw [if_pos hz]; exact ⟨h, hz⟩
  · rw [if_neg hz] at h0 ⊢
    have h1 : RS.Fine k { st with opn := [] } := ⟨h.block, h.all, (fun x hx => by cases hx), Nat.zero_le _, h.inner⟩
    refine ⟨h1.add (by have := fill_len n st.opn; have := h.opn; omega) h0, ?_⟩
    unfold RS.add
    split <;> rfl

section
variable {w : World} {R D : Nat} {n : Int} {av bv ov : Value} {avs bvs : List Value} {st : RS}

theorem RdAt.fresh (h : RdAt w R D n av bv ov avs bvs st) (ho : st.opn = []) : RdAt w R w.heap.size n av bv ov avs bvs st := by
  refine ⟨h.blk, h.all, h.block, ?_, fun u hu b hb => Nat.lt_of_lt_of_le (h.inner u hu b hb) h.high, h.sep, h.lt, Nat.le_refl _, h.nilo⟩
  rw [h.nilo ho, ho]; exact World.ownsRow_nil _ _ _ _

/-- One more sign. -/
theorem RdAt.sign {w5 : World} {v' : Value} {x : Int} (h : RdAt w R D n av bv ov avs bvs st) (hown : w5.ownsRow D 3 1 v' (st.opn.length + 1) ((st.opn ++ [x]).map (Value.int .i64))) (hg : w.grownBy w5 ov.ownBlock) :
    RdAt (w5.setCell ⟨R, 5, none⟩ v') R D n av bv v' avs bvs { st with opn := st.opn ++ [x] } ∧ w5.heap[R]? = w.heap[R]? ∧ Bel R w w5 := by
  have hin : ∀ y m ys, y ∈ avs ++ bvs → w.ownsRow (R + 1) 3 1 y m ys → w5.ownsRow (R + 1) 3 1 y m ys := by
    intro y m ys hy hr
    refine hr.kept hg ?_
    cases hb : y.ownBlock with
    | none => exact Or.inl rfl
    | some b =>
      refine Or.inr (fun e => ?_)
      have h1 := h.inner y hy b hb
      have h2 := (h.opn.lt b e.symm).1
      omega
  have hR : w5.heap[R]? = w.heap[R]? := hg.block R h.lt (fun e => by have := (h.opn.lt R e.symm).1; have := h.low; omega)
  have hall : LL w5 (R + 1) av avs st.all := ⟨h.all.row.kept hg (own_ty_ne h.all.row h.opn (by decide)), h.all.all.memw (fun y m ys hy => hin y m ys (List.mem_append.2 (Or.inl hy)))⟩
  have hbl : LL w5 (R + 1) bv bvs st.block := ⟨h.block.row.kept hg (own_ty_ne h.block.row h.opn (by decide)), h.block.all.memw (fun y m ys hy => hin y m ys (List.mem_append.2 (Or.inr hy)))⟩
  refine ⟨⟨by rw [heap_set7 (hR.trans h.blk)]; rfl, hall.setR, hbl.setR, ownsRow_setCell_below (by rw [List.length_append]; exact hown) (by exact h.low) _, h.inner, h.sep, h.low, by simp [World.setCell]; exact Nat.le_trans h.high hg.size, fun e => by simp at e⟩, hR, ?_⟩
  exact Bel.grown h.opn h.low (Nat.le_of_lt h.lt) hg

end

set_option maxRecDepth 20000 in
set_option maxHeartbeats 4000000 in
theorem take_sign (R : Nat) (n : Int) (k c : Nat) (st : RS) (w : World) (h : Rd w R n st) (hf : RS.Fine k st) (hk : k ≤ 5000) (h2 : c < 55296 ∨ 57343 < c) (h3 : c ≤ 1114111) (hs : 0 ≤ si c) :
    Calls Try.prog 51 #[.pointer (some ⟨R, 0, none⟩), .int .i32 c] w fun e w' => Goes w R n (st.take n c (si c)) e w' := by
  obtain ⟨j0, hj, hq0, hq1, hq2⟩ := info_parts Try.info3
  have HM : Hid (st.take n c (si c) = (0, { st with opn := st.opn ++ [si c + 1] })) := by show _ = _; unfold RS.take; rw [if_pos hs]
  have HIX := hide (indexRune_any c w h2 h3)
  have hsr := si_range c
  have hol : st.opn.length ≤ 5000 := Nat.le_trans hf.opn hk
  obtain ⟨D0, av, bv, ov, avs, bvs, h0⟩ := h
  obtain ⟨D, h⟩ : ∃ D, RdAt w R D n av bv ov avs bvs st := ⟨D0, h0⟩
  have hD : ∃ D, RdAt w R D n av bv ov avs bvs st ∧ (st.opn = [] → D = w.heap.size) := by
    by_cases ho : st.opn = []
    · exact ⟨_, h.fresh ho, fun _ => rfl⟩
    · exact ⟨D, h, fun e => absurd e ho⟩
  clear h0 h
  obtain ⟨D, h, _⟩ := hD
  have HH := hide h
  have hRl := h.lt
  clear h h2 h3 hf
  generalize si c = sx at *
  go_enter Try.func51, Try.ntmps51
  go_wp2_with fail
  refine HIX.out.mono ?_
  rintro e w1 ⟨rfl, hb1⟩
  have h1 := HH.out.later hb1
  have c5 := (cells7 h1.blk).2.2.2.2.2.1
  have hA := h1.later ((Below.refl _ _).alloc (Nat.le_refl _) (.cells #[.int .i64 (sx + 1)] 3))
  have hrow := hA.opn
  have HA := hide hA
  obtain ⟨op, oc, hoe⟩ := owns_slice h1.opn
  rw [hoe] at c5 hrow
  have HOE := hide hoe
  have hD2 := h1.high
  have hs1 := hb1.size
  have hBR : Bel R w w1 := Bel.of hb1 (by omega)
  generalize hol' : st.opn.length = ol at *
  have HOL := hide hol'
  clear hA h1 hoe hol' HIX hb1
  go_wp2_with (at_builtin; refine wpList_append_own _ rfl _ _ 22 rfl D 3 j0 (.int .i64 0) 1 8 Try.underlying22 hj hq0 hq1 hq2 rfl (by decide) _ _ _ rfl hrow ⟨w1.heap.size, 0, none⟩ 1 1 [.int .i64 (sx + 1)] rfl rfl ?c1 ?c2 ?c3 ?c4 ?c5 ?_)
  case c1 => exact cell_one_new _ _ _
  case c2 => intro u hu; simp at hu; subst hu; rfl
  case c3 => unfold maxLen; omega
  case c4 => omega
  case c5 => simp; omega
  · intro v' w5 hown5 hg5 _
    obtain ⟨hR5, hb5, hB5⟩ := HA.out.sign (x := sx + 1) (by rw [HOL.out, List.map_append]; exact hown5) (by rw [HOE.out]; exact hg5)
    have hblk5 := hb5.trans HA.out.blk
    have d5 := (cells7 hblk5).2.2.2.2.2.1
    have f5 := frozen7 hblk5 5
    have HR5 := hide hR5
    have hB6 : Bel R w (w5.setCell ⟨R, 5, none⟩ v') := ((hBR.trans ((Bel.refl R w1).alloc (by omega) _)).trans hB5).setCell (p := ⟨R, 5, none⟩) (Nat.le_refl _) _
    obtain ⟨vp, vc, rfl⟩ := owns_slice hown5
    clear hR5 hown5 hg5 hb5 hB5 hblk5 hrow
    go_wp2
    first
      | exact bodyPost_ret (results_none rfl _ _ _) rfl (Goes.ok HM.out hB6 ⟨_, _, _, _, _, _, HR5.out⟩)
      | exact bodyPost_end (results_none rfl _ _ _) rfl (Goes.ok HM.out hB6 ⟨_, _, _, _, _, _, HR5.out⟩)

end Go.Proofs.Ytgglbafcocbhbaa
