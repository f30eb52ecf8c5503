/- Contract: (*reader).add. -/
import Derived.Test.YtgglbafcocbhbaaRd
import Derived.Test.YtgglbafcocbhbaaChng
namespace Go.Proofs.Ytgglbafcocbhbaa
open Go.RowKit

section
variable {w : World} {R D : Nat} {n : Int} {av bv ov : Value} {avs bvs : List Value} {st : RS}

theorem LL.kept_row {w w' : World} {base : Nat} {v : Value} {vs : List Value} {xss : List (List Int)} {u : Value} {k : Nat} {us : List Value} (h : LL w base v vs xss) (hu : w.ownsRow base 22 1 u k us) (hg : w.grownBy w' u.ownBlock) (hne : v.ownBlock = none ∨ v.ownBlock ≠ u.ownBlock) : LL w' base v vs xss :=
  ⟨h.row.kept hg hne, h.all.mono (fun _ _ _ h' => owns_kept_ty h' hu hg)⟩

/-- One more change of the block. -/
theorem RdAt.push {w5 : World} {v' pv : Value} {ps : List Int} (h : RdAt w R D n av bv (.slice none 0 0) avs bvs st) (ho : st.opn = []) (hp : w.ownsRow (R + 1) 3 1 pv ps.length (ps.map (Value.int .i64)))
    (hown : w5.ownsRow (R + 1) 22 1 v' (bvs.length + 1) (bvs ++ [pv])) (hg : w.grownBy w5 bv.ownBlock) (hk : v'.ownBlock = bv.ownBlock ∨ (v'.ownBlock = some w.heap.size ∧ w.grownBy w5 none)) :
    RdAt (w5.setCell ⟨R, 2, none⟩ v') R w5.heap.size n av v' (.slice none 0 0) avs (bvs ++ [pv]) { st with block := st.block ++ [ps] } ∧ w5.heap[R]? = w.heap[R]? ∧ Bel R w w5 := by
  have hRb : some R ≠ bv.ownBlock := fun e => by have := (h.block.row.lt R e.symm).1; omega
  have hblk := (hg.block R h.lt hRb).trans h.blk
  have hall : LL w5 (R + 1) av avs st.all := h.all.kept_row h.block.row hg h.sep
  have hbl : LL w5 (R + 1) v' (bvs ++ [pv]) (st.block ++ [ps]) := ⟨by rw [List.length_append]; exact hown, OwnAll.snoc (owns_kept_ty hp h.block.row hg) (h.block.all.mono (fun _ _ _ h' => owns_kept_ty h' h.block.row hg))⟩
  refine ⟨⟨by rw [heap_set7 hblk]; rfl, hall.setR, hbl.setR, by rw [ho]; exact World.ownsRow_nil _ _ _ _, ?_, ?_, ?_, by simp [World.setCell], fun _ => rfl⟩, hg.block R h.lt hRb, ?_⟩
  · intro u hu b hb
    rcases List.mem_append.1 hu with hu | hu
    · exact hall.lt u hu b hb
    · exact hbl.lt u hu b hb
  · rcases hk with hk | ⟨hk, _⟩
    · rw [hk]; exact h.sep
    · rw [hk]
      cases hav : av.ownBlock with
      | none => exact Or.inl rfl
      | some b =>
        refine Or.inr (fun e => ?_)
        have h1 := (h.all.row.lt b hav).2
        have h2 : b = w.heap.size := Option.some.inj e
        omega
  · have := h.lt; have := hg.size; omega
  · exact Bel.grown h.block.row (Nat.le_refl _) (Nat.le_of_lt h.lt) hg

end

set_option maxRecDepth 20000 in
set_option maxHeartbeats 4000000 in
theorem add_any (R D : Nat) (n : Int) (av bv : Value) (avs bvs : List Value) (st : RS) (pv : Value) (ps : List Int) (w : World) (h : RdAt w R D n av bv (.slice none 0 0) avs bvs st) (ho : st.opn = []) (hn1 : 1 ≤ n) (hn2 : n ≤ 12) (hbl : bvs.length ≤ 1000)
    (hp : w.ownsRow (R + 1) 3 1 pv ps.length (ps.map (Value.int .i64))) :
    Calls Try.prog 65 #[.pointer (some ⟨R, 0, none⟩), pv] w fun e w' => Goes w R n (st.add n ps) e w' := by
  obtain ⟨i0, hi, hz0, hz1, hz2⟩ := info_parts Try.info22
  obtain ⟨c0, c1, c2, c3, c4, c5, c6⟩ := cells7 h.blk
  have HC := hide (pcheck_any n pv ps w hn1 hn2 (Ints.own hp))
  have HH := hide h
  have HP := hide hp
  have hRl := h.lt
  obtain ⟨bp, bc, hbe⟩ := owns_slice h.block.row
  obtain ⟨pp, pc, hpe⟩ := owns_slice hp
  rw [hbe] at c2
  have HPE := hide hpe
  have HBE := hide hbe
  have HO := hide ho
  clear h hp hbe ho c1 c3 c4 c5
  rw [hpe] at HC
  rw [hpe]
  clear hpe
  by_cases hok : okc n 0 ps = true
  · have HM : Hid (st.add n ps = (if 200 < (st.block ++ [ps]).length then 3 else 0, { st with block := st.block ++ [ps], dot := false })) := by show _ = _; unfold RS.add; rw [if_pos hok]
    have hz : pck n ps = 0 := by unfold pck; rw [if_pos hok]
    rw [hz] at HC
    clear hz hok
    generalize hpl : ps.length = pl at *
    have HPL := hide hpl
    clear hpl
    have hA := HH.out.later ((Below.refl _ _).alloc (Nat.le_refl _) (.cells #[.slice pp pl pc] 22))
    have hrowA := hA.block.row
    have HA := hide hA
    rw [HBE.out] at hrowA
    clear hA
    go_enter Try.func65, Try.ntmps65
    go_wp2_with fail
    refine HC.out.mono ?_
    rintro e w' ⟨rfl, rfl⟩
    go_wp2_with (at_builtin; refine wpList_append_keep _ rfl _ _ 25 rfl (R + 1) 22 i0 (.slice none 0 0) 1 24 Try.underlying25 hi hz0 hz1 hz2 rfl (by decide) _ _ _ rfl hrowA ⟨w.heap.size, 0, none⟩ 1 1 [.slice pp pl pc] rfl rfl ?c1 ?c2 ?c3 ?c4 ?c5 ?_)
    case c1 => exact cell_one_new _ _ _
    case c2 => intro u hu; simp at hu; subst hu; rfl
    case c3 => unfold maxLen; omega
    case c4 => omega
    case c5 => simp; omega
    · intro v' w5 hown5 hg5 hk5
      have hpA : (w.alloc (.cells #[.slice pp pl pc] 22)).ownsRow (R + 1) 3 1 (.slice pp pl pc) ps.length (ps.map (Value.int .i64)) := by
        have := HP.out.alloc (.cells #[.slice pp pl pc] 22)
        rw [HPE.out] at this
        rw [HPL.out]
        exact this
      have hsz : (w.alloc (.cells #[.slice pp pl pc] 22)).heap.size = w.heap.size + 1 := by simp
      obtain ⟨hR5, hb5, hB5⟩ := HA.out.push HO.out hpA hown5 (by rw [HBE.out]; exact hg5) (by rw [HBE.out, hsz]; exact hk5)
      have hblk5 := hb5.trans HA.out.blk
      obtain ⟨d0, d1, d2, d3, d4, d5, d6⟩ := cells7 hblk5
      have f2 := frozen7 hblk5 2
      have f6 := frozen7 hR5.blk 6
      have e6 := (cells7 hR5.blk).2.2.2.2.2.2
      have hR6 := hR5.flags st.marked st.mirrored false 6 (.bool false) rfl
      have g2 := (cells7 hR6.blk).2.2.1
      have HR6 := hide hR6
      have hBt : Bel R w w5 := ((Bel.refl R w).alloc (Nat.le_of_lt hRl) _).trans hB5
      have hB6 : Bel R w ((w5.setCell ⟨R, 2, none⟩ v').setCell ⟨R, 6, none⟩ (.bool false)) := (hBt.setCell (p := ⟨R, 2, none⟩) (Nat.le_refl _) _).setCell (p := ⟨R, 6, none⟩) (Nat.le_refl _) _
      have HNR := hide (needRoom_any v' (bvs ++ [.slice pp pl pc]) _ (R + 1) hR6.block.row (by rw [List.length_append]; simp; omega))
      have hlenb : (bvs ++ [Value.slice pp pl pc]).length = (st.block ++ [ps]).length := hR6.block.len
      rw [hlenb] at HNR
      obtain ⟨vp, vc, rfl⟩ := owns_slice hown5
      clear hR5 hR6 hown5 hg5 hk5 hb5 hB5 hblk5 d0 d1 d3 d4 d5 d6 hpA hlenb hrowA
      go_wp2_with fail
      refine HNR.out.mono ?_
      rintro e w' ⟨rfl, rfl⟩
      by_cases h2 : 200 < (st.block ++ [ps]).length
      · rw [if_pos h2]
        have HM2 : Hid ((st.add n ps).1 = 3) := by show _ = _; rw [HM.out]; exact if_pos h2
        unfold thrown
        go_wp2
        exact ⟨rfl, Goes.bad HM2.out (by decide) hB6⟩
      · rw [if_neg h2]
        have HM2 : Hid (st.add n ps = (0, { st with block := st.block ++ [ps], dot := false })) := by show _ = _; rw [HM.out, if_neg h2]
        go_wp2
        exact bodyPost_end (results_none rfl _ _ _) rfl (Goes.ok HM2.out hB6 ⟨_, _, _, _, _, _, HR6.out⟩)
  · have HM : Hid ((st.add n ps).1 = 6) := by show _ = _; unfold RS.add; rw [if_neg hok]
    have hz : pck n ps = 6 := by unfold pck; rw [if_neg hok]
    rw [hz] at HC
    clear hz hok
    go_enter Try.func65, Try.ntmps65
    go_wp2_with fail
    refine HC.out.mono ?_
    rintro e w' ⟨rfl, rfl⟩
    go_wp2
    exact ⟨rfl, Goes.bad HM.out (by decide) (Bel.refl _ _)⟩

end Go.Proofs.Ytgglbafcocbhbaa
