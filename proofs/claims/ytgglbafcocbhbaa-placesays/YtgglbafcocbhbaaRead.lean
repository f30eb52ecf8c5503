/- Contract: Read, at every text. -/
import Derived.Test.YtgglbafcocbhbaaBell
import Derived.Lib.OthersKept
namespace Go.Proofs.Ytgglbafcocbhbaa
open Go.RowKit Go.Lib

/-- The bell of a sign; 12: none. -/
def bl (b : UInt8) : Nat := ((List.range 12).find? (fun m => sg m == b.toNat)).getD 12

theorem bl_sg {b : UInt8} (h : bl b < 12) : sg (bl b) = b.toNat := by
  unfold bl at h ⊢
  cases hf : (List.range 12).find? (fun m => sg m == b.toNat) with
  | none => rw [hf] at h; simp at h
  | some p => rw [Option.getD_some]; simpa using List.find?_some hf

theorem bl_of {b : UInt8} {m : Nat} (hm : m < 12) (h : sg m = b.toNat) : bl b = m := by
  have h1 : bl b < 12 := by
    unfold bl
    cases hf : (List.range 12).find? (fun m => sg m == b.toNat) with
    | none =>
      have := List.find?_eq_none.1 hf m (List.mem_range.2 hm)
      simp [h] at this
    | some p =>
      rw [Option.getD_some]
      exact List.mem_range.1 (List.mem_of_find?_eq_some hf)
  have h2 := bl_sg h1
  exact sg_inj h1 hm (by rw [h2, h])

/-- The bells of a text's bytes. -/
def bells (l : List UInt8) : List Int := l.map (fun b => ((bl b : Nat) : Int))

theorem bells_length (l : List UInt8) : (bells l).length = l.length := by simp [bells]

theorem bells_snoc (s : ByteArray) (k : Nat) (h : k < s.size) : bells (s.data.toList.take (k + 1)) = bells (s.data.toList.take k) ++ [((bl (s[k]'h) : Nat) : Int)] := by
  rw [List.take_succ_eq_append_getElem (by simpa using h)]
  simp [bells]
  rfl

theorem chk_take (xs : List Int) : chk (xs.take 13) = chk xs := by
  by_cases h : xs.length ≤ 13
  · rw [List.take_of_length_le h]
  · rw [chk_count (by rw [List.length_take]; omega), chk_count (by omega)]

/-- What the loop's relation says of the world. -/
structure ReadRel (w wr : World) (s : ByteArray) (v : Value) (pos : Nat) : Prop where
  iter : wr.heap[w.heap.size]? = some (.stringIter s pos)
  signs : ∀ j, (h : j < s.size) → j < pos → bl s[j] < 12
  row : wr.ownsRow (w.heap.size + 1) 3 1 v (min pos 13) (((bells (s.data.toList.take pos)).take 13).map (Value.int .i64))
  size : w.heap.size < wr.heap.size
  below : Below w.heap.size w wr

theorem ReadRel.next {w wr w1 : World} {s : ByteArray} {v : Value} {pos : Nat} (h : ReadRel w wr s v pos) (hp : pos < s.size) (hs : bl (s[pos]'hp) < 12) (hb : Below wr.heap.size (wr.iterAt w.heap.size s (pos + 1)) w1) :
    w1.heap[w.heap.size]? = some (.stringIter s (pos + 1)) ∧ w1.ownsRow (w.heap.size + 1) 3 1 v (min pos 13) (((bells (s.data.toList.take pos)).take 13).map (Value.int .i64)) ∧ w.heap.size < w1.heap.size ∧ Below w.heap.size w w1 ∧
      ∀ j, (h : j < s.size) → j < pos + 1 → bl s[j] < 12 := by
  have hz : (wr.iterAt w.heap.size s (pos + 1)).heap.size = wr.heap.size := iterAt_size _ _ _ _
  refine ⟨?_, ?_, ?_, ?_, ?_⟩
  · rw [hb.block _ h.size]; exact iterAt_heap wr _ s pos (pos + 1) h.iter
  · exact owns_below (ownsRow_iterAt h.row (Nat.lt_succ_self _) s (pos + 1)) hb (by rw [hz]; exact Nat.le_refl _)
  · have h1 := h.size; have h2 := hb.size; omega
  · exact (below_iterAt h.below (Nat.le_refl _) s (pos + 1)).trans (hb.mono (Nat.le_of_lt h.size))
  · intro j hj hjp
    by_cases e : j = pos
    · subst e; exact hs
    · exact h.signs j hj (by omega)

theorem not_sign {s : ByteArray} {pos : Nat} (hp : pos < s.size) (hs : ¬ bl (s[pos]'hp) < 12) : ∀ m, m < 12 → (((Utf8.decode s pos).1 : Nat) : Int) ≠ ((sg m : Nat) : Int) := by
  intro m hm e
  by_cases ha : (s[pos]'hp).toNat < 128
  · rw [decode_ascii s pos hp ha] at e
    exact hs (by rw [bl_of hm (by simp only at e; omega)]; exact hm)
  · have h1 := (decode_high s pos hp (by omega)).1
    have h2 := sg_lt m
    omega

theorem ret_read {v : Value} {a b : Int} (h : a = b) : Ending.returned (.tuple #[v, .int .i64 a]) = Ending.returned (.tuple #[v, .int .i64 b]) := by rw [h]

/-- What Read answers. -/
def ReadSays (s : ByteArray) (e : Ending) (w' : World) : Prop :=
  ((∃ q, ∃ h : q < s.size, ¬ bl s[q] < 12) ∧ e = .returned (.tuple #[.slice none 0 0, .int .i64 4])) ∨
  ((∀ q, (h : q < s.size) → bl s[q] < 12) ∧ ((chk (bells s.data.toList) = 0 ∧ ∃ v, e = .returned (.tuple #[v, .int .i64 0]) ∧ Ints w' v (bells s.data.toList)) ∨
    (chk (bells s.data.toList) ≠ 0 ∧ e = .returned (.tuple #[.slice none 0 0, .int .i64 (chk (bells s.data.toList))]))))

theorem take_room {l : List Int} {pos : Nat} {m : Int} (h : l.length = pos) (h13 : pos ≤ 12) : (l ++ [m]).take 13 = l.take 13 ++ [m] := by
  rw [List.take_of_length_le (by simp; omega), List.take_of_length_le (by omega)]

theorem take_full {l : List Int} {pos : Nat} {m : Int} (h : l.length = pos) (h13 : ¬ pos ≤ 12) : (l ++ [m]).take 13 = l.take 13 := by
  rw [List.take_append_of_le_length (by omega)]

theorem bells_take_length {s : ByteArray} {pos : Nat} (h : pos ≤ s.size) : (bells (s.data.toList.take pos)).length = pos := by
  have h' : s.size = s.data.size := rfl
  rw [bells_length, List.length_take, Array.length_toList]; omega

set_option maxRecDepth 20000 in
set_option maxHeartbeats 4000000 in
theorem read_any (s : ByteArray) (w : World) (hs : s.size ≤ 9223372036854775807) :
    Calls Try.prog 28 #[.string s] w fun e w' => ReadSays s e w' ∧ Below w.heap.size w w' := by
  obtain ⟨i0, hi, hz0, hz1, hz2⟩ := info_parts Try.info3
  go_enter Try.func28, Try.ntmps28
  go_wp2
  go_loopw [4] (fun v wr => ∃ pos, pos ≤ s.size ∧ ReadRel w wr s v pos) (fun _ wr => s.size - wr.iterPos w.heap.size)
  case atStart => exact ⟨0, by omega, ⟨World.iter_heap w s 0, fun j hj h => by omega, World.ownsRow_nil _ _ _ _, by simp [World.iter], below_iter w s 0⟩⟩
  case round =>
    obtain ⟨pos, hpos, hr⟩ := hrel
    by_cases hp : pos < s.size
    · by_cases hsg : bl (s[pos]'hp) < 12
      · have hnx : ∀ ty, (Instr.next (.pointer (some ⟨w.heap.size, 0, none⟩)) true ty).run Try.prog wr = .ok (.tuple #[.bool true, .int .i64 (pos : Int), .int .i32 ((sg (bl (s[pos]'hp)) : Nat) : Int)]) (wr.iterAt w.heap.size s (pos + 1)) := by
          intro ty
          have h1 := bl_sg hsg
          have h2 := sg_lt (bl (s[pos]'hp))
          rw [run_next_any_at wr w.heap.size s pos ty hr.iter hp, decode_ascii s pos hp (by omega), h1]
        have HB := hide (bell_yes (bl (s[pos]'hp)) hsg (wr.iterAt w.heap.size s (pos + 1)))
        have HI := hide (iterPos_of hr.iter)
        have HN := hide (fun w1 => hr.next (w1 := w1) hp hsg)
        have HS := hide (bells_snoc s pos hp)
        have HL := hide (bells_take_length (s := s) hpos)
        obtain ⟨p, c, hv⟩ := owns_slice hr.row
        have hw0 := hr.size
        rw [hv]
        generalize bl (s[pos]'hp) = m at *
        by_cases h13 : pos ≤ 12
        · have hmin : min pos 13 = pos := by omega
          have hmin' : Hid (min (pos + 1) 13 = pos + 1) := by show _ = _; omega
          have HV := hide hv
          rw [hmin] at HV HN ⊢
          clear hr hv hmin
          go_wp2_with fail
          refine HB.out.mono ?_
          rintro e w1 ⟨rfl, hb1⟩
          rw [iterAt_size] at hb1
          obtain ⟨k1, k2, k3, k4, k5⟩ := HN.out w1 hb1
          rw [HV.out] at k2
          have K1 := hide k1
          have K5 := hide k5
          clear k1 k5 hnx HB HN hb1
          go_wp2_with (at_builtin; refine wpList_append_own _ rfl _ _ 22 rfl (w.heap.size + 1) 3 i0 (.int .i64 0) 1 8 Try.underlying22 hi hz0 hz1 hz2 rfl (by decide) _ _ _ rfl (k2.alloc _) ⟨w1.heap.size, 0, none⟩ 1 1 [.int .i64 (m : Int)] rfl rfl ?c1 ?c2 ?c3 ?c4 ?c5 ?_)
          case c1 => exact cell_one_new _ _ _
          case c2 => intro u hu; simp at hu; subst hu; rfl
          case c3 => unfold maxLen; omega
          case c4 => omega
          case c5 => simp; omega
          · intro v' w2 hown hgrow _
            have hrow := k2.lt
            have hb2 : Below w.heap.size w w2 := (k4.alloc k4.size _).grown hgrow (by have := k4.size; simp; omega) (fun g hg => by have := (hrow g hg).1; omega)
            have hit : w2.heap[w.heap.size]? = some (.stringIter s (pos + 1)) := by
              rw [hgrow.block _ (by simp; omega) (by intro e; have := (hrow _ e.symm).1; omega), Below.heap_alloc _ _ _ k3]
              exact K1.out
            have hsz : w.heap.size < w2.heap.size := by have := hgrow.size; simp at this; omega
            have HIT := hide hit
            clear hit
            go_wp2
            go_roundw
            case rel => exact ⟨pos + 1, by omega, ⟨HIT.out, K5.out, by rw [hmin'.out, HS.out, take_room HL.out h13, List.map_append, List.map_take]; exact hown, hsz, hb2⟩⟩
            case measure => rw [HI.out, iterPos_of HIT.out]; omega
        · have hmin : min pos 13 = 13 := by omega
          have hmin' : Hid (min (pos + 1) 13 = 13) := by show _ = _; omega
          have HV := hide hv
          rw [hmin] at HV HN ⊢
          clear hr hv hmin
          go_wp2_with fail
          refine HB.out.mono ?_
          rintro e w1 ⟨rfl, hb1⟩
          rw [iterAt_size] at hb1
          obtain ⟨k1, k2, k3, k4, k5⟩ := HN.out w1 hb1
          rw [HV.out] at k2
          have K1 := hide k1
          have K5 := hide k5
          clear k1 k5 hnx HB HN hb1
          go_wp2
          go_roundw
          case rel => exact ⟨pos + 1, by omega, ⟨K1.out, K5.out, by rw [hmin'.out, HS.out, take_full HL.out h13]; exact k2, k3, k4⟩⟩
          case measure => rw [HI.out, iterPos_of K1.out]; omega
      · have hnx : ∀ ty, (Instr.next (.pointer (some ⟨w.heap.size, 0, none⟩)) true ty).run Try.prog wr = .ok (.tuple #[.bool true, .int .i64 (pos : Int), .int .i32 (((Utf8.decode s pos).1 : Nat) : Int)]) (wr.iterAt w.heap.size s (pos + (Utf8.decode s pos).2)) := by
          intro ty
          exact run_next_any_at wr w.heap.size s pos ty hr.iter hp
        have HB := hide (bell_no _ (not_sign hp hsg) (wr.iterAt w.heap.size s (pos + (Utf8.decode s pos).2)))
        have hw := hide (below_iterAt hr.below (Nat.le_refl _) s (pos + (Utf8.decode s pos).2))
        have HSG := hide hsg
        generalize (Utf8.decode s pos).1 = c at *
        generalize (Utf8.decode s pos).2 = n at *
        clear hr hsg
        go_wp2_with fail
        refine HB.out.mono ?_
        rintro e w1 ⟨rfl, hb1⟩
        go_wp2
        go_ret2
        exact ⟨Or.inl ⟨⟨pos, hp, HSG.out⟩, rfl⟩, hw.out.trans (hb1.mono hw.out.size)⟩
    · obtain rfl : pos = s.size := by omega
      have hall : bells (s.data.toList.take s.size) = bells s.data.toList := by rw [List.take_of_length_le (show s.data.toList.length ≤ s.size from Nat.le_of_eq (Array.length_toList))]
      have hrow := hr.row
      rw [hall] at hrow
      have HSG := hide (fun q (h : q < s.size) => hr.signs q h h)
      have hbw := hr.below
      have hnx := fun ty => run_next_end_at (P := Try.prog) wr w.heap.size s s.size ty hr.iter (Nat.lt_irrefl _)
      have hin := Ints.own hrow
      have HC := hide (check_any _ _ wr hin)
      rw [chk_take] at HC
      have HIN := hide hin
      clear hr hall hrow hin
      by_cases h0 : chk (bells s.data.toList) = 0
      · rw [h0] at HC
        have H0 := hide h0
        have HLEN : Hid ((bells s.data.toList).take 13 = bells s.data.toList) := List.take_of_length_le (by have := (chk_zero h0).2.1; omega)
        clear h0
        go_wp2_with fail
        refine HC.out.mono ?_
        rintro e w1 ⟨rfl, hb1⟩
        go_wp2
        go_ret2
        refine ⟨Or.inr ⟨HSG.out, Or.inl ⟨H0.out, _, rfl, ?_⟩⟩, hbw.trans (hb1.mono hbw.size)⟩
        have h1 := HIN.out.below hb1
        rw [HLEN.out] at h1
        exact h1
      · have hr0 := chk_range (bells s.data.toList)
        have H0 := hide h0
        have hne : (chk (bells s.data.toList) != 0) = true := by simpa using h0
        generalize hcc : chk (bells s.data.toList) = cc at *
        have HCC := hide hcc
        clear h0 hcc
        go_wp2_with fail
        refine HC.out.mono ?_
        rintro e w1 ⟨rfl, hb1⟩
        go_wp2
        go_ret2
        exact ⟨Or.inr ⟨HSG.out, Or.inr ⟨by rw [HCC.out]; exact H0.out, ret_read HCC.out.symm⟩⟩, hbw.trans (hb1.mono hbw.size)⟩

end Go.Proofs.Ytgglbafcocbhbaa
