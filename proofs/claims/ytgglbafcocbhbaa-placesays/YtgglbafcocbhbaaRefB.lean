/- Contracts of the answer's functions: BellOf, SignOf, Text, ReadRow. -/
import Derived.Test.YtgglbafcocbhbaaRefA
namespace Go.Proofs.Ytgglbafcocbhbaa
open Go.RowKit
set_option maxRecDepth 20000

theorem bl_none {b : UInt8} (h : ¬ bl b < 12) {m : Nat} (hm : m < 12) : sg m ≠ b.toNat := fun e => h (by rw [bl_of hm e]; exact hm)

set_option maxRecDepth 20000 in
set_option maxHeartbeats 1000000 in
theorem bellOf_yes (c : UInt8) (h : bl c < 12) (w : World) :
    Calls Try.prog 48 #[.int .u8 (c.toNat : Int)] w fun e w' => e = .returned (.int .i64 ((bl c : Nat) : Int)) ∧ w = w' := by
  have hs := bl_sg h
  generalize hm : bl c = m at *
  rw [← hs]
  have HS : Hid (∀ k, k < m → sg k ≠ sg m) := fun k hk e => by have := sg_inj (by omega) h e; omega
  clear hs hm
  go_enter Try.func48, Try.ntmps48
  go_wp2
  go_loop [4] (fun i => ∃ k : Nat, k ≤ m ∧ i = .int .i64 k) (fun i => 12 - (intOf i).toNat)
  case atStart => exact ⟨0, by omega, rfl⟩
  case round =>
    obtain ⟨k, hk, rfl⟩ := hrel
    have hix := index_sign k (by omega)
    by_cases e : k = m
    · subst e
      have ht : (((sg k : Nat) : Int) == ((sg k : Nat) : Int)) = true := by simp
      go_wp2
      go_ret
      exact ⟨rfl, rfl⟩
    · have hne := HS.out k (by omega)
      have ht : (((sg k : Nat) : Int) == ((sg m : Nat) : Int)) = false := by rw [beq_eq_false_iff_ne]; omega
      have hlt : k < m := by omega
      clear e hne
      go_wp2
      go_round
      case rel => exact ⟨k + 1, by omega, by go_num⟩
      case measure => simp [intOf]; omega

set_option maxRecDepth 20000 in
set_option maxHeartbeats 1000000 in
theorem bellOf_no (c : UInt8) (h : ¬ bl c < 12) (w : World) :
    Calls Try.prog 48 #[.int .u8 (c.toNat : Int)] w fun e w' => e = .returned (.int .i64 (-1)) ∧ w = w' := by
  have HN := hide (fun m (hm : m < 12) => bl_none h hm)
  clear h
  generalize c.toNat = d at *
  go_enter Try.func48, Try.ntmps48
  go_wp2
  go_loop [4] (fun i => ∃ k : Nat, k ≤ 12 ∧ i = .int .i64 k) (fun i => 12 - (intOf i).toNat)
  case atStart => exact ⟨0, by omega, rfl⟩
  case round =>
    obtain ⟨k, hk, rfl⟩ := hrel
    by_cases hlt : k < 12
    · have hix := index_sign k hlt
      have ht : (((sg k : Nat) : Int) == (d : Int)) = false := by rw [beq_eq_false_iff_ne]; have := HN.out k hlt; omega
      go_wp2
      go_round
      case rel => exact ⟨k + 1, by omega, by go_num⟩
      case measure => simp [intOf]; omega
    · go_wp2
      go_ret
      exact ⟨rfl, rfl⟩

theorem slice_sign (m : Nat) (hm : m < 12) (w : World) : (Instr.slice 9 (.string { data := #[49, 50, 51, 52, 53, 54, 55, 56, 57, 48, 69, 84] }) (some (.int .i64 (m : Int))) (some (.int .i64 ((m : Int) + 1))) none).run Try.prog w = .ok (.string (strOfNums [((sg m : Nat) : Int)])) w := by
  match m, hm with
  | 0, _ | 1, _ | 2, _ | 3, _ | 4, _ | 5, _ | 6, _ | 7, _ | 8, _ | 9, _ | 10, _ | 11, _ => rfl

set_option maxRecDepth 20000 in
set_option maxHeartbeats 1000000 in
theorem signOf_ok (m : Nat) (hm : m < 12) (w : World) :
    Calls Try.prog 44 #[.int .i64 (m : Int)] w fun e w' => e = .returned (.string (strOfNums [((sg m : Nat) : Int)])) ∧ w = w' := by
  have hsl := slice_sign m hm
  go_enter Try.func44, Try.ntmps44
  go_wp2
  go_ret
  exact ⟨rfl, rfl⟩

theorem str_append (xs ys : List Int) : strOfNums xs ++ strOfNums ys = strOfNums (xs ++ ys) := by
  apply ByteArray.ext
  rw [ByteArray.data_append]
  simp [strOfNums]

set_option maxRecDepth 20000 in
set_option maxHeartbeats 1000000 in
theorem rtext_ok (v1 : Value) (a : List Int) (w : World) (i1 : Ints w v1 a) (r1 : isRow a) (n1 : 1 ≤ a.length) (n2 : a.length ≤ 12) :
    Calls Try.prog 20 #[v1] w fun e w' => e = .returned (.string (strOfNums (txt a))) ∧ w = w' := by
  have R1 := hide r1
  rcases i1 with ⟨rfl, p, c, rfl⟩ | ⟨b1, o1, cap1, rfl, h01, hcp1, hm1, hb1, hcell1⟩
  · simp at n1
  have HC := hide hcell1
  clear r1 hcell1
  go_enter Try.func20, Try.ntmps20
  go_wp2
  go_loop [3, 4] (fun s i => ∃ k : Nat, k ≤ a.length ∧ i = .int .i64 k ∧ s = .string (strOfNums (txt (a.take k)))) (fun _ i => a.length - (intOf i).toNat)
  case atStart => exact ⟨0, by omega, rfl, rfl⟩
  case round =>
    obtain ⟨k, hk, rfl, rfl⟩ := hrel
    by_cases hlt : k < a.length
    · obtain ⟨p, hp, hcp⟩ := cellAt HC.out hlt
      have hpr := R1.out.at hlt
      rw [show a.getD k 0 = p from hp.out] at hpr
      obtain ⟨m, rfl⟩ := Int.eq_ofNat_of_zero_le hpr.1
      have hm12 : m < 12 := by have := hpr.2; omega
      have HT : Hid (txt (a.take (k + 1)) = txt (a.take k) ++ [((sg m : Nat) : Int)]) := by show _ = _; rw [take_snoc a k hlt, hp.out, txt_snoc]
      have HSG := hide (signOf_ok m hm12 w)
      clear hpr
      go_wp2_with fail
      refine HSG.out.mono ?_
      rintro e w' ⟨rfl, rfl⟩
      have hs1 : (strOfNums (txt (a.take k))).size ≤ 12 := by rw [strOfNums_size, txt_length, List.length_take]; omega
      have hs2 : (strOfNums [((sg m : Nat) : Int)]).size = 1 := by rw [strOfNums_size]; rfl
      have hadd := run_string_add_sum (P := Try.prog) w (strOfNums (txt (a.take k))) (strOfNums [((sg m : Nat) : Int)]) (by omega)
      have HA := hide (str_append (txt (a.take k)) [((sg m : Nat) : Int)])
      go_wp2
      go_round
      case rel => exact ⟨k + 1, by omega, by go_num, by rw [HT.out, ← HA.out]⟩
      case measure => simp [intOf]; omega
    · obtain rfl : k = a.length := by omega
      rw [List.take_length]
      go_wp2
      go_ret
      exact ⟨rfl, rfl⟩

/-- A byte of a text, as the index gives it. -/
theorem index_byte (s : ByteArray) (k : Nat) (hk : k < s.size) (w : World) : (Instr.index 9 (.string s) (.int .i64 (k : Int))).run Try.prog w = .ok (.int .u8 (((s[k]'hk).toNat : Nat) : Int)) w := by
  rw [run_index_string w 9 _ .i64 (k : Int) Try.underlying9, dif_pos ⟨by omega, by omega⟩]
  rfl

set_option maxRecDepth 20000 in
set_option maxHeartbeats 2000000 in
theorem readRow_any (s : ByteArray) (w : World) (hs : s.size ≤ 1048576) :
    Calls Try.prog 29 #[.string s] w fun e w' => ReadSays s e w' ∧ Below w.heap.size w w' := by
  obtain ⟨i0, hi, hz0, hz1, hz2⟩ := info_parts Try.info3
  go_enter Try.func29, Try.ntmps29
  go_wp2
  go_loopw [4, 5] (fun v i wr => ∃ k : Nat, k ≤ s.size ∧ i = .int .i64 k ∧ Hid (∀ j, (h : j < s.size) → j < k → bl s[j] < 12) ∧ wr.ownsRow w.heap.size 3 1 v k ((bells (s.data.toList.take k)).map (Value.int .i64)) ∧ Below w.heap.size w wr) (fun _ i _ => s.size - (intOf i).toNat)
  case atStart => exact ⟨0, by omega, rfl, fun j _ h => by omega, World.ownsRow_nil _ _ _ _, Below.refl _ _⟩
  case round =>
    obtain ⟨k, hk, rfl, hg, hown, hbw⟩ := hrel
    have hbs := hbw.size
    by_cases hlt : k < s.size
    · have hix := index_byte s k hlt
      have HS := hide (bells_snoc s k hlt)
      by_cases hsg : bl (s[k]'hlt) < 12
      · have HB := hide (bellOf_yes (s[k]'hlt) hsg wr)
        have HG : Hid (∀ j, (h : j < s.size) → j < k + 1 → bl s[j] < 12) := by
          intro j hj hjk
          by_cases e : j = k
          · subst e; exact hsg
          · exact hg.out j hj (by omega)
        generalize bl (s[k]'hlt) = m at *
        generalize (s[k]'hlt).toNat = c at *
        clear hg
        go_wp2_with fail
        refine HB.out.mono ?_
        rintro e w1 ⟨rfl, rfl⟩
        go_wp2_with (at_builtin; refine wpList_append_own _ rfl _ _ 22 rfl w.heap.size 3 i0 (.int .i64 0) 1 8 Try.underlying22 hi hz0 hz1 hz2 rfl (by decide) _ _ _ rfl (hown.alloc _) ⟨wr.heap.size, 0, none⟩ 1 1 [.int .i64 (m : Int)] rfl rfl ?c1 ?c2 ?c3 ?c4 ?c5 ?_)
        case c1 => exact cell_one_new _ _ _
        case c2 => intro u hu; simp at hu; subst hu; rfl
        case c3 => unfold maxLen; omega
        case c4 => omega
        case c5 => simp; omega
        · intro v' w1 hown' hgrow _
          go_wp2
          go_roundw
          case rel => exact ⟨k + 1, by omega, by go_num, HG, by rw [HS.out, List.map_append]; exact hown', (hbw.alloc hbw.size _).grown hgrow (by simp; omega) (fun g hg => (hown.lt g hg).1)⟩
          case measure => simp [intOf]; omega
      · have HB := hide (bellOf_no (s[k]'hlt) hsg wr)
        have HSG := hide hsg
        clear hsg
        generalize (s[k]'hlt).toNat = c at *
        go_wp2_with fail
        refine HB.out.mono ?_
        rintro e w1 ⟨rfl, rfl⟩
        go_wp2
        go_ret2
        exact ⟨Or.inl ⟨⟨k, hlt, HSG.out⟩, rfl⟩, hbw⟩
    · obtain rfl : k = s.size := by omega
      have hall : s.data.toList.take s.size = s.data.toList := List.take_of_length_le (show s.data.toList.length ≤ s.size from Nat.le_of_eq (Array.length_toList))
      rw [hall] at hown
      have HSG := hide (fun q (h : q < s.size) => hg.out q h h)
      have hin := Ints.own hown
      have HC := hide (rowMay_any _ _ wr hin)
      have HIN := hide hin
      clear hall hown hin hg
      by_cases h0 : chk (bells s.data.toList) = 0
      · rw [h0] at HC
        have H0 := hide h0
        clear h0
        go_wp2_with fail
        refine HC.out.mono ?_
        rintro e w1 ⟨rfl, rfl⟩
        go_wp2
        go_ret2
        exact ⟨Or.inr ⟨HSG.out, Or.inl ⟨H0.out, _, rfl, HIN.out⟩⟩, hbw⟩
      · have hr0 := chk_range (bells s.data.toList)
        have H0 := hide h0
        have hne : (chk (bells s.data.toList) != 0) = true := by simpa using h0
        generalize hcc : chk (bells s.data.toList) = cc at *
        have HCC := hide hcc
        clear h0 hcc
        go_wp2_with fail
        refine HC.out.mono ?_
        rintro e w1 ⟨rfl, rfl⟩
        go_wp2
        go_ret2
        exact ⟨Or.inr ⟨HSG.out, Or.inr ⟨by rw [HCC.out]; exact H0.out, ret_read HCC.out.symm⟩⟩, hbw⟩

end Go.Proofs.Ytgglbafcocbhbaa
