/- Contract: the answer's runeAt. -/
import Derived.Test.YtgglbafcocbhbaaRns
namespace Go.Proofs.Ytgglbafcocbhbaa
open Go.RowKit
open Go.Lib (decodeN decode_at)

/-- What runeAt answers. -/
def raV (d : Nat × Nat) : Value := .tuple #[.int .i64 (ar d), .int .i64 ((d.2 : Nat) : Int)]

theorem raV_bad {d : Nat × Nat} (h : d = (65533, 1)) : raV d = .tuple #[.int .i64 (-1), .int .i64 1] := by subst h; rfl
theorem raV_ok {d : Nat × Nat} {c k : Nat} (h : d = (c, k)) (hk : c ≠ 65533 ∨ k ≠ 1) : raV d = .tuple #[.int .i64 (c : Int), .int .i64 (k : Int)] := by unfold raV; rw [ar_ok h hk, h]

theorem byte_get (s : ByteArray) (k : Nat) (hk : k < s.size) : (s[k]'hk) = s.get! k := by
  cases s with
  | mk d => exact (getElem!_pos d k hk).symm

theorem index_get (s : ByteArray) (k : Nat) (hk : k < s.size) (w : World) : (Instr.index 9 (.string s) (.int .i64 (k : Int))).run Try.prog w = .ok (.int .u8 (((s.get! k).toNat : Nat) : Int)) w := by
  rw [← byte_get s k hk]; exact index_byte s k hk w

set_option maxRecDepth 20000 in
set_option maxHeartbeats 4000000 in
theorem runeAt_one (s : ByteArray) (w : World) (h0 : 0 < s.size) (hc : (s.get! 0).toNat < 128) :
    Calls Try.prog 69 #[.string s] w fun e w' => e = .returned (raV (Utf8.decode s 0)) ∧ w = w' := by
  obtain ⟨g, hg⟩ : ∃ g : Nat → Nat, ∀ k, (s.get! k).toNat = g k := ⟨_, fun _ => rfl⟩
  have hix0 : ∀ w, (Instr.index 9 (.string s) (.int .i64 0)).run Try.prog w = .ok (.int .u8 ((g 0 : Nat) : Int)) w := fun w => by rw [← hg 0]; exact index_get s 0 h0 w
  have HIX : Hid (∀ k, k < s.size → ∀ w, (Instr.index 9 (.string s) (.int .i64 (k : Int))).run Try.prog w = .ok (.int .u8 ((g k : Nat) : Int)) w) := fun k hk w => by rw [← hg k]; exact index_get s k hk w
  have hb0 : g 0 < 256 := by rw [← hg 0]; exact UInt8.toNat_lt _
  have hb1 : g 1 < 256 := by rw [← hg 1]; exact UInt8.toNat_lt _
  have hb2 : g 2 < 256 := by rw [← hg 2]; exact UInt8.toNat_lt _
  have hb3 : g 3 < 256 := by rw [← hg 3]; exact UInt8.toNat_lt _
  have HD : Hid (Utf8.decode s 0 = decodeN s.size (g 0) (g 1) (g 2) (g 3)) := by show _ = _; rw [← hg 0, ← hg 1, ← hg 2, ← hg 3]; exact decode_at s 0
  generalize Utf8.decode s 0 = d at *
  rw [hg 0] at hc
  clear hg
  have HR : Hid (raV d = .tuple #[.int .i64 (g 0 : Int), .int .i64 1]) := by
    refine raV_ok (k := 1) ?_ (by omega)
    rw [HD.out]
    unfold decodeN
    rw [if_pos hc]
  clear HD hb1 hb2 hb3
  go_enter Try.func69, Try.ntmps69
  go_wp2
  go_ret2
  exact ⟨by rw [HR.out]; rfl, rfl⟩

set_option maxRecDepth 20000 in
set_option maxHeartbeats 4000000 in
theorem runeAt_none (s : ByteArray) (w : World) (h0 : 0 < s.size) (hc : (128 ≤ (s.get! 0).toNat ∧ (s.get! 0).toNat < 194) ∨ 245 ≤ (s.get! 0).toNat) :
    Calls Try.prog 69 #[.string s] w fun e w' => e = .returned (raV (Utf8.decode s 0)) ∧ w = w' := by
  obtain ⟨g, hg⟩ : ∃ g : Nat → Nat, ∀ k, (s.get! k).toNat = g k := ⟨_, fun _ => rfl⟩
  have hix0 : ∀ w, (Instr.index 9 (.string s) (.int .i64 0)).run Try.prog w = .ok (.int .u8 ((g 0 : Nat) : Int)) w := fun w => by rw [← hg 0]; exact index_get s 0 h0 w
  have HIX : Hid (∀ k, k < s.size → ∀ w, (Instr.index 9 (.string s) (.int .i64 (k : Int))).run Try.prog w = .ok (.int .u8 ((g k : Nat) : Int)) w) := fun k hk w => by rw [← hg k]; exact index_get s k hk w
  have hb0 : g 0 < 256 := by rw [← hg 0]; exact UInt8.toNat_lt _
  have hb1 : g 1 < 256 := by rw [← hg 1]; exact UInt8.toNat_lt _
  have hb2 : g 2 < 256 := by rw [← hg 2]; exact UInt8.toNat_lt _
  have hb3 : g 3 < 256 := by rw [← hg 3]; exact UInt8.toNat_lt _
  have HD : Hid (Utf8.decode s 0 = decodeN s.size (g 0) (g 1) (g 2) (g 3)) := by show _ = _; rw [← hg 0, ← hg 1, ← hg 2, ← hg 3]; exact decode_at s 0
  generalize Utf8.decode s 0 = d at *
  rw [hg 0] at hc
  clear hg
  have HR : Hid (raV d = .tuple #[.int .i64 (-1), .int .i64 1]) := by
    refine raV_bad ?_
    rw [HD.out]
    exact dec_lone _ _ _ _ _ (by omega)
  clear HD hb1 hb2 hb3
  rcases hc with ⟨hc1, hc2⟩ | hc
  · go_enter Try.func69, Try.ntmps69
    go_wp2
    go_ret2
    exact ⟨by rw [HR.out]; rfl, rfl⟩
  · go_enter Try.func69, Try.ntmps69
    go_wp2
    go_ret2
    exact ⟨by rw [HR.out]; rfl, rfl⟩

set_option maxRecDepth 20000 in
set_option maxHeartbeats 4000000 in
theorem runeAt_2 (s : ByteArray) (w : World) (h0 : 0 < s.size) (hm : s.size ≤ 9223372036854775807) (hc1 : 194 ≤ (s.get! 0).toNat) (hc2 : (s.get! 0).toNat < 224) :
    Calls Try.prog 69 #[.string s] w fun e w' => e = .returned (raV (Utf8.decode s 0)) ∧ w = w' := by
  obtain ⟨g, hg⟩ : ∃ g : Nat → Nat, ∀ k, (s.get! k).toNat = g k := ⟨_, fun _ => rfl⟩
  have hix0 : ∀ w, (Instr.index 9 (.string s) (.int .i64 0)).run Try.prog w = .ok (.int .u8 ((g 0 : Nat) : Int)) w := fun w => by rw [← hg 0]; exact index_get s 0 h0 w
  have HIX : Hid (∀ k, k < s.size → ∀ w, (Instr.index 9 (.string s) (.int .i64 (k : Int))).run Try.prog w = .ok (.int .u8 ((g k : Nat) : Int)) w) := fun k hk w => by rw [← hg k]; exact index_get s k hk w
  have hb0 : g 0 < 256 := by rw [← hg 0]; exact UInt8.toNat_lt _
  have hb1 : g 1 < 256 := by rw [← hg 1]; exact UInt8.toNat_lt _
  have hb2 : g 2 < 256 := by rw [← hg 2]; exact UInt8.toNat_lt _
  have hb3 : g 3 < 256 := by rw [← hg 3]; exact UInt8.toNat_lt _
  have HD : Hid (Utf8.decode s 0 = decodeN s.size (g 0) (g 1) (g 2) (g 3)) := by show _ = _; rw [← hg 0, ← hg 1, ← hg 2, ← hg 3]; exact decode_at s 0
  generalize Utf8.decode s 0 = d at *
  rw [hg 0] at hc1 hc2
  clear hg
  have HB : Hid ((∀ k, 0 < k → k < 2 → g k < 256)) := by
    intro k hk hk'
    have : k = 1 := by omega
    rcases this with rfl <;> assumption
  have HA : Hid (∀ k : Nat, True) := fun _ => trivial
  clear HA
  by_cases hl : s.size < 2
  · have HR : Hid (raV d = .tuple #[.int .i64 (-1), .int .i64 1]) := by
      refine raV_bad ?_
      rw [HD.out]
      have h := dec_two s.size (g 0) (g 1) (g 2) (g 3) ⟨hc1, hc2⟩ hb1
      rw [h, if_pos (Or.inl hl)]
    clear HD HB hb1 hb2 hb3
    go_enter Try.func69, Try.ntmps69
    go_wp2
    go_ret2
    exact ⟨by rw [HR.out]; rfl, rfl⟩
  have hl' : 2 ≤ s.size := by omega
  go_enter Try.func69, Try.ntmps69
  go_wp2
  go_loop [4, 7] (fun c i => ∃ k : Nat, i = .int .i64 k ∧ Hid ((k = 1 ∧ c = .int .i64 ((g 0 : Int) - 192) ∧ True) ∨ (k = 2 ∧ c = .int .i64 (((g 0 : Int) - 192) * 64 + g 1 - 128) ∧ (128 ≤ g 1 ∧ g 1 < 192)))) (fun _ i => 2 - (intOf i).toNat)
  case atStart => exact ⟨1, rfl, Or.inl ⟨rfl, rfl, trivial⟩⟩
  case round =>
    obtain ⟨k, rfl, hk⟩ := hrel
    rcases hk.out with ⟨rfl, rfl, hct⟩ | ⟨rfl, rfl, hct⟩
    · have hix : ∀ w, (Instr.index 9 (.string s) (.int .i64 1)).run Try.prog w = .ok (.int .u8 ((g 1 : Nat) : Int)) w := fun w => HIX.out 1 (by omega) w
      have hbk := HB.out 1 (by omega) (by omega)
      by_cases hq : g 1 < 128
      · have HR : Hid (raV d = .tuple #[.int .i64 (-1), .int .i64 1]) := by
          refine raV_bad ?_
          rw [HD.out]
          have h := dec_two s.size (g 0) (g 1) (g 2) (g 3) ⟨hc1, hc2⟩ hb1
          rw [h, if_pos (by omega)]
        clear HD HB hb1 hb2 hb3 HIX
        go_wp2
        go_ret2
        exact ⟨by rw [HR.out]; rfl, rfl⟩
      by_cases hq2 : 192 ≤ g 1
      · have HR : Hid (raV d = .tuple #[.int .i64 (-1), .int .i64 1]) := by
          refine raV_bad ?_
          rw [HD.out]
          have h := dec_two s.size (g 0) (g 1) (g 2) (g 3) ⟨hc1, hc2⟩ hb1
          rw [h, if_pos (by omega)]
        clear HD HB hb1 hb2 hb3 HIX
        go_wp2
        go_ret2
        exact ⟨by rw [HR.out]; rfl, rfl⟩
      have hq1 : 128 ≤ g 1 := by omega
      have hq3 : g 1 < 192 := by omega
      clear hq hq2 HD HB HIX
      go_wp2
      go_round
      case rel => exact ⟨_, _, _, _, ⟨2, rfl, Or.inr ((by refine ⟨rfl, ?_⟩; first | rfl | (refine ⟨rfl, ?_⟩; omega)))⟩, rfl, rfl, rfl, rfl⟩
      case measure => simp [intOf]
    · generalize hcc : (((g 0 : Int) - 192) * 64 + g 1 - 128) = c at *
      have HCC := hide hcc
      obtain ⟨cn, rfl⟩ : ∃ cn : Nat, c = cn := ⟨c.toNat, by omega⟩
      have HL : Hid (d = if s.size < 2 ∨ (g 1 < 128 ∨ 192 ≤ g 1) then (65533, 1) else ((g 0 - 192) * 64 + (g 1 - 128), 2)) := by
        show _ = _
        rw [HD.out]
        exact dec_two s.size (g 0) (g 1) (g 2) (g 3) ⟨hc1, hc2⟩ hb1
      have HR : Hid (raV d = .tuple #[.int .i64 (cn : Int), .int .i64 2]) := by
        refine raV_ok (k := 2) ?_ (by omega)
        rw [HL.out, if_neg (by omega), show (g 0 - 192) * 64 + (g 1 - 128) = cn from by omega]
      have hv1 : 128 ≤ cn := by omega
      have hv2 : cn ≤ 2047 := by omega
      clear HL HD HB HIX hct hcc
      go_wp2
      go_ret2
      exact ⟨by rw [HR.out]; rfl, rfl⟩

set_option maxRecDepth 20000 in
set_option maxHeartbeats 4000000 in
theorem runeAt_3 (s : ByteArray) (w : World) (h0 : 0 < s.size) (hm : s.size ≤ 9223372036854775807) (hc1 : 224 ≤ (s.get! 0).toNat) (hc2 : (s.get! 0).toNat < 240) :
    Calls Try.prog 69 #[.string s] w fun e w' => e = .returned (raV (Utf8.decode s 0)) ∧ w = w' := by
  obtain ⟨g, hg⟩ : ∃ g : Nat → Nat, ∀ k, (s.get! k).toNat = g k := ⟨_, fun _ => rfl⟩
  have hix0 : ∀ w, (Instr.index 9 (.string s) (.int .i64 0)).run Try.prog w = .ok (.int .u8 ((g 0 : Nat) : Int)) w := fun w => by rw [← hg 0]; exact index_get s 0 h0 w
  have HIX : Hid (∀ k, k < s.size → ∀ w, (Instr.index 9 (.string s) (.int .i64 (k : Int))).run Try.prog w = .ok (.int .u8 ((g k : Nat) : Int)) w) := fun k hk w => by rw [← hg k]; exact index_get s k hk w
  have hb0 : g 0 < 256 := by rw [← hg 0]; exact UInt8.toNat_lt _
  have hb1 : g 1 < 256 := by rw [← hg 1]; exact UInt8.toNat_lt _
  have hb2 : g 2 < 256 := by rw [← hg 2]; exact UInt8.toNat_lt _
  have hb3 : g 3 < 256 := by rw [← hg 3]; exact UInt8.toNat_lt _
  have HD : Hid (Utf8.decode s 0 = decodeN s.size (g 0) (g 1) (g 2) (g 3)) := by show _ = _; rw [← hg 0, ← hg 1, ← hg 2, ← hg 3]; exact decode_at s 0
  generalize Utf8.decode s 0 = d at *
  rw [hg 0] at hc1 hc2
  clear hg
  have HB : Hid ((∀ k, 0 < k → k < 3 → g k < 256)) := by
    intro k hk hk'
    have : k = 1 ∨ k = 2 := by omega
    rcases this with rfl | rfl <;> assumption
  have HA : Hid (∀ k : Nat, True) := fun _ => trivial
  clear HA
  by_cases hl : s.size < 3
  · have HR : Hid (raV d = .tuple #[.int .i64 (-1), .int .i64 1]) := by
      refine raV_bad ?_
      rw [HD.out]
      have h := dec_three s.size (g 0) (g 1) (g 2) (g 3) ⟨hc1, hc2⟩ hb1 hb2 _ (fun _ _ => rfl)
      rw [h, if_pos (Or.inl hl)]
    clear HD HB hb1 hb2 hb3
    go_enter Try.func69, Try.ntmps69
    go_wp2
    go_ret2
    exact ⟨by rw [HR.out]; rfl, rfl⟩
  have hl' : 3 ≤ s.size := by omega
  go_enter Try.func69, Try.ntmps69
  go_wp2
  go_loop [4, 7] (fun c i => ∃ k : Nat, i = .int .i64 k ∧ Hid ((k = 1 ∧ c = .int .i64 ((g 0 : Int) - 224) ∧ True) ∨ (k = 2 ∧ c = .int .i64 (((g 0 : Int) - 224) * 64 + g 1 - 128) ∧ (128 ≤ g 1 ∧ g 1 < 192)) ∨ (k = 3 ∧ c = .int .i64 ((((g 0 : Int) - 224) * 64 + g 1 - 128) * 64 + g 2 - 128) ∧ (128 ≤ g 1 ∧ g 1 < 192) ∧ (128 ≤ g 2 ∧ g 2 < 192)))) (fun _ i => 3 - (intOf i).toNat)
  case atStart => exact ⟨1, rfl, Or.inl ⟨rfl, rfl, trivial⟩⟩
  case round =>
    obtain ⟨k, rfl, hk⟩ := hrel
    rcases hk.out with ⟨rfl, rfl, hct⟩ | ⟨rfl, rfl, hct⟩ | ⟨rfl, rfl, hct⟩
    · have hix : ∀ w, (Instr.index 9 (.string s) (.int .i64 1)).run Try.prog w = .ok (.int .u8 ((g 1 : Nat) : Int)) w := fun w => HIX.out 1 (by omega) w
      have hbk := HB.out 1 (by omega) (by omega)
      by_cases hq : g 1 < 128
      · have HR : Hid (raV d = .tuple #[.int .i64 (-1), .int .i64 1]) := by
          refine raV_bad ?_
          rw [HD.out]
          have h := dec_three s.size (g 0) (g 1) (g 2) (g 3) ⟨hc1, hc2⟩ hb1 hb2 _ (fun _ _ => rfl)
          rw [h, if_pos (by omega)]
        clear HD HB hb1 hb2 hb3 HIX
        go_wp2
        go_ret2
        exact ⟨by rw [HR.out]; rfl, rfl⟩
      by_cases hq2 : 192 ≤ g 1
      · have HR : Hid (raV d = .tuple #[.int .i64 (-1), .int .i64 1]) := by
          refine raV_bad ?_
          rw [HD.out]
          have h := dec_three s.size (g 0) (g 1) (g 2) (g 3) ⟨hc1, hc2⟩ hb1 hb2 _ (fun _ _ => rfl)
          rw [h, if_pos (by omega)]
        clear HD HB hb1 hb2 hb3 HIX
        go_wp2
        go_ret2
        exact ⟨by rw [HR.out]; rfl, rfl⟩
      have hq1 : 128 ≤ g 1 := by omega
      have hq3 : g 1 < 192 := by omega
      clear hq hq2 HD HB HIX
      go_wp2
      go_round
      case rel => exact ⟨_, _, _, _, ⟨2, rfl, Or.inr (Or.inl (by refine ⟨rfl, ?_⟩; first | rfl | (refine ⟨rfl, ?_⟩; omega)))⟩, rfl, rfl, rfl, rfl⟩
      case measure => simp [intOf]
    · have hix : ∀ w, (Instr.index 9 (.string s) (.int .i64 2)).run Try.prog w = .ok (.int .u8 ((g 2 : Nat) : Int)) w := fun w => HIX.out 2 (by omega) w
      have hbk := HB.out 2 (by omega) (by omega)
      by_cases hq : g 2 < 128
      · have HR : Hid (raV d = .tuple #[.int .i64 (-1), .int .i64 1]) := by
          refine raV_bad ?_
          rw [HD.out]
          have h := dec_three s.size (g 0) (g 1) (g 2) (g 3) ⟨hc1, hc2⟩ hb1 hb2 _ (fun _ _ => rfl)
          rw [h, if_pos (by omega)]
        clear HD HB hb1 hb2 hb3 HIX
        go_wp2
        go_ret2
        exact ⟨by rw [HR.out]; rfl, rfl⟩
      by_cases hq2 : 192 ≤ g 2
      · have HR : Hid (raV d = .tuple #[.int .i64 (-1), .int .i64 1]) := by
          refine raV_bad ?_
          rw [HD.out]
          have h := dec_three s.size (g 0) (g 1) (g 2) (g 3) ⟨hc1, hc2⟩ hb1 hb2 _ (fun _ _ => rfl)
          rw [h, if_pos (by omega)]
        clear HD HB hb1 hb2 hb3 HIX
        go_wp2
        go_ret2
        exact ⟨by rw [HR.out]; rfl, rfl⟩
      have hq1 : 128 ≤ g 2 := by omega
      have hq3 : g 2 < 192 := by omega
      clear hq hq2 HD HB HIX
      go_wp2
      go_round
      case rel => exact ⟨_, _, _, _, ⟨3, rfl, Or.inr (Or.inr ((by refine ⟨rfl, ?_⟩; first | rfl | (refine ⟨rfl, ?_⟩; omega))))⟩, rfl, rfl, rfl, rfl⟩
      case measure => simp [intOf]
    · generalize hcc : ((((g 0 : Int) - 224) * 64 + g 1 - 128) * 64 + g 2 - 128) = c at *
      have HCC := hide hcc
      obtain ⟨cn, rfl⟩ : ∃ cn : Nat, c = cn := ⟨c.toNat, by omega⟩
      have HL : Hid (d = if s.size < 3 ∨ (g 1 < 128 ∨ 192 ≤ g 1) ∨ (g 2 < 128 ∨ 192 ≤ g 2) ∨ (cn < 2048 ∨ 1114111 < cn ∨ (55296 ≤ cn ∧ cn < 57344)) then (65533, 1) else (cn, 3)) := by
        show _ = _
        rw [HD.out]
        exact dec_three s.size (g 0) (g 1) (g 2) (g 3) ⟨hc1, hc2⟩ hb1 hb2 cn (fun _ _ => by omega)
      have hcase : cn < 2048 ∨ (2048 ≤ cn ∧ cn < 55296) ∨ (2048 ≤ cn ∧ 55296 ≤ cn ∧ cn < 57344) ∨ (2048 ≤ cn ∧ 57344 ≤ cn ∧ cn ≤ 1114111) := by omega
      rcases hcase with hv | ⟨hv, hv2⟩ | ⟨hv, hv2, hv3⟩ | ⟨hv, hv2, hv3⟩
      · have HR : Hid (raV d = .tuple #[.int .i64 (-1), .int .i64 1]) := by
          refine raV_bad ?_
          rw [HL.out, if_pos (by omega)]
        clear HL HD HB HIX hct hcc
        go_wp2
        go_ret2
        exact ⟨by rw [HR.out]; rfl, rfl⟩
      · have HR : Hid (raV d = .tuple #[.int .i64 (cn : Int), .int .i64 3]) := by
          refine raV_ok (k := 3) ?_ (by omega)
          rw [HL.out, if_neg (by omega)]
        clear HL HD HB HIX hct hcc
        go_wp2
        go_ret2
        exact ⟨by rw [HR.out]; rfl, rfl⟩
      · have HR : Hid (raV d = .tuple #[.int .i64 (-1), .int .i64 1]) := by
          refine raV_bad ?_
          rw [HL.out, if_pos (by omega)]
        clear HL HD HB HIX hct hcc
        go_wp2
        go_ret2
        exact ⟨by rw [HR.out]; rfl, rfl⟩
      · have HR : Hid (raV d = .tuple #[.int .i64 (cn : Int), .int .i64 3]) := by
          refine raV_ok (k := 3) ?_ (by omega)
          rw [HL.out, if_neg (by omega)]
        clear HL HD HB HIX hct hcc
        go_wp2
        go_ret2
        exact ⟨by rw [HR.out]; rfl, rfl⟩

set_option maxRecDepth 20000 in
set_option maxHeartbeats 4000000 in
theorem runeAt_4 (s : ByteArray) (w : World) (h0 : 0 < s.size) (hm : s.size ≤ 9223372036854775807) (hc1 : 240 ≤ (s.get! 0).toNat) (hc2 : (s.get! 0).toNat < 245) :
    Calls Try.prog 69 #[.string s] w fun e w' => e = .returned (raV (Utf8.decode s 0)) ∧ w = w' := by
  obtain ⟨g, hg⟩ : ∃ g : Nat → Nat, ∀ k, (s.get! k).toNat = g k := ⟨_, fun _ => rfl⟩
  have hix0 : ∀ w, (Instr.index 9 (.string s) (.int .i64 0)).run Try.prog w = .ok (.int .u8 ((g 0 : Nat) : Int)) w := fun w => by rw [← hg 0]; exact index_get s 0 h0 w
  have HIX : Hid (∀ k, k < s.size → ∀ w, (Instr.index 9 (.string s) (.int .i64 (k : Int))).run Try.prog w = .ok (.int .u8 ((g k : Nat) : Int)) w) := fun k hk w => by rw [← hg k]; exact index_get s k hk w
  have hb0 : g 0 < 256 := by rw [← hg 0]; exact UInt8.toNat_lt _
  have hb1 : g 1 < 256 := by rw [← hg 1]; exact UInt8.toNat_lt _
  have hb2 : g 2 < 256 := by rw [← hg 2]; exact UInt8.toNat_lt _
  have hb3 : g 3 < 256 := by rw [← hg 3]; exact UInt8.toNat_lt _
  have HD : Hid (Utf8.decode s 0 = decodeN s.size (g 0) (g 1) (g 2) (g 3)) := by show _ = _; rw [← hg 0, ← hg 1, ← hg 2, ← hg 3]; exact decode_at s 0
  generalize Utf8.decode s 0 = d at *
  rw [hg 0] at hc1 hc2
  clear hg
  have HB : Hid ((∀ k, 0 < k → k < 4 → g k < 256)) := by
    intro k hk hk'
    have : k = 1 ∨ k = 2 ∨ k = 3 := by omega
    rcases this with rfl | rfl | rfl <;> assumption
  have HA : Hid (∀ k : Nat, True) := fun _ => trivial
  clear HA
  by_cases hl : s.size < 4
  · have HR : Hid (raV d = .tuple #[.int .i64 (-1), .int .i64 1]) := by
      refine raV_bad ?_
      rw [HD.out]
      have h := dec_four s.size (g 0) (g 1) (g 2) (g 3) ⟨hc1, hc2⟩ hb1 hb2 hb3 _ (fun _ _ _ => rfl)
      rw [h, if_pos (Or.inl hl)]
    clear HD HB hb1 hb2 hb3
    go_enter Try.func69, Try.ntmps69
    go_wp2
    go_ret2
    exact ⟨by rw [HR.out]; rfl, rfl⟩
  have hl' : 4 ≤ s.size := by omega
  go_enter Try.func69, Try.ntmps69
  go_wp2
  go_loop [4, 7] (fun c i => ∃ k : Nat, i = .int .i64 k ∧ Hid ((k = 1 ∧ c = .int .i64 ((g 0 : Int) - 240) ∧ True) ∨ (k = 2 ∧ c = .int .i64 (((g 0 : Int) - 240) * 64 + g 1 - 128) ∧ (128 ≤ g 1 ∧ g 1 < 192)) ∨ (k = 3 ∧ c = .int .i64 ((((g 0 : Int) - 240) * 64 + g 1 - 128) * 64 + g 2 - 128) ∧ (128 ≤ g 1 ∧ g 1 < 192) ∧ (128 ≤ g 2 ∧ g 2 < 192)) ∨ (k = 4 ∧ c = .int .i64 (((((g 0 : Int) - 240) * 64 + g 1 - 128) * 64 + g 2 - 128) * 64 + g 3 - 128) ∧ (128 ≤ g 1 ∧ g 1 < 192) ∧ (128 ≤ g 2 ∧ g 2 < 192) ∧ (128 ≤ g 3 ∧ g 3 < 192)))) (fun _ i => 4 - (intOf i).toNat)
  case atStart => exact ⟨1, rfl, Or.inl ⟨rfl, rfl, trivial⟩⟩
  case round =>
    obtain ⟨k, rfl, hk⟩ := hrel
    rcases hk.out with ⟨rfl, rfl, hct⟩ | ⟨rfl, rfl, hct⟩ | ⟨rfl, rfl, hct⟩ | ⟨rfl, rfl, hct⟩
    · have hix : ∀ w, (Instr.index 9 (.string s) (.int .i64 1)).run Try.prog w = .ok (.int .u8 ((g 1 : Nat) : Int)) w := fun w => HIX.out 1 (by omega) w
      have hbk := HB.out 1 (by omega) (by omega)
      by_cases hq : g 1 < 128
      · have HR : Hid (raV d = .tuple #[.int .i64 (-1), .int .i64 1]) := by
          refine raV_bad ?_
          rw [HD.out]
          have h := dec_four s.size (g 0) (g 1) (g 2) (g 3) ⟨hc1, hc2⟩ hb1 hb2 hb3 _ (fun _ _ _ => rfl)
          rw [h, if_pos (by omega)]
        clear HD HB hb1 hb2 hb3 HIX
        go_wp2
        go_ret2
        exact ⟨by rw [HR.out]; rfl, rfl⟩
      by_cases hq2 : 192 ≤ g 1
      · have HR : Hid (raV d = .tuple #[.int .i64 (-1), .int .i64 1]) := by
          refine raV_bad ?_
          rw [HD.out]
          have h := dec_four s.size (g 0) (g 1) (g 2) (g 3) ⟨hc1, hc2⟩ hb1 hb2 hb3 _ (fun _ _ _ => rfl)
          rw [h, if_pos (by omega)]
        clear HD HB hb1 hb2 hb3 HIX
        go_wp2
        go_ret2
        exact ⟨by rw [HR.out]; rfl, rfl⟩
      have hq1 : 128 ≤ g 1 := by omega
      have hq3 : g 1 < 192 := by omega
      clear hq hq2 HD HB HIX
      go_wp2
      go_round
      case rel => exact ⟨_, _, _, _, ⟨2, rfl, Or.inr (Or.inl (by refine ⟨rfl, ?_⟩; first | rfl | (refine ⟨rfl, ?_⟩; omega)))⟩, rfl, rfl, rfl, rfl⟩
      case measure => simp [intOf]
    · have hix : ∀ w, (Instr.index 9 (.string s) (.int .i64 2)).run Try.prog w = .ok (.int .u8 ((g 2 : Nat) : Int)) w := fun w => HIX.out 2 (by omega) w
      have hbk := HB.out 2 (by omega) (by omega)
      by_cases hq : g 2 < 128
      · have HR : Hid (raV d = .tuple #[.int .i64 (-1), .int .i64 1]) := by
          refine raV_bad ?_
          rw [HD.out]
          have h := dec_four s.size (g 0) (g 1) (g 2) (g 3) ⟨hc1, hc2⟩ hb1 hb2 hb3 _ (fun _ _ _ => rfl)
          rw [h, if_pos (by omega)]
        clear HD HB hb1 hb2 hb3 HIX
        go_wp2
        go_ret2
        exact ⟨by rw [HR.out]; rfl, rfl⟩
      by_cases hq2 : 192 ≤ g 2
      · have HR : Hid (raV d = .tuple #[.int .i64 (-1), .int .i64 1]) := by
          refine raV_bad ?_
          rw [HD.out]
          have h := dec_four s.size (g 0) (g 1) (g 2) (g 3) ⟨hc1, hc2⟩ hb1 hb2 hb3 _ (fun _ _ _ => rfl)
          rw [h, if_pos (by omega)]
        clear HD HB hb1 hb2 hb3 HIX
        go_wp2
        go_ret2
        exact ⟨by rw [HR.out]; rfl, rfl⟩
      have hq1 : 128 ≤ g 2 := by omega
      have hq3 : g 2 < 192 := by omega
      clear hq hq2 HD HB HIX
      go_wp2
      go_round
      case rel => exact ⟨_, _, _, _, ⟨3, rfl, Or.inr (Or.inr (Or.inl (by refine ⟨rfl, ?_⟩; first | rfl | (refine ⟨rfl, ?_⟩; omega))))⟩, rfl, rfl, rfl, rfl⟩
      case measure => simp [intOf]
    · have hix : ∀ w, (Instr.index 9 (.string s) (.int .i64 3)).run Try.prog w = .ok (.int .u8 ((g 3 : Nat) : Int)) w := fun w => HIX.out 3 (by omega) w
      have hbk := HB.out 3 (by omega) (by omega)
      by_cases hq : g 3 < 128
      · have HR : Hid (raV d = .tuple #[.int .i64 (-1), .int .i64 1]) := by
          refine raV_bad ?_
          rw [HD.out]
          have h := dec_four s.size (g 0) (g 1) (g 2) (g 3) ⟨hc1, hc2⟩ hb1 hb2 hb3 _ (fun _ _ _ => rfl)
          rw [h, if_pos (by omega)]
        clear HD HB hb1 hb2 hb3 HIX
        go_wp2
        go_ret2
        exact ⟨by rw [HR.out]; rfl, rfl⟩
      by_cases hq2 : 192 ≤ g 3
      · have HR : Hid (raV d = .tuple #[.int .i64 (-1), .int .i64 1]) := by
          refine raV_bad ?_
          rw [HD.out]
          have h := dec_four s.size (g 0) (g 1) (g 2) (g 3) ⟨hc1, hc2⟩ hb1 hb2 hb3 _ (fun _ _ _ => rfl)
          rw [h, if_pos (by omega)]
        clear HD HB hb1 hb2 hb3 HIX
        go_wp2
        go_ret2
        exact ⟨by rw [HR.out]; rfl, rfl⟩
      have hq1 : 128 ≤ g 3 := by omega
      have hq3 : g 3 < 192 := by omega
      clear hq hq2 HD HB HIX
      go_wp2
      go_round
      case rel => exact ⟨_, _, _, _, ⟨4, rfl, Or.inr (Or.inr (Or.inr ((by refine ⟨rfl, ?_⟩; first | rfl | (refine ⟨rfl, ?_⟩; omega)))))⟩, rfl, rfl, rfl, rfl⟩
      case measure => simp [intOf]
    · generalize hcc : (((((g 0 : Int) - 240) * 64 + g 1 - 128) * 64 + g 2 - 128) * 64 + g 3 - 128) = c at *
      have HCC := hide hcc
      obtain ⟨cn, rfl⟩ : ∃ cn : Nat, c = cn := ⟨c.toNat, by omega⟩
      have HL : Hid (d = if s.size < 4 ∨ (g 1 < 128 ∨ 192 ≤ g 1) ∨ (g 2 < 128 ∨ 192 ≤ g 2) ∨ (g 3 < 128 ∨ 192 ≤ g 3) ∨ (cn < 65536 ∨ 1114111 < cn ∨ (55296 ≤ cn ∧ cn < 57344)) then (65533, 1) else (cn, 4)) := by
        show _ = _
        rw [HD.out]
        exact dec_four s.size (g 0) (g 1) (g 2) (g 3) ⟨hc1, hc2⟩ hb1 hb2 hb3 cn (fun _ _ _ => by omega)
      have hcase : cn < 65536 ∨ (65536 ≤ cn ∧ cn ≤ 1114111) ∨ (65536 ≤ cn ∧ 1114111 < cn) := by omega
      rcases hcase with hv | ⟨hv, hv2⟩ | ⟨hv, hv2⟩
      · have HR : Hid (raV d = .tuple #[.int .i64 (-1), .int .i64 1]) := by
          refine raV_bad ?_
          rw [HL.out, if_pos (by omega)]
        clear HL HD HB HIX hct hcc
        go_wp2
        go_ret2
        exact ⟨by rw [HR.out]; rfl, rfl⟩
      · have hv3 : 57344 ≤ cn := by omega
        have HR : Hid (raV d = .tuple #[.int .i64 (cn : Int), .int .i64 4]) := by
          refine raV_ok (k := 4) ?_ (by omega)
          rw [HL.out, if_neg (by omega)]
        clear HL HD HB HIX hct hcc
        go_wp2
        go_ret2
        exact ⟨by rw [HR.out]; rfl, rfl⟩
      · have HR : Hid (raV d = .tuple #[.int .i64 (-1), .int .i64 1]) := by
          refine raV_bad ?_
          rw [HL.out, if_pos (by omega)]
        clear HL HD HB HIX hct hcc
        go_wp2
        go_ret2
        exact ⟨by rw [HR.out]; rfl, rfl⟩

theorem runeAt_any (s : ByteArray) (w : World) (h0 : 0 < s.size) (hm : s.size ≤ 9223372036854775807) :
    Calls Try.prog 69 #[.string s] w fun e w' => e = .returned (raV (Utf8.decode s 0)) ∧ w = w' := by
  have hcase : (s.get! 0).toNat < 128 ∨ ((128 ≤ (s.get! 0).toNat ∧ (s.get! 0).toNat < 194) ∨ 245 ≤ (s.get! 0).toNat) ∨ (194 ≤ (s.get! 0).toNat ∧ (s.get! 0).toNat < 224) ∨ (224 ≤ (s.get! 0).toNat ∧ (s.get! 0).toNat < 240) ∨ (240 ≤ (s.get! 0).toNat ∧ (s.get! 0).toNat < 245) := by omega
  rcases hcase with h | h | ⟨h1, h2⟩ | ⟨h1, h2⟩ | ⟨h1, h2⟩
  · exact runeAt_one s w h0 h
  · exact runeAt_none s w h0 h
  · exact runeAt_2 s w h0 hm h1 h2
  · exact runeAt_3 s w h0 hm h1 h2
  · exact runeAt_4 s w h0 hm h1 h2

end Go.Proofs.Ytgglbafcocbhbaa
