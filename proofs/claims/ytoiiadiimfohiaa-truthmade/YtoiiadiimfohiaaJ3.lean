/- Joined: RunA, Idx, AppK, RunB, SbC, Mat, IAl, SbE, Sgn, SbD, TtE. -/
import Derived.Test.YtoiiadiimfohiaaJ2
import Derived.Test.YtoiiadiimfohiaaJ1
import Derived.Lib.Bytealg
import Derived.Laws.Runes
import Derived.Laws.Externs
import Derived.WalkMore
import Derived.Deep.QuietTactic
import Derived.Deep.RegionHeld3
import Derived.Test.YtoiiadiimfohiaaJ0
import Derived.Maps.AppendAt
import Derived.Deep.Matrix
import Derived.OpenShut
import Derived.BigQuiet
/- Contract: the answer's runeAt. -/
namespace Go.Proofs.Ytoiiadiimfohiaa
open Go.RowKit
open Go.Lib (decodeN decode_at)

/-- What runeAt answers. -/
def raV (d : Nat × Nat) : Value := .tuple #[.int .i64 (ar d), .int .i64 ((d.2 : Nat) : Int)]

theorem raV_bad {d : Nat × Nat} (h : d = (65533, 1)) : raV d = .tuple #[.int .i64 (-1), .int .i64 1] := by subst h; rfl
theorem raV_ok {d : Nat × Nat} {c k : Nat} (h : d = (c, k)) (hk : c ≠ 65533 ∨ k ≠ 1) : raV d = .tuple #[.int .i64 (c : Int), .int .i64 (k : Int)] := by unfold raV; rw [ar_ok h hk, h]

theorem byte_get (s : ByteArray) (k : Nat) (hk : k < s.size) : (s[k]'hk) = s.get! k := by
  cases s with
  | mk d => exact (getElem!_pos d k hk).symm

theorem index_get (s : ByteArray) (k : Nat) (hk : k < s.size) (w : World) : (Instr.index 9 (.string s) (.int .i64 (k : Int))).run Try.prog w = .ok (.int .u8 (((s.get! k).toNat : Nat) : Int)) w := by
  rw [← byte_get s k hk]; exact index_byte s k hk w

set_option maxRecDepth 20000 in
set_option maxHeartbeats 4000000 in
theorem runeAt_one (s : ByteArray) (w : World) (h0 : 0 < s.size) (hc : (s.get! 0).toNat < 128) :
    Calls Try.prog 92 #[.string s] w fun e w' => e = .returned (raV (Utf8.decode s 0)) ∧ w = w' := by
  obtain ⟨g, hg⟩ : ∃ g : Nat → Nat, ∀ k, (s.get! k).toNat = g k := ⟨_, fun _ => rfl⟩
  have hix0 : ∀ w, (Instr.index 9 (.string s) (.int .i64 0)).run Try.prog w = .ok (.int .u8 ((g 0 : Nat) : Int)) w := fun w => by rw [← hg 0]; exact index_get s 0 h0 w
  have HIX : Hid (∀ k, k < s.size → ∀ w, (Instr.index 9 (.string s) (.int .i64 (k : Int))).run Try.prog w = .ok (.int .u8 ((g k : Nat) : Int)) w) := fun k hk w => by rw [← hg k]; exact index_get s k hk w
  have hb0 : g 0 < 256 := by rw [← hg 0]; exact UInt8.toNat_lt _
  have hb1 : g 1 < 256 := by rw [← hg 1]; exact UInt8.toNat_lt _
  have hb2 : g 2 < 256 := by rw [← hg 2]; exact UInt8.toNat_lt _
  have hb3 : g 3 < 256 := by rw [← hg 3]; exact UInt8.toNat_lt _
  have HD : Hid (Utf8.decode s 0 = decodeN s.size (g 0) (g 1) (g 2) (g 3)) := by show _ = _; rw [← hg 0, ← hg 1, ← hg 2, ← hg 3]; exact decode_at s 0
  generalize Utf8.decode s 0 = d at *
  rw [hg 0] at hc
  clear hg
  have HR : Hid (raV d = .tuple #[.int .i64 (g 0 : Int), .int .i64 1]) := by
    refine raV_ok (k := 1) ?_ (by omega)
    rw [HD.out]
    unfold decodeN
    rw [if_pos hc]
  clear HD hb1 hb2 hb3
  go_enter Try.func92, Try.ntmps92
  go_wp2
  go_ret2
  exact ⟨by rw [HR.out]; rfl, rfl⟩

set_option maxRecDepth 20000 in
set_option maxHeartbeats 4000000 in
theorem runeAt_none (s : ByteArray) (w : World) (h0 : 0 < s.size) (hc : (128 ≤ (s.get! 0).toNat ∧ (s.get! 0).toNat < 194) ∨ 245 ≤ (s.get! 0).toNat) :
    Calls Try.prog 92 #[.string s] w fun e w' => e = .returned (raV (Utf8.decode s 0)) ∧ w = w' := by
  obtain ⟨g, hg⟩ : ∃ g : Nat → Nat, ∀ k, (s.get! k).toNat = g k := ⟨_, fun _ => rfl⟩
  have hix0 : ∀ w, (Instr.index 9 (.string s) (.int .i64 0)).run Try.prog w = .ok (.int .u8 ((g 0 : Nat) : Int)) w := fun w => by rw [← hg 0]; exact index_get s 0 h0 w
  have HIX : Hid (∀ k, k < s.size → ∀ w, (Instr.index 9 (.string s) (.int .i64 (k : Int))).run Try.prog w = .ok (.int .u8 ((g k : Nat) : Int)) w) := fun k hk w => by rw [← hg k]; exact index_get s k hk w
  have hb0 : g 0 < 256 := by rw [← hg 0]; exact UInt8.toNat_lt _
  have hb1 : g 1 < 256 := by rw [← hg 1]; exact UInt8.toNat_lt _
  have hb2 : g 2 < 256 := by rw [← hg 2]; exact UInt8.toNat_lt _
  have hb3 : g 3 < 256 := by rw [← hg 3]; exact UInt8.toNat_lt _
  have HD : Hid (Utf8.decode s 0 = decodeN s.size (g 0) (g 1) (g 2) (g 3)) := by show _ = _; rw [← hg 0, ← hg 1, ← hg 2, ← hg 3]; exact decode_at s 0
  generalize Utf8.decode s 0 = d at *
  rw [hg 0] at hc
  clear hg
  have HR : Hid (raV d = .tuple #[.int .i64 (-1), .int .i64 1]) := by
    refine raV_bad ?_
    rw [HD.out]
    exact dec_lone _ _ _ _ _ (by omega)
  clear HD hb1 hb2 hb3
  rcases hc with ⟨hc1, hc2⟩ | hc
  · go_enter Try.func92, Try.ntmps92
    go_wp2
    go_ret2
    exact ⟨by rw [HR.out]; rfl, rfl⟩
  · go_enter Try.func92, Try.ntmps92
    go_wp2
    go_ret2
    exact ⟨by rw [HR.out]; rfl, rfl⟩

set_option maxRecDepth 20000 in
set_option maxHeartbeats 4000000 in
theorem runeAt_2 (s : ByteArray) (w : World) (h0 : 0 < s.size) (hm : s.size ≤ 9223372036854775807) (hc1 : 194 ≤ (s.get! 0).toNat) (hc2 : (s.get! 0).toNat < 224) :
    Calls Try.prog 92 #[.string s] w fun e w' => e = .returned (raV (Utf8.decode s 0)) ∧ w = w' := by
  obtain ⟨g, hg⟩ : ∃ g : Nat → Nat, ∀ k, (s.get! k).toNat = g k := ⟨_, fun _ => rfl⟩
  have hix0 : ∀ w, (Instr.index 9 (.string s) (.int .i64 0)).run Try.prog w = .ok (.int .u8 ((g 0 : Nat) : Int)) w := fun w => by rw [← hg 0]; exact index_get s 0 h0 w
  have HIX : Hid (∀ k, k < s.size → ∀ w, (Instr.index 9 (.string s) (.int .i64 (k : Int))).run Try.prog w = .ok (.int .u8 ((g k : Nat) : Int)) w) := fun k hk w => by rw [← hg k]; exact index_get s k hk w
  have hb0 : g 0 < 256 := by rw [← hg 0]; exact UInt8.toNat_lt _
  have hb1 : g 1 < 256 := by rw [← hg 1]; exact UInt8.toNat_lt _
  have hb2 : g 2 < 256 := by rw [← hg 2]; exact UInt8.toNat_lt _
  have hb3 : g 3 < 256 := by rw [← hg 3]; exact UInt8.toNat_lt _
  have HD : Hid (Utf8.decode s 0 = decodeN s.size (g 0) (g 1) (g 2) (g 3)) := by show _ = _; rw [← hg 0, ← hg 1, ← hg 2, ← hg 3]; exact decode_at s 0
  generalize Utf8.decode s 0 = d at *
  rw [hg 0] at hc1 hc2
  clear hg
  have HB : Hid ((∀ k, 0 < k → k < 2 → g k < 256)) := by
    intro k hk hk'
    have : k = 1 := by omega
    rcases this with rfl <;> assumption
  have HA : Hid (∀ k : Nat, True) := fun _ => trivial
  clear HA
  by_cases hl : s.size < 2
  · have HR : Hid (raV d = .tuple #[.int .i64 (-1), .int .i64 1]) := by
      refine raV_bad ?_
      rw [HD.out]
      have h := dec_two s.size (g 0) (g 1) (g 2) (g 3) ⟨hc1, hc2⟩ hb1
      rw [h, if_pos (Or.inl hl)]
    clear HD HB hb1 hb2 hb3
    go_enter Try.func92, Try.ntmps92
    go_wp2
    go_ret2
    exact ⟨by rw [HR.out]; rfl, rfl⟩
  have hl' : 2 ≤ s.size := by omega
  go_enter Try.func92, Try.ntmps92
  go_wp2
  go_loop [4, 7] (fun c i => ∃ k : Nat, i = .int .i64 k ∧ Hid ((k = 1 ∧ c = .int .i64 ((g 0 : Int) - 192) ∧ True) ∨ (k = 2 ∧ c = .int .i64 (((g 0 : Int) - 192) * 64 + g 1 - 128) ∧ (128 ≤ g 1 ∧ g 1 < 192)))) (fun _ i => 2 - (intOf i).toNat)
  case atStart => exact ⟨1, rfl, Or.inl ⟨rfl, rfl, trivial⟩⟩
  case round =>
    obtain ⟨k, rfl, hk⟩ := hrel
    rcases hk.out with ⟨rfl, rfl, hct⟩ | ⟨rfl, rfl, hct⟩
    · have hix : ∀ w, (Instr.index 9 (.string s) (.int .i64 1)).run Try.prog w = .ok (.int .u8 ((g 1 : Nat) : Int)) w := fun w => HIX.out 1 (by omega) w
      have hbk := HB.out 1 (by omega) (by omega)
      by_cases hq : g 1 < 128
      · have HR : Hid (raV d = .tuple #[.int .i64 (-1), .int .i64 1]) := by
          refine raV_bad ?_
          rw [HD.out]
          have h := dec_two s.size (g 0) (g 1) (g 2) (g 3) ⟨hc1, hc2⟩ hb1
          rw [h, if_pos (by omega)]
        clear HD HB hb1 hb2 hb3 HIX
        go_wp2
        go_ret2
        exact ⟨by rw [HR.out]; rfl, rfl⟩
      by_cases hq2 : 192 ≤ g 1
      · have HR : Hid (raV d = .tuple #[.int .i64 (-1), .int .i64 1]) := by
          refine raV_bad ?_
          rw [HD.out]
          have h := dec_two s.size (g 0) (g 1) (g 2) (g 3) ⟨hc1, hc2⟩ hb1
          rw [h, if_pos (by omega)]
        clear HD HB hb1 hb2 hb3 HIX
        go_wp2
        go_ret2
        exact ⟨by rw [HR.out]; rfl, rfl⟩
      have hq1 : 128 ≤ g 1 := by omega
      have hq3 : g 1 < 192 := by omega
      clear hq hq2 HD HB HIX
      go_wp2
      go_round
      case rel => exact ⟨_, _, _, _, ⟨2, rfl, Or.inr ((by refine ⟨rfl, ?_⟩; first | rfl | (refine ⟨rfl, ?_⟩; omega)))⟩, rfl, rfl, rfl, rfl⟩
      case measure => simp [intOf]
    · generalize hcc : (((g 0 : Int) - 192) * 64 + g 1 - 128) = c at *
      have HCC := hide hcc
      obtain ⟨cn, rfl⟩ : ∃ cn : Nat, c = cn := ⟨c.toNat, by omega⟩
      have HL : Hid (d = if s.size < 2 ∨ (g 1 < 128 ∨ 192 ≤ g 1) then (65533, 1) else ((g 0 - 192) * 64 + (g 1 - 128), 2)) := by
        show _ = _
        rw [HD.out]
        exact dec_two s.size (g 0) (g 1) (g 2) (g 3) ⟨hc1, hc2⟩ hb1
      have HR : Hid (raV d = .tuple #[.int .i64 (cn : Int), .int .i64 2]) := by
        refine raV_ok (k := 2) ?_ (by omega)
        rw [HL.out, if_neg (by omega), show (g 0 - 192) * 64 + (g 1 - 128) = cn from by omega]
      have hv1 : 128 ≤ cn := by omega
      have hv2 : cn ≤ 2047 := by omega
      clear HL HD HB HIX hct hcc
      go_wp2
      go_ret2
      exact ⟨by rw [HR.out]; rfl, rfl⟩

set_option maxRecDepth 20000 in
set_option maxHeartbeats 4000000 in
theorem runeAt_3 (s : ByteArray) (w : World) (h0 : 0 < s.size) (hm : s.size ≤ 9223372036854775807) (hc1 : 224 ≤ (s.get! 0).toNat) (hc2 : (s.get! 0).toNat < 240) :
    Calls Try.prog 92 #[.string s] w fun e w' => e = .returned (raV (Utf8.decode s 0)) ∧ w = w' := by
  obtain ⟨g, hg⟩ : ∃ g : Nat → Nat, ∀ k, (s.get! k).toNat = g k := ⟨_, fun _ => rfl⟩
  have hix0 : ∀ w, (Instr.index 9 (.string s) (.int .i64 0)).run Try.prog w = .ok (.int .u8 ((g 0 : Nat) : Int)) w := fun w => by rw [← hg 0]; exact index_get s 0 h0 w
  have HIX : Hid (∀ k, k < s.size → ∀ w, (Instr.index 9 (.string s) (.int .i64 (k : Int))).run Try.prog w = .ok (.int .u8 ((g k : Nat) : Int)) w) := fun k hk w => by rw [← hg k]; exact index_get s k hk w
  have hb0 : g 0 < 256 := by rw [← hg 0]; exact UInt8.toNat_lt _
  have hb1 : g 1 < 256 := by rw [← hg 1]; exact UInt8.toNat_lt _
  have hb2 : g 2 < 256 := by rw [← hg 2]; exact UInt8.toNat_lt _
  have hb3 : g 3 < 256 := by rw [← hg 3]; exact UInt8.toNat_lt _
  have HD : Hid (Utf8.decode s 0 = decodeN s.size (g 0) (g 1) (g 2) (g 3)) := by show _ = _; rw [← hg 0, ← hg 1, ← hg 2, ← hg 3]; exact decode_at s 0
  generalize Utf8.decode s 0 = d at *
  rw [hg 0] at hc1 hc2
  clear hg
  have HB : Hid ((∀ k, 0 < k → k < 3 → g k < 256)) := by
    intro k hk hk'
    have : k = 1 ∨ k = 2 := by omega
    rcases this with rfl | rfl <;> assumption
  have HA : Hid (∀ k : Nat, True) := fun _ => trivial
  clear HA
  by_cases hl : s.size < 3
  · have HR : Hid (raV d = .tuple #[.int .i64 (-1), .int .i64 1]) := by
      refine raV_bad ?_
      rw [HD.out]
      have h := dec_three s.size (g 0) (g 1) (g 2) (g 3) ⟨hc1, hc2⟩ hb1 hb2 _ (fun _ _ => rfl)
      rw [h, if_pos (Or.inl hl)]
    clear HD HB hb1 hb2 hb3
    go_enter Try.func92, Try.ntmps92
    go_wp2
    go_ret2
    exact ⟨by rw [HR.out]; rfl, rfl⟩
  have hl' : 3 ≤ s.size := by omega
  go_enter Try.func92, Try.ntmps92
  go_wp2
  go_loop [4, 7] (fun c i => ∃ k : Nat, i = .int .i64 k ∧ Hid ((k = 1 ∧ c = .int .i64 ((g 0 : Int) - 224) ∧ True) ∨ (k = 2 ∧ c = .int .i64 (((g 0 : Int) - 224) * 64 + g 1 - 128) ∧ (128 ≤ g 1 ∧ g 1 < 192)) ∨ (k = 3 ∧ c = .int .i64 ((((g 0 : Int) - 224) * 64 + g 1 - 128) * 64 + g 2 - 128) ∧ (128 ≤ g 1 ∧ g 1 < 192) ∧ (128 ≤ g 2 ∧ g 2 < 192)))) (fun _ i => 3 - (intOf i).toNat)
  case atStart => exact ⟨1, rfl, Or.inl ⟨rfl, rfl, trivial⟩⟩
  case round =>
    obtain ⟨k, rfl, hk⟩ := hrel
    rcases hk.out with ⟨rfl, rfl, hct⟩ | ⟨rfl, rfl, hct⟩ | ⟨rfl, rfl, hct⟩
    · have hix : ∀ w, (Instr.index 9 (.string s) (.int .i64 1)).run Try.prog w = .ok (.int .u8 ((g 1 : Nat) : Int)) w := fun w => HIX.out 1 (by omega) w
      have hbk := HB.out 1 (by omega) (by omega)
      by_cases hq : g 1 < 128
      · have HR : Hid (raV d = .tuple #[.int .i64 (-1), .int .i64 1]) := by
          refine raV_bad ?_
          rw [HD.out]
          have h := dec_three s.size (g 0) (g 1) (g 2) (g 3) ⟨hc1, hc2⟩ hb1 hb2 _ (fun _ _ => rfl)
          rw [h, if_pos (by omega)]
        clear HD HB hb1 hb2 hb3 HIX
        go_wp2
        go_ret2
        exact ⟨by rw [HR.out]; rfl, rfl⟩
      by_cases hq2 : 192 ≤ g 1
      · have HR : Hid (raV d = .tuple #[.int .i64 (-1), .int .i64 1]) := by
          refine raV_bad ?_
          rw [HD.out]
          have h := dec_three s.size (g 0) (g 1) (g 2) (g 3) ⟨hc1, hc2⟩ hb1 hb2 _ (fun _ _ => rfl)
          rw [h, if_pos (by omega)]
        clear HD HB hb1 hb2 hb3 HIX
        go_wp2
        go_ret2
        exact ⟨by rw [HR.out]; rfl, rfl⟩
      have hq1 : 128 ≤ g 1 := by omega
      have hq3 : g 1 < 192 := by omega
      clear hq hq2 HD HB HIX
      go_wp2
      go_round
      case rel => exact ⟨_, _, _, _, ⟨2, rfl, Or.inr (Or.inl (by refine ⟨rfl, ?_⟩; first | rfl | (refine ⟨rfl, ?_⟩; omega)))⟩, rfl, rfl, rfl, rfl⟩
      case measure => simp [intOf]
    · have hix : ∀ w, (Instr.index 9 (.string s) (.int .i64 2)).run Try.prog w = .ok (.int .u8 ((g 2 : Nat) : Int)) w := fun w => HIX.out 2 (by omega) w
      have hbk := HB.out 2 (by omega) (by omega)
      by_cases hq : g 2 < 128
      · have HR : Hid (raV d = .tuple #[.int .i64 (-1), .int .i64 1]) := by
          refine raV_bad ?_
          rw [HD.out]
          have h := dec_three s.size (g 0) (g 1) (g 2) (g 3) ⟨hc1, hc2⟩ hb1 hb2 _ (fun _ _ => rfl)
          rw [h, if_pos (by omega)]
        clear HD HB hb1 hb2 hb3 HIX
        go_wp2
        go_ret2
        exact ⟨by rw [HR.out]; rfl, rfl⟩
      by_cases hq2 : 192 ≤ g 2
      · have HR : Hid (raV d = .tuple #[.int .i64 (-1), .int .i64 1]) := by
          refine raV_bad ?_
          rw [HD.out]
          have h := dec_three s.size (g 0) (g 1) (g 2) (g 3) ⟨hc1, hc2⟩ hb1 hb2 _ (fun _ _ => rfl)
          rw [h, if_pos (by omega)]
        clear HD HB hb1 hb2 hb3 HIX
        go_wp2
        go_ret2
        exact ⟨by rw [HR.out]; rfl, rfl⟩
      have hq1 : 128 ≤ g 2 := by omega
      have hq3 : g 2 < 192 := by omega
      clear hq hq2 HD HB HIX
      go_wp2
      go_round
      case rel => exact ⟨_, _, _, _, ⟨3, rfl, Or.inr (Or.inr ((by refine ⟨rfl, ?_⟩; first | rfl | (refine ⟨rfl, ?_⟩; omega))))⟩, rfl, rfl, rfl, rfl⟩
      case measure => simp [intOf]
    · generalize hcc : ((((g 0 : Int) - 224) * 64 + g 1 - 128) * 64 + g 2 - 128) = c at *
      have HCC := hide hcc
      obtain ⟨cn, rfl⟩ : ∃ cn : Nat, c = cn := ⟨c.toNat, by omega⟩
      have HL : Hid (d = if s.size < 3 ∨ (g 1 < 128 ∨ 192 ≤ g 1) ∨ (g 2 < 128 ∨ 192 ≤ g 2) ∨ (cn < 2048 ∨ 1114111 < cn ∨ (55296 ≤ cn ∧ cn < 57344)) then (65533, 1) else (cn, 3)) := by
        show _ = _
        rw [HD.out]
        exact dec_three s.size (g 0) (g 1) (g 2) (g 3) ⟨hc1, hc2⟩ hb1 hb2 cn (fun _ _ => by omega)
      have hcase : cn < 2048 ∨ (2048 ≤ cn ∧ cn < 55296) ∨ (2048 ≤ cn ∧ 55296 ≤ cn ∧ cn < 57344) ∨ (2048 ≤ cn ∧ 57344 ≤ cn ∧ cn ≤ 1114111) := by omega
      rcases hcase with hv | ⟨hv, hv2⟩ | ⟨hv, hv2, hv3⟩ | ⟨hv, hv2, hv3⟩
      · have HR : Hid (raV d = .tuple #[.int .i64 (-1), .int .i64 1]) := by
          refine raV_bad ?_
          rw [HL.out, if_pos (by omega)]
        clear HL HD HB HIX hct hcc
        go_wp2
        go_ret2
        exact ⟨by rw [HR.out]; rfl, rfl⟩
      · have HR : Hid (raV d = .tuple #[.int .i64 (cn : Int), .int .i64 3]) := by
          refine raV_ok (k := 3) ?_ (by omega)
          rw [HL.out, if_neg (by omega)]
        clear HL HD HB HIX hct hcc
        go_wp2
        go_ret2
        exact ⟨by rw [HR.out]; rfl, rfl⟩
      · have HR : Hid (raV d = .tuple #[.int .i64 (-1), .int .i64 1]) := by
          refine raV_bad ?_
          rw [HL.out, if_pos (by omega)]
        clear HL HD HB HIX hct hcc
        go_wp2
        go_ret2
        exact ⟨by rw [HR.out]; rfl, rfl⟩
      · have HR : Hid (raV d = .tuple #[.int .i64 (cn : Int), .int .i64 3]) := by
          refine raV_ok (k := 3) ?_ (by omega)
          rw [HL.out, if_neg (by omega)]
        clear HL HD HB HIX hct hcc
        go_wp2
        go_ret2
        exact ⟨by rw [HR.out]; rfl, rfl⟩

set_option maxRecDepth 20000 in
set_option maxHeartbeats 4000000 in
theorem runeAt_4 (s : ByteArray) (w : World) (h0 : 0 < s.size) (hm : s.size ≤ 9223372036854775807) (hc1 : 240 ≤ (s.get! 0).toNat) (hc2 : (s.get! 0).toNat < 245) :
    Calls Try.prog 92 #[.string s] w fun e w' => e = .returned (raV (Utf8.decode s 0)) ∧ w = w' := by
  obtain ⟨g, hg⟩ : ∃ g : Nat → Nat, ∀ k, (s.get! k).toNat = g k := ⟨_, fun _ => rfl⟩
  have hix0 : ∀ w, (Instr.index 9 (.string s) (.int .i64 0)).run Try.prog w = .ok (.int .u8 ((g 0 : Nat) : Int)) w := fun w => by rw [← hg 0]; exact index_get s 0 h0 w
  have HIX : Hid (∀ k, k < s.size → ∀ w, (Instr.index 9 (.string s) (.int .i64 (k : Int))).run Try.prog w = .ok (.int .u8 ((g k : Nat) : Int)) w) := fun k hk w => by rw [← hg k]; exact index_get s k hk w
  have hb0 : g 0 < 256 := by rw [← hg 0]; exact UInt8.toNat_lt _
  have hb1 : g 1 < 256 := by rw [← hg 1]; exact UInt8.toNat_lt _
  have hb2 : g 2 < 256 := by rw [← hg 2]; exact UInt8.toNat_lt _
  have hb3 : g 3 < 256 := by rw [← hg 3]; exact UInt8.toNat_lt _
  have HD : Hid (Utf8.decode s 0 = decodeN s.size (g 0) (g 1) (g 2) (g 3)) := by show _ = _; rw [← hg 0, ← hg 1, ← hg 2, ← hg 3]; exact decode_at s 0
  generalize Utf8.decode s 0 = d at *
  rw [hg 0] at hc1 hc2
  clear hg
  have HB : Hid ((∀ k, 0 < k → k < 4 → g k < 256)) := by
    intro k hk hk'
    have : k = 1 ∨ k = 2 ∨ k = 3 := by omega
    rcases this with rfl | rfl | rfl <;> assumption
  have HA : Hid (∀ k : Nat, True) := fun _ => trivial
  clear HA
  by_cases hl : s.size < 4
  · have HR : Hid (raV d = .tuple #[.int .i64 (-1), .int .i64 1]) := by
      refine raV_bad ?_
      rw [HD.out]
      have h := dec_four s.size (g 0) (g 1) (g 2) (g 3) ⟨hc1, hc2⟩ hb1 hb2 hb3 _ (fun _ _ _ => rfl)
      rw [h, if_pos (Or.inl hl)]
    clear HD HB hb1 hb2 hb3
    go_enter Try.func92, Try.ntmps92
    go_wp2
    go_ret2
    exact ⟨by rw [HR.out]; rfl, rfl⟩
  have hl' : 4 ≤ s.size := by omega
  go_enter Try.func92, Try.ntmps92
  go_wp2
  go_loop [4, 7] (fun c i => ∃ k : Nat, i = .int .i64 k ∧ Hid ((k = 1 ∧ c = .int .i64 ((g 0 : Int) - 240) ∧ True) ∨ (k = 2 ∧ c = .int .i64 (((g 0 : Int) - 240) * 64 + g 1 - 128) ∧ (128 ≤ g 1 ∧ g 1 < 192)) ∨ (k = 3 ∧ c = .int .i64 ((((g 0 : Int) - 240) * 64 + g 1 - 128) * 64 + g 2 - 128) ∧ (128 ≤ g 1 ∧ g 1 < 192) ∧ (128 ≤ g 2 ∧ g 2 < 192)) ∨ (k = 4 ∧ c = .int .i64 (((((g 0 : Int) - 240) * 64 + g 1 - 128) * 64 + g 2 - 128) * 64 + g 3 - 128) ∧ (128 ≤ g 1 ∧ g 1 < 192) ∧ (128 ≤ g 2 ∧ g 2 < 192) ∧ (128 ≤ g 3 ∧ g 3 < 192)))) (fun _ i => 4 - (intOf i).toNat)
  case atStart => exact ⟨1, rfl, Or.inl ⟨rfl, rfl, trivial⟩⟩
  case round =>
    obtain ⟨k, rfl, hk⟩ := hrel
    rcases hk.out with ⟨rfl, rfl, hct⟩ | ⟨rfl, rfl, hct⟩ | ⟨rfl, rfl, hct⟩ | ⟨rfl, rfl, hct⟩
    · have hix : ∀ w, (Instr.index 9 (.string s) (.int .i64 1)).run Try.prog w = .ok (.int .u8 ((g 1 : Nat) : Int)) w := fun w => HIX.out 1 (by omega) w
      have hbk := HB.out 1 (by omega) (by omega)
      by_cases hq : g 1 < 128
      · have HR : Hid (raV d = .tuple #[.int .i64 (-1), .int .i64 1]) := by
          refine raV_bad ?_
          rw [HD.out]
          have h := dec_four s.size (g 0) (g 1) (g 2) (g 3) ⟨hc1, hc2⟩ hb1 hb2 hb3 _ (fun _ _ _ => rfl)
          rw [h, if_pos (by omega)]
        clear HD HB hb1 hb2 hb3 HIX
        go_wp2
        go_ret2
        exact ⟨by rw [HR.out]; rfl, rfl⟩
      by_cases hq2 : 192 ≤ g 1
      · have HR : Hid (raV d = .tuple #[.int .i64 (-1), .int .i64 1]) := by
          refine raV_bad ?_
          rw [HD.out]
          have h := dec_four s.size (g 0) (g 1) (g 2) (g 3) ⟨hc1, hc2⟩ hb1 hb2 hb3 _ (fun _ _ _ => rfl)
          rw [h, if_pos (by omega)]
        clear HD HB hb1 hb2 hb3 HIX
        go_wp2
        go_ret2
        exact ⟨by rw [HR.out]; rfl, rfl⟩
      have hq1 : 128 ≤ g 1 := by omega
      have hq3 : g 1 < 192 := by omega
      clear hq hq2 HD HB HIX
      go_wp2
      go_round
      case rel => exact ⟨_, _, _, _, ⟨2, rfl, Or.inr (Or.inl (by refine ⟨rfl, ?_⟩; first | rfl | (refine ⟨rfl, ?_⟩; omega)))⟩, rfl, rfl, rfl, rfl⟩
      case measure => simp [intOf]
    · have hix : ∀ w, (Instr.index 9 (.string s) (.int .i64 2)).run Try.prog w = .ok (.int .u8 ((g 2 : Nat) : Int)) w := fun w => HIX.out 2 (by omega) w
      have hbk := HB.out 2 (by omega) (by omega)
      by_cases hq : g 2 < 128
      · have HR : Hid (raV d = .tuple #[.int .i64 (-1), .int .i64 1]) := by
          refine raV_bad ?_
          rw [HD.out]
          have h := dec_four s.size (g 0) (g 1) (g 2) (g 3) ⟨hc1, hc2⟩ hb1 hb2 hb3 _ (fun _ _ _ => rfl)
          rw [h, if_pos (by omega)]
        clear HD HB hb1 hb2 hb3 HIX
        go_wp2
        go_ret2
        exact ⟨by rw [HR.out]; rfl, rfl⟩
      by_cases hq2 : 192 ≤ g 2
      · have HR : Hid (raV d = .tuple #[.int .i64 (-1), .int .i64 1]) := by
          refine raV_bad ?_
          rw [HD.out]
          have h := dec_four s.size (g 0) (g 1) (g 2) (g 3) ⟨hc1, hc2⟩ hb1 hb2 hb3 _ (fun _ _ _ => rfl)
          rw [h, if_pos (by omega)]
        clear HD HB hb1 hb2 hb3 HIX
        go_wp2
        go_ret2
        exact ⟨by rw [HR.out]; rfl, rfl⟩
      have hq1 : 128 ≤ g 2 := by omega
      have hq3 : g 2 < 192 := by omega
      clear hq hq2 HD HB HIX
      go_wp2
      go_round
      case rel => exact ⟨_, _, _, _, ⟨3, rfl, Or.inr (Or.inr (Or.inl (by refine ⟨rfl, ?_⟩; first | rfl | (refine ⟨rfl, ?_⟩; omega))))⟩, rfl, rfl, rfl, rfl⟩
      case measure => simp [intOf]
    · have hix : ∀ w, (Instr.index 9 (.string s) (.int .i64 3)).run Try.prog w = .ok (.int .u8 ((g 3 : Nat) : Int)) w := fun w => HIX.out 3 (by omega) w
      have hbk := HB.out 3 (by omega) (by omega)
      by_cases hq : g 3 < 128
      · have HR : Hid (raV d = .tuple #[.int .i64 (-1), .int .i64 1]) := by
          refine raV_bad ?_
          rw [HD.out]
          have h := dec_four s.size (g 0) (g 1) (g 2) (g 3) ⟨hc1, hc2⟩ hb1 hb2 hb3 _ (fun _ _ _ => rfl)
          rw [h, if_pos (by omega)]
        clear HD HB hb1 hb2 hb3 HIX
        go_wp2
        go_ret2
        exact ⟨by rw [HR.out]; rfl, rfl⟩
      by_cases hq2 : 192 ≤ g 3
      · have HR : Hid (raV d = .tuple #[.int .i64 (-1), .int .i64 1]) := by
          refine raV_bad ?_
          rw [HD.out]
          have h := dec_four s.size (g 0) (g 1) (g 2) (g 3) ⟨hc1, hc2⟩ hb1 hb2 hb3 _ (fun _ _ _ => rfl)
          rw [h, if_pos (by omega)]
        clear HD HB hb1 hb2 hb3 HIX
        go_wp2
        go_ret2
        exact ⟨by rw [HR.out]; rfl, rfl⟩
      have hq1 : 128 ≤ g 3 := by omega
      have hq3 : g 3 < 192 := by omega
      clear hq hq2 HD HB HIX
      go_wp2
      go_round
      case rel => exact ⟨_, _, _, _, ⟨4, rfl, Or.inr (Or.inr (Or.inr ((by refine ⟨rfl, ?_⟩; first | rfl | (refine ⟨rfl, ?_⟩; omega)))))⟩, rfl, rfl, rfl, rfl⟩
      case measure => simp [intOf]
    · generalize hcc : (((((g 0 : Int) - 240) * 64 + g 1 - 128) * 64 + g 2 - 128) * 64 + g 3 - 128) = c at *
      have HCC := hide hcc
      obtain ⟨cn, rfl⟩ : ∃ cn : Nat, c = cn := ⟨c.toNat, by omega⟩
      have HL : Hid (d = if s.size < 4 ∨ (g 1 < 128 ∨ 192 ≤ g 1) ∨ (g 2 < 128 ∨ 192 ≤ g 2) ∨ (g 3 < 128 ∨ 192 ≤ g 3) ∨ (cn < 65536 ∨ 1114111 < cn ∨ (55296 ≤ cn ∧ cn < 57344)) then (65533, 1) else (cn, 4)) := by
        show _ = _
        rw [HD.out]
        exact dec_four s.size (g 0) (g 1) (g 2) (g 3) ⟨hc1, hc2⟩ hb1 hb2 hb3 cn (fun _ _ _ => by omega)
      have hcase : cn < 65536 ∨ (65536 ≤ cn ∧ cn ≤ 1114111) ∨ (65536 ≤ cn ∧ 1114111 < cn) := by omega
      rcases hcase with hv | ⟨hv, hv2⟩ | ⟨hv, hv2⟩
      · have HR : Hid (raV d = .tuple #[.int .i64 (-1), .int .i64 1]) := by
          refine raV_bad ?_
          rw [HL.out, if_pos (by omega)]
        clear HL HD HB HIX hct hcc
        go_wp2
        go_ret2
        exact ⟨by rw [HR.out]; rfl, rfl⟩
      · have hv3 : 57344 ≤ cn := by omega
        have HR : Hid (raV d = .tuple #[.int .i64 (cn : Int), .int .i64 4]) := by
          refine raV_ok (k := 4) ?_ (by omega)
          rw [HL.out, if_neg (by omega)]
        clear HL HD HB HIX hct hcc
        go_wp2
        go_ret2
        exact ⟨by rw [HR.out]; rfl, rfl⟩
      · have HR : Hid (raV d = .tuple #[.int .i64 (-1), .int .i64 1]) := by
          refine raV_bad ?_
          rw [HL.out, if_pos (by omega)]
        clear HL HD HB HIX hct hcc
        go_wp2
        go_ret2
        exact ⟨by rw [HR.out]; rfl, rfl⟩

theorem runeAt_any (s : ByteArray) (w : World) (h0 : 0 < s.size) (hm : s.size ≤ 9223372036854775807) :
    Calls Try.prog 92 #[.string s] w fun e w' => e = .returned (raV (Utf8.decode s 0)) ∧ w = w' := by
  have hcase : (s.get! 0).toNat < 128 ∨ ((128 ≤ (s.get! 0).toNat ∧ (s.get! 0).toNat < 194) ∨ 245 ≤ (s.get! 0).toNat) ∨ (194 ≤ (s.get! 0).toNat ∧ (s.get! 0).toNat < 224) ∨ (224 ≤ (s.get! 0).toNat ∧ (s.get! 0).toNat < 240) ∨ (240 ≤ (s.get! 0).toNat ∧ (s.get! 0).toNat < 245) := by omega
  rcases hcase with h | h | ⟨h1, h2⟩ | ⟨h1, h2⟩ | ⟨h1, h2⟩
  · exact runeAt_one s w h0 h
  · exact runeAt_none s w h0 h
  · exact runeAt_2 s w h0 hm h1 h2
  · exact runeAt_3 s w h0 hm h1 h2
  · exact runeAt_4 s w h0 hm h1 h2

end Go.Proofs.Ytoiiadiimfohiaa

/- Contracts: strings.IndexByte, unicode/utf8.ValidRune, strings.IndexRune at the signs. -/
namespace Go.Proofs.Ytoiiadiimfohiaa
open Go.RowKit
set_option maxRecDepth 20000

theorem indexByte_none' : ∀ (l : List UInt8) (c : UInt8), (∀ b ∈ l, b ≠ c) → Go.Lib.indexByte l c = -1
  | [], _, _ => rfl
  | b :: l, c, h => by
    have h1 : (b == c) = false := by rw [beq_eq_false_iff_ne]; exact h b (by simp)
    have h2 := indexByte_none' l c (fun b hb => h b (List.mem_cons_of_mem _ hb))
    simp [Go.Lib.indexByte, h1, h2]

/-- Which sign a rune is; -1: none. -/
def si (c : Nat) : Int := if c < 128 then Go.Lib.indexByte [49, 50, 51, 52, 53, 54, 55, 56, 57, 48, 69, 84] c.toUInt8 else -1

end Go.Proofs.Ytoiiadiimfohiaa

/- append, and where the new slice lies. -/
namespace Go.Proofs.Ytoiiadiimfohiaa
open Go.RowKit

theorem run_append_keep {P : Program} (w : World) (base : Nat) (t ty e : TypeId) (i : TypeInfo) (z : Value) (size bytes : Nat) (ht : P.underlying t = some (.slice e)) (hi : P.info? e = some i) (hz : i.zero = some z)
    (hsize : i.size = size) (hby : i.bytes = bytes) (hzs : z.cells.size = size) (hsz : 0 < size)
    (v : Value) (n : Nat) (xs : List Value) (hown : w.ownsRow base e size v n xs)
    (a : Addr) (m c : Nat) (news : List Value) (hl : news.length = m * size) (hnews : ∀ j u, news[j]? = some u → w.cell? (a.add j) = some u) (h1 : ∀ u ∈ news, u.oneCell' = true)
    (h63 : n + m ≤ maxLen) (hbytes : (n + m) * bytes ≤ 140737488355328) (hbase : base ≤ w.heap.size) :
    ∃ v' w', (Builtin.append_ #[t, t] ty #[v, .slice (some a) m c]).run P w = .ok v' w' ∧ w'.ownsRow base e size v' (n + m) (xs ++ news) ∧ w.grownBy w' v.ownBlock ∧
      (v'.ownBlock = v.ownBlock ∨ (v'.ownBlock = some w.heap.size ∧ w.grownBy w' none)) := by
  obtain ⟨v', w', hr, h2, h3, _, h5⟩ := run_append_own_at (P := P) w base t ty e i z size bytes ht hi hz hsize hby hzs hsz v n xs hown a m c news hl hnews h1 h63 hbytes hbase
  refine ⟨v', w', hr, h2, h3, ?_⟩
  subst hsize
  subst hby
  rcases hown.2 with ⟨rfl, rfl⟩ | ⟨g, cap, cur, rfl, hbg, hg, hnc, hcm, hcs, htake⟩
  · exact h5.imp id (fun h => ⟨h, h3⟩)
  · by_cases hroom : n + m ≤ cap
    · have hfit : n * i.size + news.length ≤ cur.size := by rw [hl, hcs, ← Nat.add_mul]; exact Nat.mul_le_mul_right _ hroom
      have hr' := run_append_room (P := P) w t ty e i ht hi g n cap cur hg a m c news hl hnews h1 hroom hfit
      rw [hr] at hr'
      obtain ⟨e1, _⟩ := Result.ok.inj hr'
      left; rw [e1]; rfl
    · have holds : ∀ j u, xs[j]? = some u → w.cell? ((⟨g, 0, none⟩ : Addr).add j) = some u := hown.cells (g := g) rfl
      have hsmall : n + m ≤ 9223372036854775807 := by simp only [maxLen] at h63; omega
      have hr' := run_append_grow (P := P) w t ty e i z ht hi hz ⟨g, 0, none⟩ n cap xs hown.1 holds a m c news hl hnews (by omega) (by omega) (growslice_fits (by omega) hbytes)
      rw [hr] at hr'
      obtain ⟨e1, e2⟩ := Result.ok.inj hr'
      right
      rw [e1, e2]
      exact ⟨rfl, ⟨rfl, rfl, rfl, by simp, fun k hk _ => Below.heap_alloc w.drew _ k hk⟩⟩

theorem wpList_append_keep {P : Program} (w : World) {ops : Array Oper} {rest : List Oper} {o : Oper} {a : Act} {Q : Exit → Act → World → Prop} (hgd : o.guard = none) (s x : Operand) (t : TypeId)
    (ho : o.op = .call { callee := .builtin .append, args := #[s, x], argTypes := #[t, t] })
    (base : Nat) (e : TypeId) (i : TypeInfo) (z : Value) (size bytes : Nat) (ht : P.underlying t = some (.slice e)) (hi : P.info? e = some i) (hz : i.zero = some z)
    (hsize : i.size = size) (hby : i.bytes = bytes) (hzs : z.cells.size = size) (hsz : 0 < size)
    (v : Value) (n : Nat) (xs : List Value) (hs : a.eval s = v) (hown : w.ownsRow base e size v n xs)
    (ad : Addr) (m c : Nat) (news : List Value) (hx : a.eval x = .slice (some ad) m c) (hl : news.length = m * size) (hnews : ∀ j u, news[j]? = some u → w.cell? (ad.add j) = some u) (h1 : ∀ u ∈ news, u.oneCell' = true)
    (h63 : n + m ≤ maxLen) (hbytes : (n + m) * bytes ≤ 140737488355328) (hbase : base ≤ w.heap.size)
    (h : ∀ v' w', w'.ownsRow base e size v' (n + m) (xs ++ news) → w.grownBy w' v.ownBlock → (v'.ownBlock = v.ownBlock ∨ (v'.ownBlock = some w.heap.size ∧ w.grownBy w' none)) → wpList P ops Q rest (a.put o.dst v') w') :
    wpList P ops Q (o :: rest) a w := by
  refine wpList_plain hgd fun K hK => ?_
  obtain ⟨v', w', hr, h2, h3, h4⟩ := run_append_keep (P := P) w base t o.type e i z size bytes ht hi hz hsize hby hzs hsz v n xs hown ad m c news hl hnews h1 h63 hbytes hbase
  unfold Oper.wp execOp
  simp only [ho, resolve, invoke, builtin, Sem.run_bind, Sem.run_pure, Result.andThen_ok, List.map_toArray, List.map_cons, List.map_nil, hs, hx, hr]
  exact hK _ _ (h v' w' h2 h3 h4)

/-- .. as one step of a region that draws. -/
theorem step_append_keep {P : Program} {ops : Array Oper} {o : Oper} {a : Act} {w : World} {K : Act → World → Prop} {Q : Exit → Act → World → Prop} {E : Prop} (hg : o.guard = none) (s x : Operand) (t : TypeId)
    (ho : o.op = .call { callee := .builtin .append, args := #[s, x], argTypes := #[t, t] })
    (base : Nat) (e : TypeId) (i : TypeInfo) (z : Value) (size bytes : Nat) (ht : P.underlying t = some (.slice e)) (hi : P.info? e = some i) (hz : i.zero = some z)
    (hsize : i.size = size) (hby : i.bytes = bytes) (hzs : z.cells.size = size) (hsz : 0 < size)
    (v : Value) (n : Nat) (xs : List Value) (hs : a.eval s = v) (hown : w.ownsRow base e size v n xs)
    (ad : Addr) (m c : Nat) (news : List Value) (hx : a.eval x = .slice (some ad) m c) (hl : news.length = m * size) (hnews : ∀ j u, news[j]? = some u → w.cell? (ad.add j) = some u) (h1 : ∀ u ∈ news, u.oneCell' = true)
    (h63 : n + m ≤ maxLen) (hbytes : (n + m) * bytes ≤ 140737488355328) (hbase : base ≤ w.heap.size)
    (h : ∀ v' w', w'.ownsRow base e size v' (n + m) (xs ++ news) → w.grownBy w' v.ownBlock → (v'.ownBlock = v.ownBlock ∨ (v'.ownBlock = some w.heap.size ∧ w.grownBy w' none)) → K (a.put o.dst v') w') :
    if Region.wanted o (yielded ops a.tmps) = true then Oper.wp P o a w K Q else E := by
  have hw : Region.wanted o (yielded ops a.tmps) = true := by simp [Region.wanted, hg]
  rw [if_pos hw]
  obtain ⟨v', w', hr, h2, h3, h4⟩ := run_append_keep (P := P) w base t o.type e i z size bytes ht hi hz hsize hby hzs hsz v n xs hown ad m c news hl hnews h1 h63 hbytes hbase
  unfold Oper.wp execOp
  simp only [ho, resolve, invoke, builtin, Sem.run_bind, Sem.run_pure, Result.andThen_ok, List.map_toArray, List.map_cons, List.map_nil, hs, hx, hr]
  exact h v' w' h2 h3 h4

end Go.Proofs.Ytoiiadiimfohiaa

/- Contracts: the answer's runes, bell. -/
namespace Go.Proofs.Ytoiiadiimfohiaa
open Go.RowKit

/-- A string's length. -/
def strLen : Value → Nat
  | .string s => s.size
  | _ => 0

theorem whole_str (s : ByteArray) : s.extract 0 s.size = s := by
  apply ByteArray.ext
  simp only [ByteArray.data_extract]
  exact Array.extract_size

set_option maxRecDepth 20000 in
set_option maxHeartbeats 4000000 in
theorem runes_any (s : ByteArray) (w : World) (hs : s.size ≤ 1048576) :
    Calls Try.prog 64 #[.string s] w fun e w' => ∃ v, e = .returned v ∧ w'.ownsRow w.heap.size 3 1 v (arunes s).length ((arunes s).map (Value.int .i64)) ∧ Below w.heap.size w w' := by
  obtain ⟨i0, hi, hz0, hz1, hz2⟩ := info_parts Try.info3
  go_enter Try.func64, Try.ntmps64
  go_wp2
  go_loopw [0, 3] (fun t v wr => ∃ (pos : Nat) (pre : List Int), pos ≤ s.size ∧ Hid (t = .string (s.extract pos s.size)) ∧ Hid (ARunesTo s pre pos) ∧ wr.ownsRow w.heap.size 3 1 v pre.length (pre.map (Value.int .i64)) ∧ Below w.heap.size w wr) (fun t _ _ => strLen t)
  case atStart => exact ⟨0, [], by omega, by show _ = _; rw [whole_str], arunesTo_start s, World.ownsRow_nil _ _ _ _, Below.refl _ _⟩
  case round =>
    obtain ⟨pos, pre, hpos, ht, hA, hown, hbw⟩ := hrel
    have ht' := ht.out
    clear ht
    subst ht'
    have hbs := hbw.size
    have hpl := hA.out.len
    have hts : (s.extract pos s.size).size = s.size - pos := by simp
    have HP := hide (fun k => piece_piece s pos k)
    by_cases hlt : pos < s.size
    · have HDE := hide (decode_piece s pos)
      have hdw := decode_width s pos hlt
      have HN := hide (hA.out.next hlt)
      generalize hT : s.extract pos s.size = t at *
      have HR := hide (runeAt_any t wr (by omega) (by omega))
      rw [HDE.out] at HR
      unfold raV at HR
      generalize Utf8.decode s pos = d at *
      generalize ar d = c at *
      obtain ⟨d1, k⟩ := d
      simp only at hdw HN HR
      clear hA HDE hT
      go_wp2_with fail
      refine HR.out.mono ?_
      rintro e w1 ⟨rfl, rfl⟩
      go_wp2_with (at_builtin; refine wpList_append_own _ rfl _ _ 26 rfl w.heap.size 3 i0 (.int .i64 0) 1 8 Try.underlying26 hi hz0 hz1 hz2 rfl (by decide) _ _ _ rfl (hown.alloc _) ⟨wr.heap.size, 0, none⟩ 1 1 [.int .i64 c] rfl rfl ?c1 ?c2 ?c3 ?c4 ?c5 ?_)
      case c1 => exact cell_one_new _ _ _
      case c2 => intro u hu; simp at hu; subst hu; rfl
      case c3 => unfold maxLen; omega
      case c4 => omega
      case c5 => simp; omega
      · intro v' w1 hown' hgrow _
        have hBn := (hbw.alloc hbw.size (.cells #[.int .i64 c] 3)).grown hgrow (by simp; omega) (fun g hg => (hown.lt g hg).1)
        have HOW : Hid (w1.ownsRow w.heap.size 3 1 v' (pre ++ [c]).length ((pre ++ [c]).map (Value.int .i64))) := by
          show World.ownsRow _ _ _ _ _ _ _
          rw [List.length_append, List.map_append]; exact hown'
        have hk1 : k ≤ t.size := by omega
        have hk2 : (k : Int).toNat = k := by omega
        clear hown hown' hgrow
        go_wp2
        go_roundw
        case rel => exact ⟨pos + k, pre ++ [c], by omega, by show _ = _; rw [← HP.out k, hts], HN, HOW.out, hBn⟩
        case measure => simp [strLen]; omega
    · generalize s.extract pos s.size = t at *
      have HE : Hid (arunes s = pre) := hA.out.done hlt
      have ht0 : t.size = 0 := by omega
      clear hA
      go_wp2
      go_ret
      exact ⟨_, rfl, by rw [HE.out]; exact hown, hbw⟩

set_option maxRecDepth 100000 in
theorem si_bl : ∀ c : Fin 128, si c.val = if bl c.val.toUInt8 < 12 then ((bl c.val.toUInt8 : Nat) : Int) else -1 := by decide

theorem si_high {c : Nat} (h : 127 < c) : si c = -1 := by unfold si; rw [if_neg (by omega)]

/-- The bell of a rune, as the answer tells it. -/
def sa (c : Int) : Int := if 0 ≤ c then si c.toNat else -1

end Go.Proofs.Ytoiiadiimfohiaa

/- Contract: the answer's IsName. -/
namespace Go.Proofs.Ytoiiadiimfohiaa
open Go.RowKit
set_option maxRecDepth 20000
set_option linter.unusedVariables false

/-- A rune that may stand in a name. -/
def okR (c : Int) : Bool := decide ((65 ≤ c ∧ c ≤ 90) ∨ (97 ≤ c ∧ c ≤ 122) ∨ (48 ≤ c ∧ c ≤ 57) ∨ c = 32 ∨ (192 ≤ c ∧ c ≤ 382 ∧ c ≠ 215 ∧ c ≠ 247))

/-- A name, by its runes. -/
def isN (l : List Int) : Bool := decide (1 ≤ l.length ∧ l.length ≤ 20 ∧ l.getD 0 0 ≠ 32 ∧ l.getD (l.length - 1) 0 ≠ 32) && l.all okR

theorem isN_bad {l : List Int} {k : Nat} (hk : k < l.length) (h : okR (l.getD k 0) = false) : isN l = false := by
  unfold isN
  have : l.all okR = false := by
    rw [List.all_eq_false]
    refine ⟨l[k], List.getElem_mem hk, ?_⟩
    have e : l.getD k 0 = l[k] := by simp [List.getD, hk]
    rw [e] at h
    simp [h]
  rw [this, Bool.and_false]

theorem isN_good {l : List Int} (h1 : 1 ≤ l.length ∧ l.length ≤ 20 ∧ l.getD 0 0 ≠ 32 ∧ l.getD (l.length - 1) 0 ≠ 32) (h : ∀ k, k < l.length → okR (l.getD k 0) = true) : isN l = true := by
  unfold isN
  rw [decide_eq_true h1, Bool.true_and, List.all_eq_true]
  intro x hx
  obtain ⟨k, hk, rfl⟩ := List.getElem_of_mem hx
  have := h k hk
  have e : l.getD k 0 = l[k] := by simp [List.getD, hk]
  rw [e] at this
  exact this

theorem isN_form {l : List Int} (h1 : ¬ (1 ≤ l.length ∧ l.length ≤ 20 ∧ l.getD 0 0 ≠ 32 ∧ l.getD (l.length - 1) 0 ≠ 32)) : isN l = false := by
  unfold isN
  rw [decide_eq_false h1, Bool.false_and]

set_option maxHeartbeats 8000000 in
theorem isName_any (s : ByteArray) (w : World) (hs : s.size ≤ 1048576) :
    Calls Try.prog 35 #[.string s] w fun e w' => e = .returned (.bool (isN (arunes s))) ∧ Below w.heap.size w w' := by
  have HR := hide (runes_any s w hs)
  generalize arunes s = l at *
  by_cases hl0 : l.length = 0
  · have HN : Hid (isN l = false) := isN_form (by omega)
    rw [HN.out]
    go_enter Try.func35, Try.ntmps35
    go_wp2_with fail
    refine HR.out.mono ?_
    rintro e w1 ⟨v, rfl, hown, hb1⟩
    obtain ⟨p, c, rfl⟩ : ∃ p c, v = .slice p 0 c := by
      rw [hl0] at hown
      rcases hown.2 with ⟨e, _⟩ | ⟨g, c, cur, e, _⟩
      · exact ⟨_, _, e⟩
      · exact ⟨_, _, e⟩
    clear hown
    go_wp2
    go_ret
    exact ⟨rfl, hb1⟩
  · by_cases hl20 : 20 < l.length
    · have HN : Hid (isN l = false) := isN_form (by omega)
      rw [HN.out]
      obtain ⟨m, hm⟩ : ∃ m, Hid (l.length = m) := ⟨_, rfl⟩
      go_enter Try.func35, Try.ntmps35
      go_wp2_with fail
      refine HR.out.mono ?_
      rintro e w1 ⟨v, rfl, hown, hb1⟩
      obtain ⟨g, c, rfl, hg1, hg2, hc1, hc2⟩ := owns_form hown (by omega)
      clear hown
      have hm2 : 20 < m := by rw [← hm.out]; exact hl20
      rw [hm.out] at *
      have hm3 : m ≤ 9223372036854775807 := by omega
      go_wp2
      go_ret
      exact ⟨rfl, hb1⟩
    · obtain ⟨m, hm⟩ : ∃ m, Hid (l.length = m) := ⟨_, rfl⟩
      have hm1 : 1 ≤ m := by rw [← hm.out]; omega
      have hm2 : m ≤ 20 := by rw [← hm.out]; omega
      obtain ⟨km, hkm⟩ : ∃ km, m = km + 1 := ⟨m - 1, by omega⟩
      obtain ⟨x0, hx0⟩ : ∃ y, Hid (l.getD 0 0 = y) := ⟨_, rfl⟩
      obtain ⟨x9, hx9⟩ : ∃ y, Hid (l.getD (l.length - 1) 0 = y) := ⟨_, rfl⟩
      have HB := fun k (hk : k < m) (h : okR (l.getD k 0) = false) => hide (isN_bad (l := l) (k := k) (by rw [hm.out]; exact hk) h)
      have HF := fun (h1 : ¬ (x0 ≠ 32 ∧ x9 ≠ 32)) => hide (isN_form (l := l) (by rw [hx0.out, hx9.out]; exact fun e => h1 e.2.2))
      have HG := fun (h1 : x0 ≠ 32 ∧ x9 ≠ 32) (h : ∀ k, k < m → okR (l.getD k 0) = true) => hide (isN_good (l := l) ⟨by rw [hm.out]; exact hm1, by rw [hm.out]; exact hm2, by rw [hx0.out]; exact h1.1, by rw [hx9.out]; exact h1.2⟩ (by rw [hm.out]; exact h))
      generalize isN l = R at *
      go_enter Try.func35, Try.ntmps35
      go_wp2_with fail
      refine HR.out.mono ?_
      rintro e w1 ⟨v, rfl, hown, hb1⟩
      rw [hm.out] at hown
      obtain ⟨g, c, rfl, hg1, hg2, hc1, hc2⟩ := owns_form hown (by omega)
      have HC : Hid (∀ j, j < m → w1.cell? ⟨g, j, none⟩ = some (.int .i64 (l.getD j 0))) := fun j hj => (owns_cell hown hj).1
      have c0 : w1.cell? ⟨g, 0, none⟩ = some (.int .i64 x0) := by rw [HC.out 0 (by omega), hx0.out]
      have c9 : w1.cell? ⟨g, km, none⟩ = some (.int .i64 x9) := by rw [HC.out km (by omega), ← hx9.out, hm.out, hkm]; rfl
      clear hown HR
      by_cases h0 : x0 = 32
      · have HF := HF (fun e => e.1 h0)
        subst hkm
        go_wp2
        go_ret
        exact ⟨by rw [HF.out]; rfl, hb1⟩
      · by_cases h9 : x9 = 32
        · have HF := HF (fun e => e.2 h9)
          subst hkm
          go_wp2
          go_ret
          exact ⟨by rw [HF.out]; rfl, hb1⟩
        · have HG := HG ⟨h0, h9⟩
          clear HF
          have b0 : (x0 == 32) = false := by simpa using h0
          have b9 : (x9 == 32) = false := by simpa using h9
          subst hkm
          go_wp2
          go_loop [4] (fun i => ∃ k : Nat, k ≤ km + 1 ∧ i = .int .i64 k ∧ Hid (∀ j, j < k → okR (l.getD j 0) = true)) (fun i => km + 1 - (intOf i).toNat)
          case atStart => exact ⟨0, by omega, rfl, fun j hj => absurd hj (Nat.not_lt_zero j)⟩
          case round =>
            obtain ⟨k, hk, rfl, hi⟩ := hrel
            clear c0 c9 h0 h9 b0 b9
            by_cases hlt : k < km + 1
            · have hcx := HC.out k hlt
              have HBk := HB k hlt
              have HK : okR (l.getD k 0) = true → Hid (∀ j, j < k + 1 → okR (l.getD j 0) = true) := fun h j hj => by
                rcases Nat.lt_or_ge j k with h1 | h1
                · exact hi.out j h1
                · rw [show j = k by omega]; exact h
              generalize l.getD k 0 = x at *
              clear HG HB HC hx0 hx9
              by_cases d0 : 65 ≤ x ∧ x ≤ 90
              · have e0 : 65 ≤ x := by omega
                have e1 : x ≤ 90 := by omega
                have hp := HK (by unfold okR; exact decide_eq_true (by omega))
                clear HK HBk hi d0
                go_wp2
                go_round
                case rel => exact ⟨k + 1, by omega, by go_num, hp⟩
                case measure => simp [intOf]; omega
              by_cases d1 : 97 ≤ x ∧ x ≤ 122
              · have e0 : 65 ≤ x := by omega
                have e1 : ¬ x ≤ 90 := by omega
                have e2 : 97 ≤ x := by omega
                have e3 : x ≤ 122 := by omega
                have hp := HK (by unfold okR; exact decide_eq_true (by omega))
                clear HK HBk hi d0 d1
                go_wp2
                go_round
                case rel => exact ⟨k + 1, by omega, by go_num, hp⟩
                case measure => simp [intOf]; omega
              by_cases d2 : 122 < x ∧ x < 192
              · have e0 : 65 ≤ x := by omega
                have e1 : ¬ x ≤ 90 := by omega
                have e2 : 97 ≤ x := by omega
                have e3 : ¬ x ≤ 122 := by omega
                have e4 : 48 ≤ x := by omega
                have e5 : ¬ x ≤ 57 := by omega
                have e6 : (x == 32) = false := by simp; omega
                have e7 : x < 192 := by omega
                have hp := HBk (by unfold okR; exact decide_eq_false (by omega))
                clear HK HBk hi d0 d1 d2
                go_wp2
                go_ret
                exact ⟨ret_bool hp.out.symm, hb1⟩
              by_cases d3 : 382 < x
              · have e0 : 65 ≤ x := by omega
                have e1 : ¬ x ≤ 90 := by omega
                have e2 : 97 ≤ x := by omega
                have e3 : ¬ x ≤ 122 := by omega
                have e4 : 48 ≤ x := by omega
                have e5 : ¬ x ≤ 57 := by omega
                have e6 : (x == 32) = false := by simp; omega
                have e7 : ¬ x < 192 := by omega
                have e8 : 382 < x := by omega
                have hp := HBk (by unfold okR; exact decide_eq_false (by omega))
                clear HK HBk hi d0 d1 d2 d3
                go_wp2
                go_ret
                exact ⟨ret_bool hp.out.symm, hb1⟩
              by_cases d4 : x = 215
              · have e0 : 65 ≤ x := by omega
                have e1 : ¬ x ≤ 90 := by omega
                have e2 : 97 ≤ x := by omega
                have e3 : ¬ x ≤ 122 := by omega
                have e4 : 48 ≤ x := by omega
                have e5 : ¬ x ≤ 57 := by omega
                have e6 : (x == 32) = false := by simp; omega
                have e7 : ¬ x < 192 := by omega
                have e8 : ¬ 382 < x := by omega
                have e9 : (x == 215) = true := by simp; omega
                have hp := HBk (by unfold okR; exact decide_eq_false (by omega))
                clear HK HBk hi d0 d1 d2 d3 d4
                go_wp2
                go_ret
                exact ⟨ret_bool hp.out.symm, hb1⟩
              by_cases d5 : x = 247
              · have e0 : 65 ≤ x := by omega
                have e1 : ¬ x ≤ 90 := by omega
                have e2 : 97 ≤ x := by omega
                have e3 : ¬ x ≤ 122 := by omega
                have e4 : 48 ≤ x := by omega
                have e5 : ¬ x ≤ 57 := by omega
                have e6 : (x == 32) = false := by simp; omega
                have e7 : ¬ x < 192 := by omega
                have e8 : ¬ 382 < x := by omega
                have e9 : (x == 215) = false := by simp; omega
                have e10 : (x == 247) = true := by simp; omega
                have hp := HBk (by unfold okR; exact decide_eq_false (by omega))
                clear HK HBk hi d0 d1 d2 d3 d4 d5
                go_wp2
                go_ret
                exact ⟨ret_bool hp.out.symm, hb1⟩
              by_cases d6 : 192 ≤ x
              · have e0 : 65 ≤ x := by omega
                have e1 : ¬ x ≤ 90 := by omega
                have e2 : 97 ≤ x := by omega
                have e3 : ¬ x ≤ 122 := by omega
                have e4 : 48 ≤ x := by omega
                have e5 : ¬ x ≤ 57 := by omega
                have e6 : (x == 32) = false := by simp; omega
                have e7 : ¬ x < 192 := by omega
                have e8 : ¬ 382 < x := by omega
                have e9 : (x == 215) = false := by simp; omega
                have e10 : (x == 247) = false := by simp; omega
                have hp := HK (by unfold okR; exact decide_eq_true (by omega))
                clear HK HBk hi d0 d1 d2 d3 d4 d5 d6
                go_wp2
                go_round
                case rel => exact ⟨k + 1, by omega, by go_num, hp⟩
                case measure => simp [intOf]; omega
              by_cases d7 : 90 < x
              · have e0 : 65 ≤ x := by omega
                have e1 : ¬ x ≤ 90 := by omega
                have e2 : ¬ 97 ≤ x := by omega
                have e3 : 48 ≤ x := by omega
                have e4 : ¬ x ≤ 57 := by omega
                have e5 : (x == 32) = false := by simp; omega
                have e6 : x < 192 := by omega
                have hp := HBk (by unfold okR; exact decide_eq_false (by omega))
                clear HK HBk hi d0 d1 d2 d3 d4 d5 d6 d7
                go_wp2
                go_ret
                exact ⟨ret_bool hp.out.symm, hb1⟩
              by_cases d8 : 48 ≤ x ∧ x ≤ 57
              · have e0 : ¬ 65 ≤ x := by omega
                have e1 : ¬ 97 ≤ x := by omega
                have e2 : 48 ≤ x := by omega
                have e3 : x ≤ 57 := by omega
                have hp := HK (by unfold okR; exact decide_eq_true (by omega))
                clear HK HBk hi d0 d1 d2 d3 d4 d5 d6 d7 d8
                go_wp2
                go_round
                case rel => exact ⟨k + 1, by omega, by go_num, hp⟩
                case measure => simp [intOf]; omega
              by_cases d9 : 48 ≤ x
              · have e0 : ¬ 65 ≤ x := by omega
                have e1 : ¬ 97 ≤ x := by omega
                have e2 : 48 ≤ x := by omega
                have e3 : ¬ x ≤ 57 := by omega
                have e4 : (x == 32) = false := by simp; omega
                have e5 : x < 192 := by omega
                have hp := HBk (by unfold okR; exact decide_eq_false (by omega))
                clear HK HBk hi d0 d1 d2 d3 d4 d5 d6 d7 d8 d9
                go_wp2
                go_ret
                exact ⟨ret_bool hp.out.symm, hb1⟩
              by_cases d10 : x = 32
              · have e0 : ¬ 65 ≤ x := by omega
                have e1 : ¬ 97 ≤ x := by omega
                have e2 : ¬ 48 ≤ x := by omega
                have e3 : (x == 32) = true := by simp; omega
                have hp := HK (by unfold okR; exact decide_eq_true (by omega))
                clear HK HBk hi d0 d1 d2 d3 d4 d5 d6 d7 d8 d9 d10
                go_wp2
                go_round
                case rel => exact ⟨k + 1, by omega, by go_num, hp⟩
                case measure => simp [intOf]; omega
              have e0 : ¬ 65 ≤ x := by omega
              have e1 : ¬ 97 ≤ x := by omega
              have e2 : ¬ 48 ≤ x := by omega
              have e3 : (x == 32) = false := by simp; omega
              have e4 : x < 192 := by omega
              have hp := HBk (by unfold okR; exact decide_eq_false (by omega))
              clear HK HBk hi d0 d1 d2 d3 d4 d5 d6 d7 d8 d9 d10
              go_wp2
              go_ret
              exact ⟨ret_bool hp.out.symm, hb1⟩
            · have hp := HG (fun j hj => hi.out j (by omega))
              clear HG HB HC hi hx0 hx9
              go_wp2
              go_ret
              exact ⟨ret_bool hp.out.symm, hb1⟩

end Go.Proofs.Ytoiiadiimfohiaa

/- A slice of lists that came in reads as a list of lists. -/
namespace Go.Proofs.Ytoiiadiimfohiaa
open Go.RowKit Go.ChangeShapes Go.WideShapes

theorem ints_row {w : World} {a : Option Addr} {len cap : Nat} {zs : List Int} (hl : len ≤ cap) (hm : cap ≤ maxLen) (hz : zs.length = cap) (hn : a = none → cap = 0)
    (hc : ∀ x, a = some x → ∀ c, c < cap → w.cell? (x.add c) = some (.int .i64 (zs.getD c 0))) : Ints w (.slice a len cap) (zs.take len) := by
  rcases Nat.eq_zero_or_pos len with h0 | h0
  · subst h0
    exact Or.inl ⟨rfl, a, cap, rfl⟩
  · cases a with
    | none => have := hn rfl; omega
    | some x =>
      obtain ⟨b, off, rfl, hcell⟩ := ints_at (zs := zs) (fun i hi => hc x rfl i (by omega)) (by omega)
      have hlen : (zs.take len).length = len := by rw [List.length_take]; omega
      refine Or.inr ⟨b, off, cap, by rw [hlen], by omega, by omega, by unfold maxLen at hm; omega, ?_, fun j hj => ?_⟩
      · exact World.block_lt_of_cell? w _ (hcell 0 (by omega))
      · rw [hlen] at hj
        rw [hcell j (by omega)]
        simp [List.getD, hj]

theorem rows_all {w : World} {base : Nat} {a : Addr} {len cap : Nat} {A : Nat → Option Addr} {L C : Nat → Nat} {Z : Nat → List Int} (hl : len ≤ cap) (hm : cap ≤ maxLen)
    (h : ∀ r, r < cap → w.cell? (a.add r) = some (.slice (A r) (L r) (C r)) ∧ L r ≤ C r ∧ C r ≤ maxLen ∧ (Z r).length = C r ∧ (∀ n ∈ Z r, (Lit.int .i64 n).wf = true) ∧ (A r = none → C r = 0) ∧
        ∀ a', A r = some a' → base ≤ a'.block ∧ ∀ c, c < C r → w.cell? (a'.add c) = some (.int .i64 ((Z r).getD c 0))) :
    ∃ xss, IntsAll w (.slice (some a) len cap) xss := by
  refine ⟨(List.range len).map (fun r => (Z r).take (L r)), (List.range len).map (fun r => .slice (A r) (L r) (C r)), ?_, by simp, fun j hj => ?_⟩
  · rcases Nat.eq_zero_or_pos len with h0 | h0
    · subst h0
      exact Or.inl ⟨rfl, _, _, rfl⟩
    · obtain ⟨b, off, spot⟩ := a
      have hspot : spot = none := by simpa [Addr.add] using World.cell?_spot (h 0 (by omega)).1
      subst hspot
      refine Or.inr ⟨b, off, cap, by simp, by simpa using h0, by simpa using hl, by unfold maxLen at hm; omega, ?_, fun j hj => ?_⟩
      · exact World.block_lt_of_cell? w _ (h 0 (by omega)).1
      · simp at hj
        rw [← Addr.add_lit, (h j (by omega)).1]
        simp [List.getD, hj]
  · simp at hj
    have e1 : ((List.range len).map (fun r => Value.slice (A r) (L r) (C r))).getD j undef = .slice (A j) (L j) (C j) := by simp [List.getD, hj]
    have e2 : ((List.range len).map (fun r => (Z r).take (L r))).getD j [] = (Z j).take (L j) := by simp [List.getD, hj]
    rw [e1, e2]
    obtain ⟨_, a1, a2, a3, _, a5, a6⟩ := h j (by omega)
    exact ints_row a1 a2 a3 a5 (fun x hx => (a6 x hx).2)

end Go.Proofs.Ytoiiadiimfohiaa

/- Plain: the length and the lists of a slice of lists. -/
namespace Go.Proofs.Ytoiiadiimfohiaa
open Go.RowKit

theorem IntsAll.len {w : World} {v : Value} {xss : List (List Int)} (h : IntsAll w v xss) : ∃ p c, v = .slice p xss.length c := by
  obtain ⟨vs, h1, h2, _⟩ := h
  rw [← h2]; exact h1.form

/-- The k-th list of a slice of lists that is not empty. -/
theorem IntsAll.cell {w : World} {v : Value} {xss : List (List Int)} (h : IntsAll w v xss) (h0 : 1 ≤ xss.length) : ∃ b off cap, v = .slice (some ⟨b, off, none⟩) xss.length cap ∧ b < w.heap.size ∧ xss.length ≤ cap ∧ cap ≤ 9223372036854775807 ∧
    ∀ k, k < xss.length → ∃ p c, w.cell? ⟨b, off + k, none⟩ = some (.slice p (xss.getD k []).length c) ∧ Hid (Ints w (.slice p (xss.getD k []).length c) (xss.getD k [])) := by
  obtain ⟨vs, h1, h2, h3⟩ := h
  rcases h1 with ⟨rfl, _⟩ | ⟨b, off, cap, rfl, h4, h5, h6, h7, h8⟩
  · simp at h2; omega
  · refine ⟨b, off, cap, by rw [h2], h7, by omega, h6, fun k hk => ?_⟩
    exact elAt h8 (by omega) (h3 k hk)

theorem IntsAll.cut {w : World} {b off K cap k : Nat} {X : List (List Int)} (h : IntsAll w (.slice (some ⟨b, off, none⟩) K cap) X) (hl : X.length = K) (hk : k ≤ K) : IntsAll w (.slice (some ⟨b, off, none⟩) k cap) (X.take k) := by
  obtain ⟨vs, h1, h2, h3⟩ := h
  rcases Nat.eq_zero_or_pos k with rfl | h0
  · exact ⟨[], Or.inl ⟨rfl, _, _, rfl⟩, by simp, fun j hj => by simp at hj⟩
  rcases h1 with ⟨rfl, _⟩ | ⟨b', off', cap', e, h4, h5, h6, h7, h8⟩
  · simp at h2; omega
  obtain ⟨⟨rfl, rfl⟩, _, rfl⟩ : (b = b' ∧ off = off') ∧ K = vs.length ∧ cap = cap' := by
    simpa using e
  refine ⟨vs.take k, Or.inr ⟨b, off, cap, ?_, ?_, ?_, h6, h7, fun j hj => ?_⟩, ?_, fun j hj => ?_⟩
  · rw [List.length_take, Nat.min_eq_left (by omega)]
  · rw [List.length_take]; omega
  · rw [List.length_take]; omega
  · rw [List.length_take] at hj
    rw [h8 j (by omega)]
    simp [List.getD, show j < k by omega]
  · rw [List.length_take, List.length_take, h2]
  · rw [List.length_take] at hj
    have e1 : (vs.take k).getD j undef = vs.getD j undef := by simp [List.getD, show j < k by omega]
    have e2 : (X.take k).getD j [] = X.getD j [] := by simp [List.getD, show j < k by omega]
    rw [e1, e2]
    exact h3 j (by omega)

end Go.Proofs.Ytoiiadiimfohiaa

/- Contract: the answer's MethodMay, at a method that may be. -/
namespace Go.Proofs.Ytoiiadiimfohiaa
open Go.RowKit
set_option maxRecDepth 20000
set_option linter.unusedVariables false

/-- A method's cells, as a parameter is boxed. -/
abbrev mbox (s : ByteArray) (n : Int) (v : Value) : Obj := .cells #[.string s, .int .i64 n, v] 24

theorem mbox_cells (w : World) (s : ByteArray) (n : Int) (v : Value) : (w.alloc (mbox s n v)).cell? ⟨w.heap.size, 0, none⟩ = some (.string s) ∧ (w.alloc (mbox s n v)).cell? ⟨w.heap.size, 1, none⟩ = some (.int .i64 n) ∧ (w.alloc (mbox s n v)).cell? ⟨w.heap.size, 2, none⟩ = some v := by
  have h : (w.alloc (mbox s n v)).heap[w.heap.size]? = some (mbox s n v) := heap_alloc_new w _
  unfold World.cell?
  rw [h]
  exact ⟨rfl, rfl, rfl⟩

set_option maxHeartbeats 4000000 in
theorem rmay_ok (s : ByteArray) (n : Nat) (vp : Option Addr) (vc : Nat) (X : List (List Int)) (w : World) (hs : s.size ≤ 1048576) (hn : isN (arunes s) = true) (h1 : 2 ≤ n) (h2 : n ≤ 12) (hl1 : 1 ≤ X.length) (hl2 : X.length ≤ 200) (hv : IntsAll w (.slice vp X.length vc) X) (hX : ∀ x, x ∈ X → pc n x = 0) :
    Calls Try.prog 12 #[.agg #[.string s, .int .i64 n, .slice vp X.length vc]] w fun e w' => e = .returned (.int .i64 0) ∧ Below w.heap.size w w' := by
  obtain ⟨b, off, cap, hve, hbl, hc1, hc2, hcell⟩ := hv.cell (by omega)
  injection hve with e1 e2 e3
  subst e1; subst e3
  obtain ⟨m, hm⟩ : ∃ m, Hid (X.length = m) := ⟨_, rfl⟩
  rw [hm.out] at hc1 hl1 hl2 hcell ⊢
  have HCE := hide hcell
  have HX := hide hX
  have HB0 := hide ((Below.refl w.heap.size w).alloc (Nat.le_refl _) (mbox s n (.slice (some ⟨b, off, none⟩) m vc)))
  have HIN := hide (isName_any s (w.alloc (mbox s n (.slice (some ⟨b, off, none⟩) m vc))) hs)
  rw [hn] at HIN
  have HM := hide (mbox_cells w s n (.slice (some ⟨b, off, none⟩) m vc))
  obtain ⟨d0, d1, d2⟩ := HM.out
  clear hcell hv hX hn e2
  go_enter Try.func12, Try.ntmps12
  go_wp2_with fail
  refine HIN.out.mono ?_
  rintro e w1 ⟨rfl, hb1⟩
  have k1 : w1.cell? ⟨w.heap.size, 1, none⟩ = some (.int .i64 n) := by rw [hb1.cell (p := ⟨w.heap.size, 1, none⟩) (by simp)]; exact d1
  have k2 : w1.cell? ⟨w.heap.size, 2, none⟩ = some (.slice (some ⟨b, off, none⟩) m vc) := by rw [hb1.cell (p := ⟨w.heap.size, 2, none⟩) (by simp)]; exact d2
  have HB1 := hide (HB0.out.trans (hb1.mono HB0.out.size))
  clear hb1 HB0 HIN HM d0 d1 d2
  have g1 : ¬ (n : Int) < 2 := by omega
  have g2 : ¬ 12 < (n : Int) := by omega
  have g3 : ¬ (m : Int) < 1 := by omega
  have g4 : ¬ 200 < (m : Int) := by omega
  go_wp2
  go_loopw [4] (fun i wr => ∃ k : Nat, k ≤ m ∧ i = .int .i64 k ∧ Hid (Below w.heap.size w wr) ∧ wr.cell? ⟨w.heap.size, 1, none⟩ = some (.int .i64 n) ∧ wr.cell? ⟨w.heap.size, 2, none⟩ = some (.slice (some ⟨b, off, none⟩) m vc)) (fun i _ => m - (intOf i).toNat)
  case atStart => exact ⟨0, by omega, rfl, HB1, k1, k2⟩
  case round =>
    obtain ⟨k, hk, rfl, hbw, k1, k2⟩ := hrel
    by_cases hlt : k < m
    · have hkX : k < X.length := by rw [hm.out]; exact hlt
      obtain ⟨p, c, hcx, hix⟩ := HCE.out k hlt
      have gx := (hbw.out.cell (p := ⟨b, off + k, none⟩) (by exact hbl)).trans hcx
      have hz := HX.out (X.getD k []) (by simp [List.getD, hkX])
      have HC := hide (fun (W : World) (hW : Below w.heap.size w W) => changeMay_all n (.slice p (X.getD k []).length c) (X.getD k []) W (hix.out.below hW))
      rw [hz] at HC
      generalize (X.getD k []).length = pl at *
      have HC2 : ∀ W : World, Below w.heap.size w W → Calls Try.prog 36 #[.int .i64 n, .slice p pl c] W fun e w' => e = .returned (.int .i64 0) ∧ W = w' := HC.out
      clear hcx hix HC hz
      go_wp2_with fail
      go_quiet ((go_at_call 36; exact Calls.quiet_of_same ((HC2 _ (below_drewN hbw.out _)).mono (fun e wq h => ⟨h.1, h.2.symm⟩))))
      have HB3 := hide (below_drewN hbw.out nq)
      have k1' : (wr.drewN nq).cell? ⟨w.heap.size, 1, none⟩ = some (.int .i64 n) := k1
      have k2' : (wr.drewN nq).cell? ⟨w.heap.size, 2, none⟩ = some (.slice (some ⟨b, off, none⟩) m vc) := k2
      generalize wr.drewN nq = w3 at *
      clear k1 k2 hbw gx HC2
      go_wp2
      go_roundw
      case rel => exact ⟨k + 1, by omega, by go_num, HB3, k1', k2'⟩
      case measure => simp [intOf]; omega
    · go_wp2
      go_ret
      exact ⟨rfl, hbw.out⟩

end Go.Proofs.Ytoiiadiimfohiaa

/- Plain: runes that may be signs of calls. -/
namespace Go.Proofs.Ytoiiadiimfohiaa
open Go.RowKit

/-- A rune that may be a call's sign. -/
def sgnR (c : Int) : Bool := decide (33 ≤ c ∧ c ≤ 12287 ∧ ¬ (48 ≤ c ∧ c ≤ 57) ∧ c ≠ 40 ∧ c ≠ 41 ∧ (c < 127 ∨ 160 < c))

theorem sgn_letter {c : Int} (h : 97 ≤ c ∧ c ≤ 122) : sgnR c = true := by
  unfold sgnR
  exact decide_eq_true (by omega)

end Go.Proofs.Ytoiiadiimfohiaa

/- Contract: the answer's SignMay. -/
namespace Go.Proofs.Ytoiiadiimfohiaa
open Go.RowKit

set_option maxRecDepth 20000 in
set_option maxHeartbeats 4000000 in
theorem signMay_any (c : Int) (w : World) : Calls Try.prog 51 #[.int .i32 c] w fun e w' => e = .returned (.bool (sgnR c)) ∧ w = w' := by
  by_cases d0 : c < 33
  · have HP : Hid (sgnR c = false) := by unfold sgnR; exact decide_eq_false (by omega)
    have e0 : ¬ 48 ≤ c := by omega
    have e1 : ¬ 33 ≤ c := by omega
    clear d0
    generalize sgnR c = R at *
    go_enter Try.func51, Try.ntmps51
    go_wp2
    go_ret
    exact ⟨ret_bool HP.out.symm, rfl⟩
  by_cases d1 : 12287 < c
  · have HP : Hid (sgnR c = false) := by unfold sgnR; exact decide_eq_false (by omega)
    have e0 : 48 ≤ c := by omega
    have e1 : ¬ c ≤ 57 := by omega
    have e2 : 33 ≤ c := by omega
    have e3 : ¬ c ≤ 12287 := by omega
    clear d0 d1
    generalize sgnR c = R at *
    go_enter Try.func51, Try.ntmps51
    go_wp2
    go_ret
    exact ⟨ret_bool HP.out.symm, rfl⟩
  by_cases d2 : 48 ≤ c ∧ c ≤ 57
  · have HP : Hid (sgnR c = false) := by unfold sgnR; exact decide_eq_false (by omega)
    have e0 : 48 ≤ c := by omega
    have e1 : c ≤ 57 := by omega
    have e2 : 33 ≤ c := by omega
    have e3 : c ≤ 12287 := by omega
    clear d0 d1 d2
    generalize sgnR c = R at *
    go_enter Try.func51, Try.ntmps51
    go_wp2
    go_ret
    exact ⟨ret_bool HP.out.symm, rfl⟩
  by_cases d3 : c = 40
  · have HP : Hid (sgnR c = false) := by unfold sgnR; exact decide_eq_false (by omega)
    have e0 : ¬ 48 ≤ c := by omega
    have e1 : 33 ≤ c := by omega
    have e2 : c ≤ 12287 := by omega
    have e3 : (c != 40) = false := by simp; omega
    clear d0 d1 d2 d3
    generalize sgnR c = R at *
    go_enter Try.func51, Try.ntmps51
    go_wp2
    go_ret
    exact ⟨ret_bool HP.out.symm, rfl⟩
  by_cases d4 : c = 41
  · have HP : Hid (sgnR c = false) := by unfold sgnR; exact decide_eq_false (by omega)
    have e0 : ¬ 48 ≤ c := by omega
    have e1 : 33 ≤ c := by omega
    have e2 : c ≤ 12287 := by omega
    have e3 : (c != 40) = true := by simp; omega
    have e4 : (c != 41) = false := by simp; omega
    clear d0 d1 d2 d3 d4
    generalize sgnR c = R at *
    go_enter Try.func51, Try.ntmps51
    go_wp2
    go_ret
    exact ⟨ret_bool HP.out.symm, rfl⟩
  by_cases d5 : c < 48
  · have HP : Hid (sgnR c = true) := by unfold sgnR; exact decide_eq_true (by omega)
    have e0 : ¬ 48 ≤ c := by omega
    have e1 : 33 ≤ c := by omega
    have e2 : c ≤ 12287 := by omega
    have e3 : (c != 40) = true := by simp; omega
    have e4 : (c != 41) = true := by simp; omega
    have e5 : c < 127 := by omega
    clear d0 d1 d2 d3 d4 d5
    generalize sgnR c = R at *
    go_enter Try.func51, Try.ntmps51
    go_wp2
    go_ret
    exact ⟨ret_bool HP.out.symm, rfl⟩
  by_cases d6 : c < 127
  · have HP : Hid (sgnR c = true) := by unfold sgnR; exact decide_eq_true (by omega)
    have e0 : 48 ≤ c := by omega
    have e1 : ¬ c ≤ 57 := by omega
    have e2 : 33 ≤ c := by omega
    have e3 : c ≤ 12287 := by omega
    have e4 : (c != 40) = true := by simp; omega
    have e5 : (c != 41) = true := by simp; omega
    have e6 : c < 127 := by omega
    clear d0 d1 d2 d3 d4 d5 d6
    generalize sgnR c = R at *
    go_enter Try.func51, Try.ntmps51
    go_wp2
    go_ret
    exact ⟨ret_bool HP.out.symm, rfl⟩
  by_cases d7 : 160 < c
  · have HP : Hid (sgnR c = true) := by unfold sgnR; exact decide_eq_true (by omega)
    have e0 : 48 ≤ c := by omega
    have e1 : ¬ c ≤ 57 := by omega
    have e2 : 33 ≤ c := by omega
    have e3 : c ≤ 12287 := by omega
    have e4 : (c != 40) = true := by simp; omega
    have e5 : (c != 41) = true := by simp; omega
    have e6 : ¬ c < 127 := by omega
    have e7 : 160 < c := by omega
    clear d0 d1 d2 d3 d4 d5 d6 d7
    generalize sgnR c = R at *
    go_enter Try.func51, Try.ntmps51
    go_wp2
    go_ret
    exact ⟨ret_bool HP.out.symm, rfl⟩
  have HP : Hid (sgnR c = false) := by unfold sgnR; exact decide_eq_false (by omega)
  have e0 : 48 ≤ c := by omega
  have e1 : ¬ c ≤ 57 := by omega
  have e2 : 33 ≤ c := by omega
  have e3 : c ≤ 12287 := by omega
  have e4 : (c != 40) = true := by simp; omega
  have e5 : (c != 41) = true := by simp; omega
  have e6 : ¬ c < 127 := by omega
  have e7 : ¬ 160 < c := by omega
  clear d0 d1 d2 d3 d4 d5 d6 d7
  generalize sgnR c = R at *
  go_enter Try.func51, Try.ntmps51
  go_wp2
  go_ret
  exact ⟨ret_bool HP.out.symm, rfl⟩

end Go.Proofs.Ytoiiadiimfohiaa

/- Calls in memory; contracts: call.Sign's rest, truth.ByHeads' closure, slices.ContainsFunc where none is found. -/
namespace Go.Proofs.Ytoiiadiimfohiaa
open Go.RowKit

/-- The slice value v reads as calls: signs, and changes as places. -/
def CallsAt (w : World) (v : Value) (cs : List (Int × List (List Int))) : Prop :=
  ∃ b off cap, v = .slice (some ⟨b, off, none⟩) cs.length cap ∧ b < w.heap.size ∧ cs.length ≤ cap ∧ cap ≤ 9223372036854775807 ∧
    ∀ k, k < cs.length → ∃ u, w.cell? ⟨b, off + k * 2, none⟩ = some (.int .i32 (cs.getD k (0, [])).1) ∧ w.cell? ⟨b, off + k * 2 + 1, none⟩ = some u ∧ IntsAll w u (cs.getD k (0, [])).2

theorem CallsAt.below {w w' : World} {v : Value} {cs : List (Int × List (List Int))} (h : CallsAt w v cs) (hb : Below w.heap.size w w') : CallsAt w' v cs := by
  obtain ⟨b, off, cap, h1, h2, h3, h4, h5⟩ := h
  refine ⟨b, off, cap, h1, Nat.lt_of_lt_of_le h2 hb.size, h3, h4, fun k hk => ?_⟩
  obtain ⟨u, a1, a2, a3⟩ := h5 k hk
  exact ⟨u, (hb.cell (p := ⟨b, off + k * 2, none⟩) h2).trans a1, (hb.cell (p := ⟨b, off + k * 2 + 1, none⟩) h2).trans a2, a3.below hb⟩

theorem Try.size47 : (Try.prog.info? 47).map (·.size) = some 2 := by kernel_rfl

set_option maxRecDepth 20000 in
set_option maxHeartbeats 1000000 in
theorem longer_ok (c : Nat) (B : Nat) (v : Value) (cs : List (Int × List (List Int))) (w : World) (hB : w.cell? ⟨B, 0, none⟩ = some v) (h : CallsAt w v cs) (hc : c < cs.length) (hl : (cs.getD c (0, [])).2.length ≤ 1) :
    Calls Try.prog 29 #[.int .i64 c, .pointer (some ⟨B, 0, none⟩)] w fun e w' => e = .returned (.bool false) ∧ w = w' := by
  obtain ⟨b, off, cap, rfl, hb, hlc, hcm, hcell⟩ := h
  obtain ⟨u, a1, a2, a3⟩ := hcell c hc
  obtain ⟨up, uc, rfl⟩ := a3.len
  generalize (cs.getD c (0, [])).2.length = ul at *
  have hl2 : ¬ (1 : Int) < ((ul : Nat) : Int) := by omega
  clear hcell a3 a1
  go_enter Try.func29, Try.ntmps29
  go_wp2
  go_ret
  exact ⟨by simp, rfl⟩

set_option maxRecDepth 20000 in
set_option maxHeartbeats 1000000 in
theorem indexFunc_none (B : Nat) (v1 : Value) (ls : List Int) (w : World) (h : Ints w v1 ls) (h1 : 1 ≤ ls.length) (hcl : ∀ l, l ∈ ls → Calls Try.prog 29 #[.int .i64 l, .pointer (some ⟨B, 0, none⟩)] w fun e w' => e = .returned (.bool false) ∧ w = w') :
    Calls Try.prog 57 #[v1, .func (.func 29) #[] #[.pointer (some ⟨B, 0, none⟩)]] w fun e w' => e = .returned (.int .i64 (-1)) ∧ w = w' := by
  rcases h with ⟨rfl, _⟩ | ⟨b, off, cap, rfl, h0, hc, hm, hb, hcell⟩
  · simp at h1
  have HCL := hide hcl
  clear hcl
  go_enter Try.func57, Try.ntmps57
  go_wp2
  go_loop [8] (fun i => ∃ k : Nat, k ≤ ls.length ∧ i = .int .i64 k) (fun i => ls.length - (intOf i).toNat)
  case atStart => exact ⟨0, by omega, rfl⟩
  case round =>
    obtain ⟨k, hk, rfl⟩ := hrel
    by_cases hlt : k < ls.length
    · obtain ⟨y, hy, hcx⟩ := cellAt hcell hlt
      have hym : y ∈ ls := by
        rw [← hy.out, List.getElem?_eq_getElem hlt, Option.getD_some]
        exact List.getElem_mem _
      have HC1 := hide (HCL.out y hym)
      clear hcell hy hym
      go_wp2_with fail
      refine HC1.out.mono ?_
      rintro e w' ⟨rfl, rfl⟩
      go_wp2
      go_round
      case rel => exact ⟨k + 1, by omega, by go_num⟩
      case measure => simp [intOf]; omega
    · clear hcell
      go_wp2
      go_ret
      exact ⟨rfl, rfl⟩

set_option maxRecDepth 20000 in
set_option maxHeartbeats 1000000 in
theorem containsFunc_none (B : Nat) (v1 : Value) (ls : List Int) (w : World) (h : Ints w v1 ls) (h1 : 1 ≤ ls.length) (hcl : ∀ l, l ∈ ls → Calls Try.prog 29 #[.int .i64 l, .pointer (some ⟨B, 0, none⟩)] w fun e w' => e = .returned (.bool false) ∧ w = w') :
    Calls Try.prog 28 #[v1, .func (.func 29) #[] #[.pointer (some ⟨B, 0, none⟩)]] w fun e w' => e = .returned (.bool false) ∧ w = w' := by
  have HI := hide (indexFunc_none B v1 ls w h h1 hcl)
  obtain ⟨p, c, rfl⟩ := h.form
  clear h hcl
  go_enter Try.func28, Try.ntmps28
  go_wp2_with fail
  refine HI.out.mono ?_
  rintro e w' ⟨rfl, rfl⟩
  go_wp2
  go_ret
  exact ⟨rfl, rfl⟩

end Go.Proofs.Ytoiiadiimfohiaa
