/- Joined: Rns, RunA, RunB, MvA. -/
import Derived.Test.YtfnmkbcdchnnnaaJ2
import Derived.Lib.DecodeN
import Derived.Test.YtfnmkbcdchnnnaaJ5
/- Plain: the runes of a text as the answer reads them: -1 for a byte that is none. -/
namespace Go.Proofs.Ytfnmkbcdchnnnaa
open Go.RowKit Go.Lib

theorem get_piece (s : ByteArray) (p k : Nat) : (s.extract p s.size).get! k = s.get! (p + k) := by
  cases s with
  | mk d =>
    show ((ByteArray.mk d).extract p d.size).data[k]! = d[p + k]!
    rw [ByteArray.data_extract]
    by_cases h : p + k < d.size
    · rw [getElem!_pos d (p + k) h, getElem!_pos _ k (by simp; omega), Array.getElem_extract]
    · rw [getElem!_neg d (p + k) h, getElem!_neg _ k (by simp; omega)]

theorem decode_piece (s : ByteArray) (p : Nat) : Utf8.decode (s.extract p s.size) 0 = Utf8.decode s p := by
  rw [decode_at, decode_at]
  simp only [get_piece, ByteArray.size_extract, Nat.add_zero, Nat.zero_add, Nat.sub_zero, Nat.min_self]

theorem piece_piece (s : ByteArray) (p k : Nat) : (s.extract p s.size).extract k (s.extract p s.size).size = s.extract (p + k) s.size := by
  apply ByteArray.ext
  simp only [ByteArray.data_extract, ByteArray.size_extract, Nat.min_self]
  rw [Array.extract_extract]
  congr 1
  omega

/-- A rune as the answer tells it. -/
def ar (d : Nat × Nat) : Int := if d = (65533, 1) then -1 else (d.1 : Int)

theorem ar_bad {d : Nat × Nat} (h : d = (65533, 1)) : ar d = -1 := if_pos h
theorem ar_ok {d : Nat × Nat} {c k : Nat} (h : d = (c, k)) (hk : c ≠ 65533 ∨ k ≠ 1) : ar d = c := by
  subst h; unfold ar; rw [if_neg]; intro e; simp only [Prod.mk.injEq] at e; omega

set_option maxRecDepth 100000 in
set_option maxHeartbeats 4000000 in
theorem dec_lone (n b0 b1 b2 b3 : Nat) (h : (128 ≤ b0 ∧ b0 < 194) ∨ (245 ≤ b0 ∧ b0 < 256)) : decodeN n b0 b1 b2 b3 = (65533, 1) := by
  unfold decodeN
  repeat' split
  all_goals first | rfl | (exfalso; omega)

set_option maxRecDepth 100000 in
set_option maxHeartbeats 4000000 in
theorem dec_two (n b0 b1 b2 b3 : Nat) (h : 194 ≤ b0 ∧ b0 < 224) (h1 : b1 < 256) :
    decodeN n b0 b1 b2 b3 = if n < 2 ∨ (b1 < 128 ∨ 192 ≤ b1) then (65533, 1) else ((b0 - 192) * 64 + (b1 - 128), 2) := by
  unfold decodeN
  repeat' split
  all_goals first | rfl | (exfalso; omega) | (apply Prod.ext <;> simp only <;> omega)

set_option maxRecDepth 100000 in
set_option maxHeartbeats 8000000 in
theorem dec_three (n b0 b1 b2 b3 : Nat) (h : 224 ≤ b0 ∧ b0 < 240) (h1 : b1 < 256) (h2 : b2 < 256) (c : Nat) (hc : 128 ≤ b1 → 128 ≤ b2 → c = (b0 - 224) * 4096 + (b1 - 128) * 64 + (b2 - 128)) :
    decodeN n b0 b1 b2 b3 = if n < 3 ∨ (b1 < 128 ∨ 192 ≤ b1) ∨ (b2 < 128 ∨ 192 ≤ b2) ∨ (c < 2048 ∨ 1114111 < c ∨ (55296 ≤ c ∧ c < 57344)) then (65533, 1) else (c, 3) := by
  unfold decodeN
  repeat' split
  all_goals first | rfl | (exfalso; omega) | (apply Prod.ext <;> simp only <;> omega)

set_option maxRecDepth 100000 in
set_option maxHeartbeats 8000000 in
theorem dec_four (n b0 b1 b2 b3 : Nat) (h : 240 ≤ b0 ∧ b0 < 245) (h1 : b1 < 256) (h2 : b2 < 256) (h3 : b3 < 256) (c : Nat) (hc : 128 ≤ b1 → 128 ≤ b2 → 128 ≤ b3 → c = (b0 - 240) * 262144 + (b1 - 128) * 4096 + (b2 - 128) * 64 + (b3 - 128)) :
    decodeN n b0 b1 b2 b3 = if n < 4 ∨ (b1 < 128 ∨ 192 ≤ b1) ∨ (b2 < 128 ∨ 192 ≤ b2) ∨ (b3 < 128 ∨ 192 ≤ b3) ∨ (c < 65536 ∨ 1114111 < c ∨ (55296 ≤ c ∧ c < 57344)) then (65533, 1) else (c, 4) := by
  unfold decodeN
  repeat' split
  all_goals first | rfl | (exfalso; omega) | (apply Prod.ext <;> simp only <;> omega)

set_option maxRecDepth 100000 in
set_option maxHeartbeats 4000000 in
theorem dec_width (n b0 b1 b2 b3 : Nat) (hn : 1 ≤ n) : (decodeN n b0 b1 b2 b3).2 ≤ n ∧ 1 ≤ (decodeN n b0 b1 b2 b3).2 := by
  unfold decodeN
  repeat' split
  all_goals (simp only; omega)

theorem decode_width (s : ByteArray) (p : Nat) (h : p < s.size) : p + (Utf8.decode s p).2 ≤ s.size ∧ 1 ≤ (Utf8.decode s p).2 := by
  rw [decode_at]
  have := dec_width (s.size - p) (s.get! p).toNat (s.get! (p + 1)).toNat (s.get! (p + 2)).toNat (s.get! (p + 3)).toNat (by omega)
  omega

def arns (s : ByteArray) : Nat → Nat → List Int
  | 0, _ => []
  | f + 1, pos => if pos < s.size then ar (Utf8.decode s pos) :: arns s f (pos + (Utf8.decode s pos).2) else []

def arunes (s : ByteArray) : List Int := arns s s.size 0

theorem arns_length (s : ByteArray) : ∀ f pos, (arns s f pos).length = (rns s f pos).length
  | 0, _ => rfl
  | f + 1, pos => by
    have ih := arns_length s f (pos + (Utf8.decode s pos).2)
    unfold arns rns
    split
    · simp only [List.length_cons]; omega
    · rfl

theorem arunes_length (s : ByteArray) : (arunes s).length = (runesOf s).length := arns_length s _ _

/-- Rune by rune: the same, or -1 where the program has 65533. -/
theorem arns_at (s : ByteArray) : ∀ f pos j, j < (rns s f pos).length → (arns s f pos).getD j 0 = (((rns s f pos).getD j 0 : Nat) : Int) ∨ ((arns s f pos).getD j 0 = -1 ∧ (rns s f pos).getD j 0 = 65533)
  | 0, _, j, h => by simp [rns] at h
  | f + 1, pos, j, h => by
    unfold arns rns at *
    by_cases hp : pos < s.size
    · rw [if_pos hp] at h
      rw [if_pos hp, if_pos hp]
      match j with
      | 0 =>
        show ar (Utf8.decode s pos) = _ ∨ (ar (Utf8.decode s pos) = -1 ∧ (Utf8.decode s pos).1 = 65533)
        by_cases e : Utf8.decode s pos = (65533, 1)
        · exact Or.inr ⟨ar_bad e, by rw [e]⟩
        · exact Or.inl (by unfold ar; rw [if_neg e]; rfl)
      | j + 1 =>
        have := arns_at s f (pos + (Utf8.decode s pos).2) j (by simpa using h)
        simpa only [List.getD_cons_succ] using this
    · rw [if_neg hp] at h; simp at h

theorem arunes_at (s : ByteArray) (j : Nat) (h : j < (runesOf s).length) : (arunes s).getD j 0 = (((runesOf s).getD j 0 : Nat) : Int) ∨ ((arunes s).getD j 0 = -1 ∧ (runesOf s).getD j 0 = 65533) := arns_at s _ _ j h

/-- Runes up to a place, and the rest. -/
def ARunesTo (s : ByteArray) (pre : List Int) (pos : Nat) : Prop := ∃ f, s.size - pos ≤ f ∧ arunes s = pre ++ arns s f pos

theorem arunesTo_start (s : ByteArray) : ARunesTo s [] 0 := ⟨s.size, by omega, rfl⟩

theorem ARunesTo.next {s : ByteArray} {pre : List Int} {pos : Nat} (h : ARunesTo s pre pos) (hp : pos < s.size) : ARunesTo s (pre ++ [ar (Utf8.decode s pos)]) (pos + (Utf8.decode s pos).2) := by
  obtain ⟨f, hf, e⟩ := h
  have hw := (decode_width s pos hp).2
  match f, hf, e with
  | 0, hf, _ => omega
  | f + 1, hf, e =>
    refine ⟨f, by omega, ?_⟩
    rw [e, arns, if_pos hp, List.append_assoc, List.singleton_append]

theorem ARunesTo.done {s : ByteArray} {pre : List Int} {pos : Nat} (h : ARunesTo s pre pos) (hp : ¬ pos < s.size) : arunes s = pre := by
  obtain ⟨f, hf, e⟩ := h
  rw [e]
  cases f with
  | zero => simp [arns]
  | succ f => rw [arns, if_neg hp, List.append_nil]

theorem ARunesTo.len {s : ByteArray} {pre : List Int} {pos : Nat} (h : ARunesTo s pre pos) : pre.length ≤ s.size := by
  obtain ⟨f, hf, e⟩ := h
  have h1 := arunes_length s
  have h2 := runesOf_length s
  rw [e, List.length_append] at h1
  omega

end Go.Proofs.Ytfnmkbcdchnnnaa

/- Contract: the answer's runeAt. -/
namespace Go.Proofs.Ytfnmkbcdchnnnaa
open Go.RowKit
open Go.Lib (decodeN decode_at)

/-- What runeAt answers. -/
def raV (d : Nat × Nat) : Value := .tuple #[.int .i64 (ar d), .int .i64 ((d.2 : Nat) : Int)]

theorem raV_bad {d : Nat × Nat} (h : d = (65533, 1)) : raV d = .tuple #[.int .i64 (-1), .int .i64 1] := by subst h; rfl
theorem raV_ok {d : Nat × Nat} {c k : Nat} (h : d = (c, k)) (hk : c ≠ 65533 ∨ k ≠ 1) : raV d = .tuple #[.int .i64 (c : Int), .int .i64 (k : Int)] := by unfold raV; rw [ar_ok h hk, h]

theorem byte_get (s : ByteArray) (k : Nat) (hk : k < s.size) : (s[k]'hk) = s.get! k := by
  cases s with
  | mk d => exact (getElem!_pos d k hk).symm

theorem index_get (s : ByteArray) (k : Nat) (hk : k < s.size) (w : World) : (Instr.index 9 (.string s) (.int .i64 (k : Int))).run Try.prog w = .ok (.int .u8 (((s.get! k).toNat : Nat) : Int)) w := by
  rw [← byte_get s k hk]; exact index_byte s k hk w

set_option maxRecDepth 20000 in
set_option maxHeartbeats 4000000 in
theorem runeAt_one (s : ByteArray) (w : World) (h0 : 0 < s.size) (hc : (s.get! 0).toNat < 128) :
    Calls Try.prog 48 #[.string s] w fun e w' => e = .returned (raV (Utf8.decode s 0)) ∧ w = w' := by
  obtain ⟨g, hg⟩ : ∃ g : Nat → Nat, ∀ k, (s.get! k).toNat = g k := ⟨_, fun _ => rfl⟩
  have hix0 : ∀ w, (Instr.index 9 (.string s) (.int .i64 0)).run Try.prog w = .ok (.int .u8 ((g 0 : Nat) : Int)) w := fun w => by rw [← hg 0]; exact index_get s 0 h0 w
  have HIX : Hid (∀ k, k < s.size → ∀ w, (Instr.index 9 (.string s) (.int .i64 (k : Int))).run Try.prog w = .ok (.int .u8 ((g k : Nat) : Int)) w) := fun k hk w => by rw [← hg k]; exact index_get s k hk w
  have hb0 : g 0 < 256 := by rw [← hg 0]; exact UInt8.toNat_lt _
  have hb1 : g 1 < 256 := by rw [← hg 1]; exact UInt8.toNat_lt _
  have hb2 : g 2 < 256 := by rw [← hg 2]; exact UInt8.toNat_lt _
  have hb3 : g 3 < 256 := by rw [← hg 3]; exact UInt8.toNat_lt _
  have HD : Hid (Utf8.decode s 0 = decodeN s.size (g 0) (g 1) (g 2) (g 3)) := by show _ = _; rw [← hg 0, ← hg 1, ← hg 2, ← hg 3]; exact decode_at s 0
  generalize Utf8.decode s 0 = d at *
  rw [hg 0] at hc
  clear hg
  have HR : Hid (raV d = .tuple #[.int .i64 (g 0 : Int), .int .i64 1]) := by
    refine raV_ok (k := 1) ?_ (by omega)
    rw [HD.out]
    unfold decodeN
    rw [if_pos hc]
  clear HD hb1 hb2 hb3
  go_enter Try.func48, Try.ntmps48
  go_wp2
  go_ret2
  exact ⟨by rw [HR.out]; rfl, rfl⟩

set_option maxRecDepth 20000 in
set_option maxHeartbeats 4000000 in
theorem runeAt_none (s : ByteArray) (w : World) (h0 : 0 < s.size) (hc : (128 ≤ (s.get! 0).toNat ∧ (s.get! 0).toNat < 194) ∨ 245 ≤ (s.get! 0).toNat) :
    Calls Try.prog 48 #[.string s] w fun e w' => e = .returned (raV (Utf8.decode s 0)) ∧ w = w' := by
  obtain ⟨g, hg⟩ : ∃ g : Nat → Nat, ∀ k, (s.get! k).toNat = g k := ⟨_, fun _ => rfl⟩
  have hix0 : ∀ w, (Instr.index 9 (.string s) (.int .i64 0)).run Try.prog w = .ok (.int .u8 ((g 0 : Nat) : Int)) w := fun w => by rw [← hg 0]; exact index_get s 0 h0 w
  have HIX : Hid (∀ k, k < s.size → ∀ w, (Instr.index 9 (.string s) (.int .i64 (k : Int))).run Try.prog w = .ok (.int .u8 ((g k : Nat) : Int)) w) := fun k hk w => by rw [← hg k]; exact index_get s k hk w
  have hb0 : g 0 < 256 := by rw [← hg 0]; exact UInt8.toNat_lt _
  have hb1 : g 1 < 256 := by rw [← hg 1]; exact UInt8.toNat_lt _
  have hb2 : g 2 < 256 := by rw [← hg 2]; exact UInt8.toNat_lt _
  have hb3 : g 3 < 256 := by rw [← hg 3]; exact UInt8.toNat_lt _
  have HD : Hid (Utf8.decode s 0 = decodeN s.size (g 0) (g 1) (g 2) (g 3)) := by show _ = _; rw [← hg 0, ← hg 1, ← hg 2, ← hg 3]; exact decode_at s 0
  generalize Utf8.decode s 0 = d at *
  rw [hg 0] at hc
  clear hg
  have HR : Hid (raV d = .tuple #[.int .i64 (-1), .int .i64 1]) := by
    refine raV_bad ?_
    rw [HD.out]
    exact dec_lone _ _ _ _ _ (by omega)
  clear HD hb1 hb2 hb3
  rcases hc with ⟨hc1, hc2⟩ | hc
  · go_enter Try.func48, Try.ntmps48
    go_wp2
    go_ret2
    exact ⟨by rw [HR.out]; rfl, rfl⟩
  · go_enter Try.func48, Try.ntmps48
    go_wp2
    go_ret2
    exact ⟨by rw [HR.out]; rfl, rfl⟩

set_option maxRecDepth 20000 in
set_option maxHeartbeats 4000000 in
theorem runeAt_2 (s : ByteArray) (w : World) (h0 : 0 < s.size) (hm : s.size ≤ 9223372036854775807) (hc1 : 194 ≤ (s.get! 0).toNat) (hc2 : (s.get! 0).toNat < 224) :
    Calls Try.prog 48 #[.string s] w fun e w' => e = .returned (raV (Utf8.decode s 0)) ∧ w = w' := by
  obtain ⟨g, hg⟩ : ∃ g : Nat → Nat, ∀ k, (s.get! k).toNat = g k := ⟨_, fun _ => rfl⟩
  have hix0 : ∀ w, (Instr.index 9 (.string s) (.int .i64 0)).run Try.prog w = .ok (.int .u8 ((g 0 : Nat) : Int)) w := fun w => by rw [← hg 0]; exact index_get s 0 h0 w
  have HIX : Hid (∀ k, k < s.size → ∀ w, (Instr.index 9 (.string s) (.int .i64 (k : Int))).run Try.prog w = .ok (.int .u8 ((g k : Nat) : Int)) w) := fun k hk w => by rw [← hg k]; exact index_get s k hk w
  have hb0 : g 0 < 256 := by rw [← hg 0]; exact UInt8.toNat_lt _
  have hb1 : g 1 < 256 := by rw [← hg 1]; exact UInt8.toNat_lt _
  have hb2 : g 2 < 256 := by rw [← hg 2]; exact UInt8.toNat_lt _
  have hb3 : g 3 < 256 := by rw [← hg 3]; exact UInt8.toNat_lt _
  have HD : Hid (Utf8.decode s 0 = decodeN s.size (g 0) (g 1) (g 2) (g 3)) := by show _ = _; rw [← hg 0, ← hg 1, ← hg 2, ← hg 3]; exact decode_at s 0
  generalize Utf8.decode s 0 = d at *
  rw [hg 0] at hc1 hc2
  clear hg
  have HB : Hid ((∀ k, 0 < k → k < 2 → g k < 256)) := by
    intro k hk hk'
    have : k = 1 := by omega
    rcases this with rfl <;> assumption
  have HA : Hid (∀ k : Nat, True) := fun _ => trivial
  clear HA
  by_cases hl : s.size < 2
  · have HR : Hid (raV d = .tuple #[.int .i64 (-1), .int .i64 1]) := by
      refine raV_bad ?_
      rw [HD.out]
      have h := dec_two s.size (g 0) (g 1) (g 2) (g 3) ⟨hc1, hc2⟩ hb1
      rw [h, if_pos (Or.inl hl)]
    clear HD HB hb1 hb2 hb3
    go_enter Try.func48, Try.ntmps48
    go_wp2
    go_ret2
    exact ⟨by rw [HR.out]; rfl, rfl⟩
  have hl' : 2 ≤ s.size := by omega
  go_enter Try.func48, Try.ntmps48
  go_wp2
  go_loop [4, 7] (fun c i => ∃ k : Nat, i = .int .i64 k ∧ Hid ((k = 1 ∧ c = .int .i64 ((g 0 : Int) - 192) ∧ True) ∨ (k = 2 ∧ c = .int .i64 (((g 0 : Int) - 192) * 64 + g 1 - 128) ∧ (128 ≤ g 1 ∧ g 1 < 192)))) (fun _ i => 2 - (intOf i).toNat)
  case atStart => exact ⟨1, rfl, Or.inl ⟨rfl, rfl, trivial⟩⟩
  case round =>
    obtain ⟨k, rfl, hk⟩ := hrel
    rcases hk.out with ⟨rfl, rfl, hct⟩ | ⟨rfl, rfl, hct⟩
    · have hix : ∀ w, (Instr.index 9 (.string s) (.int .i64 1)).run Try.prog w = .ok (.int .u8 ((g 1 : Nat) : Int)) w := fun w => HIX.out 1 (by omega) w
      have hbk := HB.out 1 (by omega) (by omega)
      by_cases hq : g 1 < 128
      · have HR : Hid (raV d = .tuple #[.int .i64 (-1), .int .i64 1]) := by
          refine raV_bad ?_
          rw [HD.out]
          have h := dec_two s.size (g 0) (g 1) (g 2) (g 3) ⟨hc1, hc2⟩ hb1
          rw [h, if_pos (by omega)]
        clear HD HB hb1 hb2 hb3 HIX
        go_wp2
        go_ret2
        exact ⟨by rw [HR.out]; rfl, rfl⟩
      by_cases hq2 : 192 ≤ g 1
      · have HR : Hid (raV d = .tuple #[.int .i64 (-1), .int .i64 1]) := by
          refine raV_bad ?_
          rw [HD.out]
          have h := dec_two s.size (g 0) (g 1) (g 2) (g 3) ⟨hc1, hc2⟩ hb1
          rw [h, if_pos (by omega)]
        clear HD HB hb1 hb2 hb3 HIX
        go_wp2
        go_ret2
        exact ⟨by rw [HR.out]; rfl, rfl⟩
      have hq1 : 128 ≤ g 1 := by omega
      have hq3 : g 1 < 192 := by omega
      clear hq hq2 HD HB HIX
      go_wp2
      go_round
      case rel => exact ⟨_, _, _, _, ⟨2, rfl, Or.inr ((by refine ⟨rfl, ?_⟩; first | rfl | (refine ⟨rfl, ?_⟩; omega)))⟩, rfl, rfl, rfl, rfl⟩
      case measure => simp [intOf]
    · generalize hcc : (((g 0 : Int) - 192) * 64 + g 1 - 128) = c at *
      have HCC := hide hcc
      obtain ⟨cn, rfl⟩ : ∃ cn : Nat, c = cn := ⟨c.toNat, by omega⟩
      have HL : Hid (d = if s.size < 2 ∨ (g 1 < 128 ∨ 192 ≤ g 1) then (65533, 1) else ((g 0 - 192) * 64 + (g 1 - 128), 2)) := by
        show _ = _
        rw [HD.out]
        exact dec_two s.size (g 0) (g 1) (g 2) (g 3) ⟨hc1, hc2⟩ hb1
      have HR : Hid (raV d = .tuple #[.int .i64 (cn : Int), .int .i64 2]) := by
        refine raV_ok (k := 2) ?_ (by omega)
        rw [HL.out, if_neg (by omega), show (g 0 - 192) * 64 + (g 1 - 128) = cn from by omega]
      have hv1 : 128 ≤ cn := by omega
      have hv2 : cn ≤ 2047 := by omega
      clear HL HD HB HIX hct hcc
      go_wp2
      go_ret2
      exact ⟨by rw [HR.out]; rfl, rfl⟩

set_option maxRecDepth 20000 in
set_option maxHeartbeats 4000000 in
theorem runeAt_3 (s : ByteArray) (w : World) (h0 : 0 < s.size) (hm : s.size ≤ 9223372036854775807) (hc1 : 224 ≤ (s.get! 0).toNat) (hc2 : (s.get! 0).toNat < 240) :
    Calls Try.prog 48 #[.string s] w fun e w' => e = .returned (raV (Utf8.decode s 0)) ∧ w = w' := by
  obtain ⟨g, hg⟩ : ∃ g : Nat → Nat, ∀ k, (s.get! k).toNat = g k := ⟨_, fun _ => rfl⟩
  have hix0 : ∀ w, (Instr.index 9 (.string s) (.int .i64 0)).run Try.prog w = .ok (.int .u8 ((g 0 : Nat) : Int)) w := fun w => by rw [← hg 0]; exact index_get s 0 h0 w
  have HIX : Hid (∀ k, k < s.size → ∀ w, (Instr.index 9 (.string s) (.int .i64 (k : Int))).run Try.prog w = .ok (.int .u8 ((g k : Nat) : Int)) w) := fun k hk w => by rw [← hg k]; exact index_get s k hk w
  have hb0 : g 0 < 256 := by rw [← hg 0]; exact UInt8.toNat_lt _
  have hb1 : g 1 < 256 := by rw [← hg 1]; exact UInt8.toNat_lt _
  have hb2 : g 2 < 256 := by rw [← hg 2]; exact UInt8.toNat_lt _
  have hb3 : g 3 < 256 := by rw [← hg 3]; exact UInt8.toNat_lt _
  have HD : Hid (Utf8.decode s 0 = decodeN s.size (g 0) (g 1) (g 2) (g 3)) := by show _ = _; rw [← hg 0, ← hg 1, ← hg 2, ← hg 3]; exact decode_at s 0
  generalize Utf8.decode s 0 = d at *
  rw [hg 0] at hc1 hc2
  clear hg
  have HB : Hid ((∀ k, 0 < k → k < 3 → g k < 256)) := by
    intro k hk hk'
    have : k = 1 ∨ k = 2 := by omega
    rcases this with rfl | rfl <;> assumption
  have HA : Hid (∀ k : Nat, True) := fun _ => trivial
  clear HA
  by_cases hl : s.size < 3
  · have HR : Hid (raV d = .tuple #[.int .i64 (-1), .int .i64 1]) := by
      refine raV_bad ?_
      rw [HD.out]
      have h := dec_three s.size (g 0) (g 1) (g 2) (g 3) ⟨hc1, hc2⟩ hb1 hb2 _ (fun _ _ => rfl)
      rw [h, if_pos (Or.inl hl)]
    clear HD HB hb1 hb2 hb3
    go_enter Try.func48, Try.ntmps48
    go_wp2
    go_ret2
    exact ⟨by rw [HR.out]; rfl, rfl⟩
  have hl' : 3 ≤ s.size := by omega
  go_enter Try.func48, Try.ntmps48
  go_wp2
  go_loop [4, 7] (fun c i => ∃ k : Nat, i = .int .i64 k ∧ Hid ((k = 1 ∧ c = .int .i64 ((g 0 : Int) - 224) ∧ True) ∨ (k = 2 ∧ c = .int .i64 (((g 0 : Int) - 224) * 64 + g 1 - 128) ∧ (128 ≤ g 1 ∧ g 1 < 192)) ∨ (k = 3 ∧ c = .int .i64 ((((g 0 : Int) - 224) * 64 + g 1 - 128) * 64 + g 2 - 128) ∧ (128 ≤ g 1 ∧ g 1 < 192) ∧ (128 ≤ g 2 ∧ g 2 < 192)))) (fun _ i => 3 - (intOf i).toNat)
  case atStart => exact ⟨1, rfl, Or.inl ⟨rfl, rfl, trivial⟩⟩
  case round =>
    obtain ⟨k, rfl, hk⟩ := hrel
    rcases hk.out with ⟨rfl, rfl, hct⟩ | ⟨rfl, rfl, hct⟩ | ⟨rfl, rfl, hct⟩
    · have hix : ∀ w, (Instr.index 9 (.string s) (.int .i64 1)).run Try.prog w = .ok (.int .u8 ((g 1 : Nat) : Int)) w := fun w => HIX.out 1 (by omega) w
      have hbk := HB.out 1 (by omega) (by omega)
      by_cases hq : g 1 < 128
      · have HR : Hid (raV d = .tuple #[.int .i64 (-1), .int .i64 1]) := by
          refine raV_bad ?_
          rw [HD.out]
          have h := dec_three s.size (g 0) (g 1) (g 2) (g 3) ⟨hc1, hc2⟩ hb1 hb2 _ (fun _ _ => rfl)
          rw [h, if_pos (by omega)]
        clear HD HB hb1 hb2 hb3 HIX
        go_wp2
        go_ret2
        exact ⟨by rw [HR.out]; rfl, rfl⟩
      by_cases hq2 : 192 ≤ g 1
      · have HR : Hid (raV d = .tuple #[.int .i64 (-1), .int .i64 1]) := by
          refine raV_bad ?_
          rw [HD.out]
          have h := dec_three s.size (g 0) (g 1) (g 2) (g 3) ⟨hc1, hc2⟩ hb1 hb2 _ (fun _ _ => rfl)
          rw [h, if_pos (by omega)]
        clear HD HB hb1 hb2 hb3 HIX
        go_wp2
        go_ret2
        exact ⟨by rw [HR.out]; rfl, rfl⟩
      have hq1 : 128 ≤ g 1 := by omega
      have hq3 : g 1 < 192 := by omega
      clear hq hq2 HD HB HIX
      go_wp2
      go_round
      case rel => exact ⟨_, _, _, _, ⟨2, rfl, Or.inr (Or.inl (by refine ⟨rfl, ?_⟩; first | rfl | (refine ⟨rfl, ?_⟩; omega)))⟩, rfl, rfl, rfl, rfl⟩
      case measure => simp [intOf]
    · have hix : ∀ w, (Instr.index 9 (.string s) (.int .i64 2)).run Try.prog w = .ok (.int .u8 ((g 2 : Nat) : Int)) w := fun w => HIX.out 2 (by omega) w
      have hbk := HB.out 2 (by omega) (by omega)
      by_cases hq : g 2 < 128
      · have HR : Hid (raV d = .tuple #[.int .i64 (-1), .int .i64 1]) := by
          refine raV_bad ?_
          rw [HD.out]
          have h := dec_three s.size (g 0) (g 1) (g 2) (g 3) ⟨hc1, hc2⟩ hb1 hb2 _ (fun _ _ => rfl)
          rw [h, if_pos (by omega)]
        clear HD HB hb1 hb2 hb3 HIX
        go_wp2
        go_ret2
        exact ⟨by rw [HR.out]; rfl, rfl⟩
      by_cases hq2 : 192 ≤ g 2
      · have HR : Hid (raV d = .tuple #[.int .i64 (-1), .int .i64 1]) := by
          refine raV_bad ?_
          rw [HD.out]
          have h := dec_three s.size (g 0) (g 1) (g 2) (g 3) ⟨hc1, hc2⟩ hb1 hb2 _ (fun _ _ => rfl)
          rw [h, if_pos (by omega)]
        clear HD HB hb1 hb2 hb3 HIX
        go_wp2
        go_ret2
        exact ⟨by rw [HR.out]; rfl, rfl⟩
      have hq1 : 128 ≤ g 2 := by omega
      have hq3 : g 2 < 192 := by omega
      clear hq hq2 HD HB HIX
      go_wp2
      go_round
      case rel => exact ⟨_, _, _, _, ⟨3, rfl, Or.inr (Or.inr ((by refine ⟨rfl, ?_⟩; first | rfl | (refine ⟨rfl, ?_⟩; omega))))⟩, rfl, rfl, rfl, rfl⟩
      case measure => simp [intOf]
    · generalize hcc : ((((g 0 : Int) - 224) * 64 + g 1 - 128) * 64 + g 2 - 128) = c at *
      have HCC := hide hcc
      obtain ⟨cn, rfl⟩ : ∃ cn : Nat, c = cn := ⟨c.toNat, by omega⟩
      have HL : Hid (d = if s.size < 3 ∨ (g 1 < 128 ∨ 192 ≤ g 1) ∨ (g 2 < 128 ∨ 192 ≤ g 2) ∨ (cn < 2048 ∨ 1114111 < cn ∨ (55296 ≤ cn ∧ cn < 57344)) then (65533, 1) else (cn, 3)) := by
        show _ = _
        rw [HD.out]
        exact dec_three s.size (g 0) (g 1) (g 2) (g 3) ⟨hc1, hc2⟩ hb1 hb2 cn (fun _ _ => by omega)
      have hcase : cn < 2048 ∨ (2048 ≤ cn ∧ cn < 55296) ∨ (2048 ≤ cn ∧ 55296 ≤ cn ∧ cn < 57344) ∨ (2048 ≤ cn ∧ 57344 ≤ cn ∧ cn ≤ 1114111) := by omega
      rcases hcase with hv | ⟨hv, hv2⟩ | ⟨hv, hv2, hv3⟩ | ⟨hv, hv2, hv3⟩
      · have HR : Hid (raV d = .tuple #[.int .i64 (-1), .int .i64 1]) := by
          refine raV_bad ?_
          rw [HL.out, if_pos (by omega)]
        clear HL HD HB HIX hct hcc
        go_wp2
        go_ret2
        exact ⟨by rw [HR.out]; rfl, rfl⟩
      · have HR : Hid (raV d = .tuple #[.int .i64 (cn : Int), .int .i64 3]) := by
          refine raV_ok (k := 3) ?_ (by omega)
          rw [HL.out, if_neg (by omega)]
        clear HL HD HB HIX hct hcc
        go_wp2
        go_ret2
        exact ⟨by rw [HR.out]; rfl, rfl⟩
      · have HR : Hid (raV d = .tuple #[.int .i64 (-1), .int .i64 1]) := by
          refine raV_bad ?_
          rw [HL.out, if_pos (by omega)]
        clear HL HD HB HIX hct hcc
        go_wp2
        go_ret2
        exact ⟨by rw [HR.out]; rfl, rfl⟩
      · have HR : Hid (raV d = .tuple #[.int .i64 (cn : Int), .int .i64 3]) := by
          refine raV_ok (k := 3) ?_ (by omega)
          rw [HL.out, if_neg (by omega)]
        clear HL HD HB HIX hct hcc
        go_wp2
        go_ret2
        exact ⟨by rw [HR.out]; rfl, rfl⟩

set_option maxRecDepth 20000 in
set_option maxHeartbeats 4000000 in
theorem runeAt_4 (s : ByteArray) (w : World) (h0 : 0 < s.size) (hm : s.size ≤ 9223372036854775807) (hc1 : 240 ≤ (s.get! 0).toNat) (hc2 : (s.get! 0).toNat < 245) :
    Calls Try.prog 48 #[.string s] w fun e w' => e = .returned (raV (Utf8.decode s 0)) ∧ w = w' := by
  obtain ⟨g, hg⟩ : ∃ g : Nat → Nat, ∀ k, (s.get! k).toNat = g k := ⟨_, fun _ => rfl⟩
  have hix0 : ∀ w, (Instr.index 9 (.string s) (.int .i64 0)).run Try.prog w = .ok (.int .u8 ((g 0 : Nat) : Int)) w := fun w => by rw [← hg 0]; exact index_get s 0 h0 w
  have HIX : Hid (∀ k, k < s.size → ∀ w, (Instr.index 9 (.string s) (.int .i64 (k : Int))).run Try.prog w = .ok (.int .u8 ((g k : Nat) : Int)) w) := fun k hk w => by rw [← hg k]; exact index_get s k hk w
  have hb0 : g 0 < 256 := by rw [← hg 0]; exact UInt8.toNat_lt _
  have hb1 : g 1 < 256 := by rw [← hg 1]; exact UInt8.toNat_lt _
  have hb2 : g 2 < 256 := by rw [← hg 2]; exact UInt8.toNat_lt _
  have hb3 : g 3 < 256 := by rw [← hg 3]; exact UInt8.toNat_lt _
  have HD : Hid (Utf8.decode s 0 = decodeN s.size (g 0) (g 1) (g 2) (g 3)) := by show _ = _; rw [← hg 0, ← hg 1, ← hg 2, ← hg 3]; exact decode_at s 0
  generalize Utf8.decode s 0 = d at *
  rw [hg 0] at hc1 hc2
  clear hg
  have HB : Hid ((∀ k, 0 < k → k < 4 → g k < 256)) := by
    intro k hk hk'
    have : k = 1 ∨ k = 2 ∨ k = 3 := by omega
    rcases this with rfl | rfl | rfl <;> assumption
  have HA : Hid (∀ k : Nat, True) := fun _ => trivial
  clear HA
  by_cases hl : s.size < 4
  · have HR : Hid (raV d = .tuple #[.int .i64 (-1), .int .i64 1]) := by
      refine raV_bad ?_
      rw [HD.out]
      have h := dec_four s.size (g 0) (g 1) (g 2) (g 3) ⟨hc1, hc2⟩ hb1 hb2 hb3 _ (fun _ _ _ => rfl)
      rw [h, if_pos (Or.inl hl)]
    clear HD HB hb1 hb2 hb3
    go_enter Try.func48, Try.ntmps48
    go_wp2
    go_ret2
    exact ⟨by rw [HR.out]; rfl, rfl⟩
  have hl' : 4 ≤ s.size := by omega
  go_enter Try.func48, Try.ntmps48
  go_wp2
  go_loop [4, 7] (fun c i => ∃ k : Nat, i = .int .i64 k ∧ Hid ((k = 1 ∧ c = .int .i64 ((g 0 : Int) - 240) ∧ True) ∨ (k = 2 ∧ c = .int .i64 (((g 0 : Int) - 240) * 64 + g 1 - 128) ∧ (128 ≤ g 1 ∧ g 1 < 192)) ∨ (k = 3 ∧ c = .int .i64 ((((g 0 : Int) - 240) * 64 + g 1 - 128) * 64 + g 2 - 128) ∧ (128 ≤ g 1 ∧ g 1 < 192) ∧ (128 ≤ g 2 ∧ g 2 < 192)) ∨ (k = 4 ∧ c = .int .i64 (((((g 0 : Int) - 240) * 64 + g 1 - 128) * 64 + g 2 - 128) * 64 + g 3 - 128) ∧ (128 ≤ g 1 ∧ g 1 < 192) ∧ (128 ≤ g 2 ∧ g 2 < 192) ∧ (128 ≤ g 3 ∧ g 3 < 192)))) (fun _ i => 4 - (intOf i).toNat)
  case atStart => exact ⟨1, rfl, Or.inl ⟨rfl, rfl, trivial⟩⟩
  case round =>
    obtain ⟨k, rfl, hk⟩ := hrel
    rcases hk.out with ⟨rfl, rfl, hct⟩ | ⟨rfl, rfl, hct⟩ | ⟨rfl, rfl, hct⟩ | ⟨rfl, rfl, hct⟩
    · have hix : ∀ w, (Instr.index 9 (.string s) (.int .i64 1)).run Try.prog w = .ok (.int .u8 ((g 1 : Nat) : Int)) w := fun w => HIX.out 1 (by omega) w
      have hbk := HB.out 1 (by omega) (by omega)
      by_cases hq : g 1 < 128
      · have HR : Hid (raV d = .tuple #[.int .i64 (-1), .int .i64 1]) := by
          refine raV_bad ?_
          rw [HD.out]
          have h := dec_four s.size (g 0) (g 1) (g 2) (g 3) ⟨hc1, hc2⟩ hb1 hb2 hb3 _ (fun _ _ _ => rfl)
          rw [h, if_pos (by omega)]
        clear HD HB hb1 hb2 hb3 HIX
        go_wp2
        go_ret2
        exact ⟨by rw [HR.out]; rfl, rfl⟩
      by_cases hq2 : 192 ≤ g 1
      · have HR : Hid (raV d = .tuple #[.int .i64 (-1), .int .i64 1]) := by
          refine raV_bad ?_
          rw [HD.out]
          have h := dec_four s.size (g 0) (g 1) (g 2) (g 3) ⟨hc1, hc2⟩ hb1 hb2 hb3 _ (fun _ _ _ => rfl)
          rw [h, if_pos (by omega)]
        clear HD HB hb1 hb2 hb3 HIX
        go_wp2
        go_ret2
        exact ⟨by rw [HR.out]; rfl, rfl⟩
      have hq1 : 128 ≤ g 1 := by omega
      have hq3 : g 1 < 192 := by omega
      clear hq hq2 HD HB HIX
      go_wp2
      go_round
      case rel => exact ⟨_, _, _, _, ⟨2, rfl, Or.inr (Or.inl (by refine ⟨rfl, ?_⟩; first | rfl | (refine ⟨rfl, ?_⟩; omega)))⟩, rfl, rfl, rfl, rfl⟩
      case measure => simp [intOf]
    · have hix : ∀ w, (Instr.index 9 (.string s) (.int .i64 2)).run Try.prog w = .ok (.int .u8 ((g 2 : Nat) : Int)) w := fun w => HIX.out 2 (by omega) w
      have hbk := HB.out 2 (by omega) (by omega)
      by_cases hq : g 2 < 128
      · have HR : Hid (raV d = .tuple #[.int .i64 (-1), .int .i64 1]) := by
          refine raV_bad ?_
          rw [HD.out]
          have h := dec_four s.size (g 0) (g 1) (g 2) (g 3) ⟨hc1, hc2⟩ hb1 hb2 hb3 _ (fun _ _ _ => rfl)
          rw [h, if_pos (by omega)]
        clear HD HB hb1 hb2 hb3 HIX
        go_wp2
        go_ret2
        exact ⟨by rw [HR.out]; rfl, rfl⟩
      by_cases hq2 : 192 ≤ g 2
      · have HR : Hid (raV d = .tuple #[.int .i64 (-1), .int .i64 1]) := by
          refine raV_bad ?_
          rw [HD.out]
          have h := dec_four s.size (g 0) (g 1) (g 2) (g 3) ⟨hc1, hc2⟩ hb1 hb2 hb3 _ (fun _ _ _ => rfl)
          rw [h, if_pos (by omega)]
        clear HD HB hb1 hb2 hb3 HIX
        go_wp2
        go_ret2
        exact ⟨by rw [HR.out]; rfl, rfl⟩
      have hq1 : 128 ≤ g 2 := by omega
      have hq3 : g 2 < 192 := by omega
      clear hq hq2 HD HB HIX
      go_wp2
      go_round
      case rel => exact ⟨_, _, _, _, ⟨3, rfl, Or.inr (Or.inr (Or.inl (by refine ⟨rfl, ?_⟩; first | rfl | (refine ⟨rfl, ?_⟩; omega))))⟩, rfl, rfl, rfl, rfl⟩
      case measure => simp [intOf]
    · have hix : ∀ w, (Instr.index 9 (.string s) (.int .i64 3)).run Try.prog w = .ok (.int .u8 ((g 3 : Nat) : Int)) w := fun w => HIX.out 3 (by omega) w
      have hbk := HB.out 3 (by omega) (by omega)
      by_cases hq : g 3 < 128
      · have HR : Hid (raV d = .tuple #[.int .i64 (-1), .int .i64 1]) := by
          refine raV_bad ?_
          rw [HD.out]
          have h := dec_four s.size (g 0) (g 1) (g 2) (g 3) ⟨hc1, hc2⟩ hb1 hb2 hb3 _ (fun _ _ _ => rfl)
          rw [h, if_pos (by omega)]
        clear HD HB hb1 hb2 hb3 HIX
        go_wp2
        go_ret2
        exact ⟨by rw [HR.out]; rfl, rfl⟩
      by_cases hq2 : 192 ≤ g 3
      · have HR : Hid (raV d = .tuple #[.int .i64 (-1), .int .i64 1]) := by
          refine raV_bad ?_
          rw [HD.out]
          have h := dec_four s.size (g 0) (g 1) (g 2) (g 3) ⟨hc1, hc2⟩ hb1 hb2 hb3 _ (fun _ _ _ => rfl)
          rw [h, if_pos (by omega)]
        clear HD HB hb1 hb2 hb3 HIX
        go_wp2
        go_ret2
        exact ⟨by rw [HR.out]; rfl, rfl⟩
      have hq1 : 128 ≤ g 3 := by omega
      have hq3 : g 3 < 192 := by omega
      clear hq hq2 HD HB HIX
      go_wp2
      go_round
      case rel => exact ⟨_, _, _, _, ⟨4, rfl, Or.inr (Or.inr (Or.inr ((by refine ⟨rfl, ?_⟩; first | rfl | (refine ⟨rfl, ?_⟩; omega)))))⟩, rfl, rfl, rfl, rfl⟩
      case measure => simp [intOf]
    · generalize hcc : (((((g 0 : Int) - 240) * 64 + g 1 - 128) * 64 + g 2 - 128) * 64 + g 3 - 128) = c at *
      have HCC := hide hcc
      obtain ⟨cn, rfl⟩ : ∃ cn : Nat, c = cn := ⟨c.toNat, by omega⟩
      have HL : Hid (d = if s.size < 4 ∨ (g 1 < 128 ∨ 192 ≤ g 1) ∨ (g 2 < 128 ∨ 192 ≤ g 2) ∨ (g 3 < 128 ∨ 192 ≤ g 3) ∨ (cn < 65536 ∨ 1114111 < cn ∨ (55296 ≤ cn ∧ cn < 57344)) then (65533, 1) else (cn, 4)) := by
        show _ = _
        rw [HD.out]
        exact dec_four s.size (g 0) (g 1) (g 2) (g 3) ⟨hc1, hc2⟩ hb1 hb2 hb3 cn (fun _ _ _ => by omega)
      have hcase : cn < 65536 ∨ (65536 ≤ cn ∧ cn ≤ 1114111) ∨ (65536 ≤ cn ∧ 1114111 < cn) := by omega
      rcases hcase with hv | ⟨hv, hv2⟩ | ⟨hv, hv2⟩
      · have HR : Hid (raV d = .tuple #[.int .i64 (-1), .int .i64 1]) := by
          refine raV_bad ?_
          rw [HL.out, if_pos (by omega)]
        clear HL HD HB HIX hct hcc
        go_wp2
        go_ret2
        exact ⟨by rw [HR.out]; rfl, rfl⟩
      · have hv3 : 57344 ≤ cn := by omega
        have HR : Hid (raV d = .tuple #[.int .i64 (cn : Int), .int .i64 4]) := by
          refine raV_ok (k := 4) ?_ (by omega)
          rw [HL.out, if_neg (by omega)]
        clear HL HD HB HIX hct hcc
        go_wp2
        go_ret2
        exact ⟨by rw [HR.out]; rfl, rfl⟩
      · have HR : Hid (raV d = .tuple #[.int .i64 (-1), .int .i64 1]) := by
          refine raV_bad ?_
          rw [HL.out, if_pos (by omega)]
        clear HL HD HB HIX hct hcc
        go_wp2
        go_ret2
        exact ⟨by rw [HR.out]; rfl, rfl⟩

theorem runeAt_any (s : ByteArray) (w : World) (h0 : 0 < s.size) (hm : s.size ≤ 9223372036854775807) :
    Calls Try.prog 48 #[.string s] w fun e w' => e = .returned (raV (Utf8.decode s 0)) ∧ w = w' := by
  have hcase : (s.get! 0).toNat < 128 ∨ ((128 ≤ (s.get! 0).toNat ∧ (s.get! 0).toNat < 194) ∨ 245 ≤ (s.get! 0).toNat) ∨ (194 ≤ (s.get! 0).toNat ∧ (s.get! 0).toNat < 224) ∨ (224 ≤ (s.get! 0).toNat ∧ (s.get! 0).toNat < 240) ∨ (240 ≤ (s.get! 0).toNat ∧ (s.get! 0).toNat < 245) := by omega
  rcases hcase with h | h | ⟨h1, h2⟩ | ⟨h1, h2⟩ | ⟨h1, h2⟩
  · exact runeAt_one s w h0 h
  · exact runeAt_none s w h0 h
  · exact runeAt_2 s w h0 hm h1 h2
  · exact runeAt_3 s w h0 hm h1 h2
  · exact runeAt_4 s w h0 hm h1 h2

end Go.Proofs.Ytfnmkbcdchnnnaa

/- Contracts: the answer's runes, bell. -/
namespace Go.Proofs.Ytfnmkbcdchnnnaa
open Go.RowKit

/-- A string's length. -/
def strLen : Value → Nat
  | .string s => s.size
  | _ => 0

theorem whole_str (s : ByteArray) : s.extract 0 s.size = s := by
  apply ByteArray.ext
  simp only [ByteArray.data_extract]
  exact Array.extract_size

set_option maxRecDepth 20000 in
set_option maxHeartbeats 4000000 in
theorem runes_any (s : ByteArray) (w : World) (hs : s.size ≤ 1048576) :
    Calls Try.prog 33 #[.string s] w fun e w' => ∃ v, e = .returned v ∧ w'.ownsRow w.heap.size 3 1 v (arunes s).length ((arunes s).map (Value.int .i64)) ∧ Below w.heap.size w w' := by
  obtain ⟨i0, hi, hz0, hz1, hz2⟩ := info_parts Try.info3
  go_enter Try.func33, Try.ntmps33
  go_wp2
  go_loopw [0, 3] (fun t v wr => ∃ (pos : Nat) (pre : List Int), pos ≤ s.size ∧ Hid (t = .string (s.extract pos s.size)) ∧ Hid (ARunesTo s pre pos) ∧ wr.ownsRow w.heap.size 3 1 v pre.length (pre.map (Value.int .i64)) ∧ Below w.heap.size w wr) (fun t _ _ => strLen t)
  case atStart => exact ⟨0, [], by omega, by show _ = _; rw [whole_str], arunesTo_start s, World.ownsRow_nil _ _ _ _, Below.refl _ _⟩
  case round =>
    obtain ⟨pos, pre, hpos, ht, hA, hown, hbw⟩ := hrel
    have ht' := ht.out
    clear ht
    subst ht'
    have hbs := hbw.size
    have hpl := hA.out.len
    have hts : (s.extract pos s.size).size = s.size - pos := by simp
    have HP := hide (fun k => piece_piece s pos k)
    by_cases hlt : pos < s.size
    · have HDE := hide (decode_piece s pos)
      have hdw := decode_width s pos hlt
      have HN := hide (hA.out.next hlt)
      generalize hT : s.extract pos s.size = t at *
      have HR := hide (runeAt_any t wr (by omega) (by omega))
      rw [HDE.out] at HR
      unfold raV at HR
      generalize Utf8.decode s pos = d at *
      generalize ar d = c at *
      obtain ⟨d1, k⟩ := d
      simp only at hdw HN HR
      clear hA HDE hT
      go_wp2_with fail
      refine HR.out.mono ?_
      rintro e w1 ⟨rfl, rfl⟩
      go_wp2_with (at_builtin; refine wpList_append_own _ rfl _ _ 24 rfl w.heap.size 3 i0 (.int .i64 0) 1 8 Try.underlying24 hi hz0 hz1 hz2 rfl (by decide) _ _ _ rfl (hown.alloc _) ⟨wr.heap.size, 0, none⟩ 1 1 [.int .i64 c] rfl rfl ?c1 ?c2 ?c3 ?c4 ?c5 ?_)
      case c1 => exact cell_one_new _ _ _
      case c2 => intro u hu; simp at hu; subst hu; rfl
      case c3 => unfold maxLen; omega
      case c4 => omega
      case c5 => simp; omega
      · intro v' w1 hown' hgrow _
        have hBn := (hbw.alloc hbw.size (.cells #[.int .i64 c] 3)).grown hgrow (by simp; omega) (fun g hg => (hown.lt g hg).1)
        have HOW : Hid (w1.ownsRow w.heap.size 3 1 v' (pre ++ [c]).length ((pre ++ [c]).map (Value.int .i64))) := by
          show World.ownsRow _ _ _ _ _ _ _
          rw [List.length_append, List.map_append]; exact hown'
        have hk1 : k ≤ t.size := by omega
        have hk2 : (k : Int).toNat = k := by omega
        clear hown hown' hgrow
        go_wp2
        go_roundw
        case rel => exact ⟨pos + k, pre ++ [c], by omega, by show _ = _; rw [← HP.out k, hts], HN, HOW.out, hBn⟩
        case measure => simp [strLen]; omega
    · generalize s.extract pos s.size = t at *
      have HE : Hid (arunes s = pre) := hA.out.done hlt
      have ht0 : t.size = 0 := by omega
      clear hA
      go_wp2
      go_ret
      exact ⟨_, rfl, by rw [HE.out]; exact hown, hbw⟩

set_option maxRecDepth 100000 in
theorem si_bl : ∀ c : Fin 128, si c.val = if bl c.val.toUInt8 < 12 then ((bl c.val.toUInt8 : Nat) : Int) else -1 := by decide

theorem si_high {c : Nat} (h : 127 < c) : si c = -1 := by unfold si; rw [if_neg (by omega)]

/-- The bell of a rune, as the answer tells it. -/
def sa (c : Int) : Int := if 0 ≤ c then si c.toNat else -1

set_option maxRecDepth 20000 in
set_option maxHeartbeats 1000000 in
theorem bell_any (c : Int) (w : World) : Calls Try.prog 34 #[.int .i64 c] w fun e w' => e = .returned (.int .i64 (sa c)) ∧ w = w' := by
  by_cases h0 : c < 0
  · have HS : Hid (sa c = -1) := by show _ = _; unfold sa; rw [if_neg (by omega)]
    go_enter Try.func34, Try.ntmps34
    go_wp2
    go_ret
    exact ⟨ret_int HS.out.symm, rfl⟩
  obtain ⟨m, rfl⟩ := Int.eq_ofNat_of_zero_le (show 0 ≤ c by omega)
  by_cases h1 : 127 < m
  · have HS : Hid (sa (m : Int) = -1) := by show _ = _; unfold sa; rw [if_pos (by omega)]; exact si_high (by omega)
    go_enter Try.func34, Try.ntmps34
    go_wp2
    go_ret
    exact ⟨ret_int HS.out.symm, rfl⟩
  · have hm : m < 128 := by omega
    have HS : Hid (sa (m : Int) = if bl m.toUInt8 < 12 then ((bl m.toUInt8 : Nat) : Int) else -1) := by show _ = _; unfold sa; rw [if_pos (by omega)]; exact si_bl ⟨m, hm⟩
    have hu : m.toUInt8.toNat = m := by show (m % 256) = m; omega
    by_cases hb : bl m.toUInt8 < 12
    · have HB := hide (bellOf_yes m.toUInt8 hb w)
      rw [hu] at HB
      rw [if_pos hb] at HS
      clear hu hb
      go_enter Try.func34, Try.ntmps34
      go_wp2_with fail
      refine HB.out.mono ?_
      rintro e w' ⟨rfl, rfl⟩
      go_wp2
      go_ret
      exact ⟨ret_int HS.out.symm, rfl⟩
    · have HB := hide (bellOf_no m.toUInt8 hb w)
      rw [hu] at HB
      rw [if_neg hb] at HS
      clear hu hb
      go_enter Try.func34, Try.ntmps34
      go_wp2_with fail
      refine HB.out.mono ?_
      rintro e w' ⟨rfl, rfl⟩
      go_wp2
      go_ret
      exact ⟨ret_int HS.out.symm, rfl⟩

end Go.Proofs.Ytfnmkbcdchnnnaa

/- Contract: the answer's PatternMay. -/
namespace Go.Proofs.Ytfnmkbcdchnnnaa
open Go.RowKit
set_option maxRecDepth 20000
set_option linter.unusedVariables false

theorem si_inv {c b : Nat} (h : si c = (b : Int)) : c = sg b ∧ b < 12 := by
  have hc : c < 128 := by
    by_cases hc : c < 128
    · exact hc
    · rw [si_high (by omega)] at h; omega
  have : ∀ k : Fin 128, 0 ≤ si k.1 → k.1 = sg (si k.1).toNat ∧ (si k.1).toNat < 12 := by decide +kernel
  have h1 := this ⟨c, hc⟩ (by rw [h]; omega)
  simp only [h, Int.toNat_natCast] at h1
  exact h1

/-- A rune as the answer has it, and as the program has it. -/
def RuA (x : Int) (c : Nat) : Prop := x = (c : Int) ∨ x = -1 ∧ c = 65533

theorem RuA.eq {x : Int} {c : Nat} (h : RuA x c) (k : Nat) (hk : k ≠ 65533) : x = (k : Int) ↔ c = k := by
  rcases h with h | ⟨h1, h2⟩ <;> omega

theorem RuA.bell {x : Int} {c : Nat} (h : RuA x c) : sa x = si c := by
  rcases h with h | ⟨h1, h2⟩
  · subst h; unfold sa; rw [if_pos (by omega), Int.toNat_natCast]
  · subst h1; subst h2; unfold sa; rw [if_neg (by omega), si_high (by omega)]

theorem ruA_at (s : ByteArray) {j : Nat} (h : j < (runesOf s).length) : RuA ((arunes s).getD j 0) ((runesOf s).getD j 0) := arunes_at s j h

/-- What is known behind i runes. -/
structure MTo (n : Nat) (C : List Nat) (i : Nat) (st : MP) : Prop where
  run : MP.run n MP.new (C.take i) = (0, st)
  len : st.there.length = 12
  there : ∀ b, b < 12 → st.there.getD b false = decide (sg b ∈ C.take i)
  places : st.places.length = min (i - (if st.star then 1 else 0)) (n + 1)
  pos : st.star = true → 1 ≤ i

theorem MTo.start (n : Nat) (C : List Nat) : MTo n C 0 MP.new := by
  refine ⟨by rw [List.take_zero]; rfl, rfl, fun b hb => ?_, by simp [MP.new], fun h => by cases h⟩
  have : ∀ k : Fin 12, (List.replicate 12 false).getD k.1 false = false := by decide
  rw [show MP.new.there = List.replicate 12 false from rfl, this ⟨b, hb⟩]; simp

theorem take_snocN (C : List Nat) (k : Nat) (h : k < C.length) : C.take (k + 1) = C.take k ++ [C.getD k 0] := by
  rw [List.take_succ_eq_append_getElem h]; simp [List.getD, h]

theorem MP.put_len (n : Nat) (st : MP) (b : Int) : (st.put n b).places.length = min (st.places.length + 1) (max st.places.length (n + 1)) ∧ (st.put n b).star = st.star ∧ (st.put n b).there = st.there := by
  unfold MP.put
  split
  · refine ⟨by simp; omega, rfl, rfl⟩
  · refine ⟨by omega, rfl, rfl⟩

theorem MTo.next {n : Nat} (hn : n ≤ 12) {C : List Nat} {i : Nat} {st : MP} (h : MTo n C i st) (hi : i < C.length) (h0 : (st.take n (C.getD i 0)).1 = 0) : MTo n C (i + 1) (st.take n (C.getD i 0)).2 := by
  have hrun : MP.run n MP.new (C.take (i + 1)) = (0, (st.take n (C.getD i 0)).2) := by
    rw [take_snocN C i hi, MP.run_snoc n _ _ _ (by rw [h.run]), h.run]
    rw [← h0]
  have hpl := h.places
  have hps := h.pos
  have hin : ∀ b, b < 12 → C.getD i 0 ≠ sg b → (decide (sg b ∈ C.take (i + 1)) = decide (sg b ∈ C.take i)) := fun b hb hne => by
    rw [take_snocN C i hi]
    congr 1
    rw [List.mem_append]
    simp
    exact fun e => absurd e.symm hne
  generalize hgc : C.getD i 0 = c at *
  by_cases hc1 : c = 42
  · subst hc1
    have hne : ∀ b, b < 12 → (42 : Nat) ≠ sg b := fun b hb e => (sg_ne hb).1 e.symm
    cases hs : st.star with
    | true =>
      unfold MP.take at h0
      rw [if_pos rfl, hs] at h0
      simp at h0
    | false =>
      rw [hs] at hpl
      have e : st.take n 42 = (0, { st with star := true, ahead := st.places.length }) := by unfold MP.take; rw [if_pos rfl, hs]; rfl
      rw [e] at hrun ⊢
      refine ⟨hrun, h.len, fun b hb => ?_, ?_, fun _ => by omega⟩
      · rw [hin b hb (hne b hb)]; exact h.there b hb
      · show st.places.length = _
        rw [hpl]; simp
  · by_cases hc2 : c = 63
    · subst hc2
      have hne : ∀ b, b < 12 → (63 : Nat) ≠ sg b := fun b hb e => (sg_ne hb).2 e.symm
      have e : st.take n 63 = (0, st.put n (-1)) := by unfold MP.take; rw [if_neg (by decide), if_pos rfl]
      rw [e] at hrun ⊢
      obtain ⟨p1, p2, p3⟩ := MP.put_len n st (-1)
      refine ⟨hrun, by rw [p3]; exact h.len, fun b hb => ?_, ?_, fun hs => by omega⟩
      · rw [p3, hin b hb (hne b hb)]; exact h.there b hb
      · rw [p1, p2, hpl]
        cases hs : st.star
        · simp; omega
        · have := hps hs
          simp; omega
    · have e0 : st.take n c = if si c < 0 ∨ (n : Int) ≤ si c then (4, st) else if st.there.getD (si c).toNat false then (2, st) else (0, { st with there := st.there.set (si c).toNat true }.put n (si c)) := by
        unfold MP.take; rw [if_neg hc1, if_neg hc2]
      by_cases hb1 : si c < 0 ∨ (n : Int) ≤ si c
      · rw [e0, if_pos hb1] at h0; simp at h0
      · obtain ⟨b0, hb0⟩ := Int.eq_ofNat_of_zero_le (show 0 ≤ si c by omega)
        obtain ⟨hcs, hb12⟩ := si_inv hb0
        rw [if_neg hb1, hb0, Int.toNat_natCast] at e0
        cases hth : st.there.getD b0 false with
        | true => rw [e0, hth] at h0; simp at h0
        | false =>
          rw [hth] at e0
          have e : st.take n c = (0, { st with there := st.there.set b0 true }.put n (b0 : Int)) := e0
          rw [e] at hrun ⊢
          obtain ⟨p1, p2, p3⟩ := MP.put_len n { st with there := st.there.set b0 true } (b0 : Int)
          refine ⟨hrun, by rw [p3]; simp [h.len], fun b hb => ?_, ?_, fun hs => by omega⟩
          · rw [p3]
            show (st.there.set b0 true).getD b false = _
            rw [getD_set_bool (by rw [h.len]; exact hb12)]
            by_cases hbb : b0 = b
            · subst hbb
              rw [if_pos rfl, take_snocN C i hi]
              symm
              rw [decide_eq_true_iff, List.mem_append]
              right
              rw [hgc, hcs]; simp
            · rw [if_neg hbb, hin b hb (fun e9 => hbb (sg_inj hb12 hb (hcs.symm.trans e9)))]
              exact h.there b hb
          · rw [p1, p2]
            show min (st.places.length + 1) (max st.places.length (n + 1)) = min (i + 1 - if st.star = true then 1 else 0) (n + 1)
            rw [hpl]
            cases hs : st.star
            · simp; omega
            · have := hps hs
              simp; omega

theorem MTo.bad {n : Nat} {C : List Nat} {i : Nat} {st : MP} (h : MTo n C i st) (hi : i < C.length) (h0 : (st.take n (C.getD i 0)).1 ≠ 0) : MP.read n C = ((st.take n (C.getD i 0)).1, []) := by
  have hr : MP.run n MP.new (C.take (i + 1)) = st.take n (C.getD i 0) := by rw [take_snocN C i hi, MP.run_snoc n _ _ _ (by rw [h.run]), h.run]
  have hb : MP.run n MP.new C = st.take n (C.getD i 0) := by
    have e : C = C.take (i + 1) ++ C.drop (i + 1) := (List.take_append_drop _ _).symm
    rw [e, MP.run_bad n _ _ _ (by rw [hr]; exact h0), hr]
    rw [← e]
  unfold MP.read
  rw [hb]
  exact if_neg h0

theorem MTo.done {n : Nat} {C : List Nat} {st : MP} (h : MTo n C C.length st) : MP.read n C = st.end_ n ∧ (st.end_ n).1 = if n < C.length - (if st.star then 1 else 0) ∨ C.length < n ∧ st.star = false then 1 else 0 := by
  have hr := h.run
  rw [List.take_length] at hr
  refine ⟨by unfold MP.read; rw [hr]; rfl, ?_⟩
  have hpl := h.places
  have hps := h.pos
  unfold MP.end_
  have : (n < st.places.length ∨ st.places.length < n ∧ st.star = false) ↔ (n < C.length - (if st.star then 1 else 0) ∨ C.length < n ∧ st.star = false) := by
    rw [hpl]
    cases hs : st.star
    · simp; omega
    · have := hps hs
      simp; omega
  by_cases hx : n < st.places.length ∨ st.places.length < n ∧ st.star = false
  · rw [if_pos hx, if_pos (this.1 hx)]
  · rw [if_neg hx, if_neg (fun h => hx (this.2 h))]

/-- A rune that is no sign there. -/
theorem take_word {n : Nat} {st : MP} {c : Nat} (h1 : ¬ (c = 42 ∧ st.star = false)) (h2 : c ≠ 63) (h3 : si c < 0 ∨ (n : Int) ≤ si c) : (st.take n c).1 = 4 := by
  unfold MP.take
  by_cases hc : c = 42
  · rw [if_pos hc]
    cases hs : st.star
    · exact absurd ⟨hc, hs⟩ h1
    · rfl
  · rw [if_neg hc, if_neg h2, if_pos h3]

theorem take_bell_code {n : Nat} {st : MP} {c b : Nat} (h1 : si c = (b : Int)) (hb : b < n) : (st.take n c).1 = if st.there.getD b false then 2 else 0 := by
  obtain ⟨hcs, hb12⟩ := si_inv h1
  have hne := sg_ne hb12
  rw [← hcs] at hne
  unfold MP.take
  rw [if_neg hne.1, if_neg hne.2, h1, if_neg (by omega), Int.toNat_natCast]
  cases st.there.getD b false <;> rfl

theorem patternMay_count (n : Int) (s : ByteArray) (w : World) (hn : n < 1 ∨ 12 < n) :
    Calls Try.prog 10 #[.int .i64 n, .string s] w fun e w' => e = .returned (.int .i64 1) ∧ Below w.heap.size w w' := by
  by_cases h1 : n < 1
  · go_enter Try.func10, Try.ntmps10
    go_wp2
    go_ret
    exact ⟨rfl, Below.refl _ _⟩
  · have h2 : n > 12 := by omega
    go_enter Try.func10, Try.ntmps10
    go_wp2
    go_ret
    exact ⟨rfl, Below.refl _ _⟩

end Go.Proofs.Ytfnmkbcdchnnnaa
