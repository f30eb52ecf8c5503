/- Joined: Idx, IdxA, Rno, ItA, AppK, MuA, Bel, MuB, StC. -/
import Derived.Test.YtfnmkbcdchnnnaaJ1
import Derived.Lib.Bytealg
import Derived.Laws.Runes
import Derived.Laws.Externs
import Derived.WalkMore
import Derived.Deep.QuietTactic
import Derived.Deep.RegionHeld3
import Derived.Lib.RuneCount
import Derived.Lib.DecodeN
import Derived.Test.YtfnmkbcdchnnnaaJ0
import Derived.Maps.AppendAt
import Derived.BigQuiet
/- Contracts: strings.IndexByte, unicode/utf8.ValidRune, strings.IndexRune at the signs. -/
namespace Go.Proofs.Ytfnmkbcdchnnnaa
open Go.RowKit
set_option maxRecDepth 20000

set_option maxHeartbeats 1000000 in
theorem slIndexByte_any (s : ByteArray) (c : Int) (w : World) :
    Calls Try.prog 97 #[.string s, .int .u8 c] w fun e w' => e = .returned (.int .i64 (Go.Lib.indexByte s.data.toList c.toNat.toUInt8)) ∧ w = w' := by
  go_enter Try.func97, Try.ntmps97
  go_wp2
  rw [run_callFunc_extern Try.func102 (by kernel_rfl) (by kernel_rfl) (by kernel_rfl) (e := Extern.BytealgIndexByte.indexByte) (by kernel_rfl), Go.Lib.run_indexByteString]
  simp only [Result.andThen]
  rw [Oper.upon_value]
  go_wp2
  go_ret
  exact ⟨rfl, rfl⟩

set_option maxHeartbeats 1000000 in
theorem indexByte_any (s : ByteArray) (c : Int) (w : World) :
    Calls Try.prog 82 #[.string s, .int .u8 c] w fun e w' => e = .returned (.int .i64 (Go.Lib.indexByte s.data.toList c.toNat.toUInt8)) ∧ w = w' := by
  go_enter Try.func82, Try.ntmps82
  go_wp2_with fail
  refine (slIndexByte_any _ _ _).mono ?_
  rintro e w' ⟨rfl, rfl⟩
  go_wp2
  go_ret
  exact ⟨rfl, rfl⟩

theorem indexByte_none' : ∀ (l : List UInt8) (c : UInt8), (∀ b ∈ l, b ≠ c) → Go.Lib.indexByte l c = -1
  | [], _, _ => rfl
  | b :: l, c, h => by
    have h1 : (b == c) = false := by rw [beq_eq_false_iff_ne]; exact h b (by simp)
    have h2 := indexByte_none' l c (fun b hb => h b (List.mem_cons_of_mem _ hb))
    simp [Go.Lib.indexByte, h1, h2]

theorem indexByte_neg (s : ByteArray) (c : Int) (w : World) (hs : ∀ b ∈ s.data.toList, b.toNat < 128) (h1 : 128 ≤ c) (h2 : c < 256) :
    Calls Try.prog 82 #[.string s, .int .u8 c] w fun e w' => e = .returned (.int .i64 (-1)) ∧ w = w' := by
  have h := indexByte_any s c w
  rw [indexByte_none' _ _ (fun b hb e => by have h3 := hs b hb; rw [e] at h3; simp at h3; omega)] at h
  exact h

set_option maxHeartbeats 400000 in
theorem validRune_yes (c : Int) (w : World) (h0 : 0 ≤ c) (h : c < 55296 ∨ 57343 < c) (h2 : c ≤ 1114111) :
    Calls Try.prog 83 #[.int .i32 c] w fun e w' => e = .returned (.bool true) ∧ w = w' := by
  rcases h with h | h
  · go_enter Try.func83, Try.ntmps83
    go_wp2
    go_ret
    exact ⟨rfl, rfl⟩
  · have h3 : ¬ c < 55296 := by omega
    go_enter Try.func83, Try.ntmps83
    go_wp2
    go_ret
    exact ⟨rfl, rfl⟩

/-- Which sign a rune is; -1: none. -/
def si (c : Nat) : Int := if c < 128 then Go.Lib.indexByte [49, 50, 51, 52, 53, 54, 55, 56, 57, 48, 69, 84] c.toUInt8 else -1

set_option maxHeartbeats 1000000 in
theorem indexRune_low (c : Nat) (w : World) (h : c < 128) :
    Calls Try.prog 66 #[.string ⟨#[49, 50, 51, 52, 53, 54, 55, 56, 57, 48, 69, 84]⟩, .int .i32 c] w fun e w' => e = .returned (.int .i64 (si c)) ∧ Below w.heap.size w w' := by
  have HS : Hid (si c = Go.Lib.indexByte [49, 50, 51, 52, 53, 54, 55, 56, 57, 48, 69, 84] c.toUInt8) := by show _ = _; unfold si; rw [if_pos h]
  go_enter Try.func66, Try.ntmps66
  go_wp2_with fail
  refine (indexByte_any _ _ _).mono ?_
  rintro e w' ⟨rfl, rfl⟩
  go_wp2
  go_ret
  exact ⟨ret_int HS.out.symm, Below.refl _ _⟩

set_option maxHeartbeats 1000000 in
theorem indexRune_bad (w : World) :
    Calls Try.prog 66 #[.string ⟨#[49, 50, 51, 52, 53, 54, 55, 56, 57, 48, 69, 84]⟩, .int .i32 65533] w fun e w' => e = .returned (.int .i64 (-1)) ∧ Below w.heap.size w w' := by
  go_enter Try.func66, Try.ntmps66
  go_wp2
  go_loopw [5] (fun _ wr => ∃ k : Nat, k ≤ 12 ∧ wr = w.iter { data := #[49, 50, 51, 52, 53, 54, 55, 56, 57, 48, 69, 84] } k) (fun _ wr => 12 - wr.iterPos w.heap.size)
  case atStart => exact ⟨0, by omega, rfl⟩
  case round =>
    obtain ⟨k, hk, rfl⟩ := hrel
    by_cases hlt : k < 12
    · have hnx := next_sign w k hlt
      have ht : (((sg k : Nat) : Int) == 65533) = false := by rw [beq_eq_false_iff_ne]; have := sg_lt k; omega
      go_wp2
      go_roundw
      case rel => exact ⟨k + 1, by omega, rfl⟩
      case measure => simp; omega
    · have hnx := next_done w k hlt
      go_wp2
      go_ret
      exact ⟨rfl, below_iter _ _ _⟩

set_option maxHeartbeats 4000000 in
theorem indexRune_high (c : Int) (w : World) (h1 : 128 ≤ c) (h2 : c < 55296 ∨ 57343 < c) (h3 : c ≤ 1114111) (h4 : c ≠ 65533) :
    Calls Try.prog 66 #[.string ⟨#[49, 50, 51, 52, 53, 54, 55, 56, 57, 48, 69, 84]⟩, .int .i32 c] w fun e w' => e = .returned (.int .i64 (-1)) ∧ Below w.heap.size w w' := by
  have hv : Utf8.valid c = true := by rw [validRune_eq]; unfold validRune; exact decide_eq_true (by omega)
  obtain ⟨e2, e4, el⟩ := encode_facts c hv h1
  have hne : (c == 65533) = false := by rw [beq_eq_false_iff_ne]; omega
  have HV := hide (validRune_yes c w (by omega) h2 h3)
  generalize he : Utf8.encode c = nd at *
  have hcase : nd.size = 2 ∨ nd.size = 3 ∨ nd.size = 4 := by omega
  clear hv h2 h4 e2 e4 h3
  rcases hcase with hsz | hsz | hsz
  · have hb1' : ∀ h : 1 < nd.size, 128 ≤ (nd[1]'h).toNat := by
      intro h
      have h9 := el (by omega)
      simpa only [hsz] using h9
    go_enter Try.func66, Try.ntmps66
    go_wp2_with fail
    refine HV.out.mono ?_
    rintro e w' ⟨rfl, rfl⟩
    go_wp2_with fail
    go_step3
    go_wp2_with fail
    go_loopw [9] (fun i wr => i = .int .i64 1 ∧ wr = w) (fun _ _ => 0)
    case atStart => exact ⟨rfl, rfl⟩
    case round =>
      obtain ⟨rfl, rfl⟩ := hrel
      have hb1 : 1 < nd.size := by omega
      have hbb := hb1' hb1
      have hbs : (({ data := #[49, 50, 51, 52, 53, 54, 55, 56, 57, 48, 69, 84] } : ByteArray)[1]'(by decide)).toNat = 50 := rfl
      have hbne : ((((({ data := #[49, 50, 51, 52, 53, 54, 55, 56, 57, 48, 69, 84] } : ByteArray)[1]'(by decide)).toNat : Nat) : Int) != (((nd[1]'hb1).toNat : Nat) : Int)) = true := by rw [bne_iff_ne, hbs]; omega
      clear hbs
      have hbu : (nd[1]'hb1).toNat < 256 := UInt8.toNat_lt _
      go_wp2_with fail
      go_step3
      go_wp2_with fail
      go_region
      all_goals
        go_wp2_with fail
        refine wp_region_held_drew (S := fun _ => True) (by kernel_rfl) trivial (fun hS => ?_)
        refine wpAnyH_take (i := 0) (v := .string ⟨#[49, 50, 51, 52, 53, 54, 55, 56, 57, 48, 69, 84]⟩) rfl (by kernel_rfl) (by kernel_rfl) (by kernel_rfl) (fun _ _ _ h => h) (Or.inl ⟨by kernel_rfl, fun w' hS' => by clear hS'; go_simp <;> first | rfl | decide⟩) hS ?_
        refine wpAnyH_take (i := 1) (v := .int .i64 1) rfl (by kernel_rfl) (by kernel_rfl) (by kernel_rfl) (fun _ _ _ h => h) (Or.inl ⟨by kernel_rfl, fun w' hS' => by clear hS'; go_simp <;> first | rfl | decide⟩) hS ?_
        refine wpAnyH_take (i := 2) (v := .int .i64 2) rfl (by kernel_rfl) (by kernel_rfl) (by kernel_rfl) (fun _ _ _ h => h) (Or.inl ⟨by kernel_rfl, fun w' hS' => by clear hS'; go_simp <;> first | rfl | decide⟩) hS ?_
        refine wpAnyH_take (i := 3) (v := .string ⟨#[51, 52, 53, 54, 55, 56, 57, 48, 69, 84]⟩) rfl (by kernel_rfl) (by kernel_rfl) (by kernel_rfl) (fun _ _ _ h => h) (Or.inl ⟨by kernel_rfl, fun w' hS' => by clear hS'; go_simp <;> first | rfl | decide⟩) hS ?_
        refine wpAnyH_take (i := 4) (v := .string nd) rfl (by kernel_rfl) (by kernel_rfl) (by kernel_rfl) (fun _ _ _ h => h) (Or.inl ⟨by kernel_rfl, fun w' hS' => by clear hS'; go_simp <;> first | rfl | decide⟩) hS ?_
        refine wpAnyH_take (i := 5) (v := .int .i64 1) rfl (by kernel_rfl) (by kernel_rfl) (by kernel_rfl) (fun _ _ _ h => h) (Or.inl ⟨by kernel_rfl, fun w' hS' => by clear hS'; go_simp <;> first | rfl | decide⟩) hS ?_
        refine wpAnyH_take (i := 6) (v := .int .u8 (((nd[1]'hb1).toNat : Nat) : Int)) rfl (by kernel_rfl) (by kernel_rfl) (by kernel_rfl) (fun _ _ _ h => h) (Or.inl ⟨by kernel_rfl, fun w' hS' => by clear hS'; go_simp <;> first | rfl | decide⟩) hS ?_
        refine wpAnyH_ready (rs := [7]) (by kernel_rfl) (by simp) ?_
        refine AllReadyH.cons rfl (fun K hK => ?_) AllReadyH.nil
        go_simp
        refine (indexByte_neg _ _ _ (by decide) (by omega) (by omega)).mono ?_
        rintro ex wo ⟨rfl, hwo⟩
        refine hK.out _ _ trivial (fun hS => ?_)
        clear hK
        refine wpAnyH_take (i := 8) (v := .int .i64 (-1)) rfl (by kernel_rfl) (by kernel_rfl) (by kernel_rfl) (fun _ _ _ h => h) (Or.inl ⟨by kernel_rfl, fun w' hS' => by clear hS'; go_simp <;> first | rfl | decide⟩) hS ?_
        refine wpAnyH_done (by kernel_rfl) ?_ _
        have hBo : Below wr.heap.size wr wo := by rw [← hwo]; exact ((Below.refl _ _).drew).drew
        clear hwo
        go_wp2_with fail
        rw [Exit.noGoto_ret]
        go_wp2_with fail
        rw [Exit.noGoto_ret]
        go_ret
        exact ⟨rfl, hBo⟩
  · have hb1' : ∀ h : 2 < nd.size, 128 ≤ (nd[2]'h).toNat := by
      intro h
      have h9 := el (by omega)
      simpa only [hsz] using h9
    go_enter Try.func66, Try.ntmps66
    go_wp2_with fail
    refine HV.out.mono ?_
    rintro e w' ⟨rfl, rfl⟩
    go_wp2_with fail
    go_step3
    go_wp2_with fail
    go_loopw [9] (fun i wr => i = .int .i64 2 ∧ wr = w) (fun _ _ => 0)
    case atStart => exact ⟨rfl, rfl⟩
    case round =>
      obtain ⟨rfl, rfl⟩ := hrel
      have hb1 : 2 < nd.size := by omega
      have hbb := hb1' hb1
      have hbs : (({ data := #[49, 50, 51, 52, 53, 54, 55, 56, 57, 48, 69, 84] } : ByteArray)[2]'(by decide)).toNat = 51 := rfl
      have hbne : ((((({ data := #[49, 50, 51, 52, 53, 54, 55, 56, 57, 48, 69, 84] } : ByteArray)[2]'(by decide)).toNat : Nat) : Int) != (((nd[2]'hb1).toNat : Nat) : Int)) = true := by rw [bne_iff_ne, hbs]; omega
      clear hbs
      have hbu : (nd[2]'hb1).toNat < 256 := UInt8.toNat_lt _
      go_wp2_with fail
      go_step3
      go_wp2_with fail
      go_region
      all_goals
        go_wp2_with fail
        refine wp_region_held_drew (S := fun _ => True) (by kernel_rfl) trivial (fun hS => ?_)
        refine wpAnyH_take (i := 0) (v := .string ⟨#[49, 50, 51, 52, 53, 54, 55, 56, 57, 48, 69, 84]⟩) rfl (by kernel_rfl) (by kernel_rfl) (by kernel_rfl) (fun _ _ _ h => h) (Or.inl ⟨by kernel_rfl, fun w' hS' => by clear hS'; go_simp <;> first | rfl | decide⟩) hS ?_
        refine wpAnyH_take (i := 1) (v := .int .i64 2) rfl (by kernel_rfl) (by kernel_rfl) (by kernel_rfl) (fun _ _ _ h => h) (Or.inl ⟨by kernel_rfl, fun w' hS' => by clear hS'; go_simp <;> first | rfl | decide⟩) hS ?_
        refine wpAnyH_take (i := 2) (v := .int .i64 3) rfl (by kernel_rfl) (by kernel_rfl) (by kernel_rfl) (fun _ _ _ h => h) (Or.inl ⟨by kernel_rfl, fun w' hS' => by clear hS'; go_simp <;> first | rfl | decide⟩) hS ?_
        refine wpAnyH_take (i := 3) (v := .string ⟨#[52, 53, 54, 55, 56, 57, 48, 69, 84]⟩) rfl (by kernel_rfl) (by kernel_rfl) (by kernel_rfl) (fun _ _ _ h => h) (Or.inl ⟨by kernel_rfl, fun w' hS' => by clear hS'; go_simp <;> first | rfl | decide⟩) hS ?_
        refine wpAnyH_take (i := 4) (v := .string nd) rfl (by kernel_rfl) (by kernel_rfl) (by kernel_rfl) (fun _ _ _ h => h) (Or.inl ⟨by kernel_rfl, fun w' hS' => by clear hS'; go_simp <;> first | rfl | decide⟩) hS ?_
        refine wpAnyH_take (i := 5) (v := .int .i64 2) rfl (by kernel_rfl) (by kernel_rfl) (by kernel_rfl) (fun _ _ _ h => h) (Or.inl ⟨by kernel_rfl, fun w' hS' => by clear hS'; go_simp <;> first | rfl | decide⟩) hS ?_
        refine wpAnyH_take (i := 6) (v := .int .u8 (((nd[2]'hb1).toNat : Nat) : Int)) rfl (by kernel_rfl) (by kernel_rfl) (by kernel_rfl) (fun _ _ _ h => h) (Or.inl ⟨by kernel_rfl, fun w' hS' => by clear hS'; go_simp <;> first | rfl | decide⟩) hS ?_
        refine wpAnyH_ready (rs := [7]) (by kernel_rfl) (by simp) ?_
        refine AllReadyH.cons rfl (fun K hK => ?_) AllReadyH.nil
        go_simp
        refine (indexByte_neg _ _ _ (by decide) (by omega) (by omega)).mono ?_
        rintro ex wo ⟨rfl, hwo⟩
        refine hK.out _ _ trivial (fun hS => ?_)
        clear hK
        refine wpAnyH_take (i := 8) (v := .int .i64 (-1)) rfl (by kernel_rfl) (by kernel_rfl) (by kernel_rfl) (fun _ _ _ h => h) (Or.inl ⟨by kernel_rfl, fun w' hS' => by clear hS'; go_simp <;> first | rfl | decide⟩) hS ?_
        refine wpAnyH_done (by kernel_rfl) ?_ _
        have hBo : Below wr.heap.size wr wo := by rw [← hwo]; exact ((Below.refl _ _).drew).drew
        clear hwo
        go_wp2_with fail
        rw [Exit.noGoto_ret]
        go_wp2_with fail
        rw [Exit.noGoto_ret]
        go_ret
        exact ⟨rfl, hBo⟩
  · have hb1' : ∀ h : 3 < nd.size, 128 ≤ (nd[3]'h).toNat := by
      intro h
      have h9 := el (by omega)
      simpa only [hsz] using h9
    go_enter Try.func66, Try.ntmps66
    go_wp2_with fail
    refine HV.out.mono ?_
    rintro e w' ⟨rfl, rfl⟩
    go_wp2_with fail
    go_step3
    go_wp2_with fail
    go_loopw [9] (fun i wr => i = .int .i64 3 ∧ wr = w) (fun _ _ => 0)
    case atStart => exact ⟨rfl, rfl⟩
    case round =>
      obtain ⟨rfl, rfl⟩ := hrel
      have hb1 : 3 < nd.size := by omega
      have hbb := hb1' hb1
      have hbs : (({ data := #[49, 50, 51, 52, 53, 54, 55, 56, 57, 48, 69, 84] } : ByteArray)[3]'(by decide)).toNat = 52 := rfl
      have hbne : ((((({ data := #[49, 50, 51, 52, 53, 54, 55, 56, 57, 48, 69, 84] } : ByteArray)[3]'(by decide)).toNat : Nat) : Int) != (((nd[3]'hb1).toNat : Nat) : Int)) = true := by rw [bne_iff_ne, hbs]; omega
      clear hbs
      have hbu : (nd[3]'hb1).toNat < 256 := UInt8.toNat_lt _
      go_wp2_with fail
      go_step3
      go_wp2_with fail
      go_region
      all_goals
        go_wp2_with fail
        refine wp_region_held_drew (S := fun _ => True) (by kernel_rfl) trivial (fun hS => ?_)
        refine wpAnyH_take (i := 0) (v := .string ⟨#[49, 50, 51, 52, 53, 54, 55, 56, 57, 48, 69, 84]⟩) rfl (by kernel_rfl) (by kernel_rfl) (by kernel_rfl) (fun _ _ _ h => h) (Or.inl ⟨by kernel_rfl, fun w' hS' => by clear hS'; go_simp <;> first | rfl | decide⟩) hS ?_
        refine wpAnyH_take (i := 1) (v := .int .i64 3) rfl (by kernel_rfl) (by kernel_rfl) (by kernel_rfl) (fun _ _ _ h => h) (Or.inl ⟨by kernel_rfl, fun w' hS' => by clear hS'; go_simp <;> first | rfl | decide⟩) hS ?_
        refine wpAnyH_take (i := 2) (v := .int .i64 4) rfl (by kernel_rfl) (by kernel_rfl) (by kernel_rfl) (fun _ _ _ h => h) (Or.inl ⟨by kernel_rfl, fun w' hS' => by clear hS'; go_simp <;> first | rfl | decide⟩) hS ?_
        refine wpAnyH_take (i := 3) (v := .string ⟨#[53, 54, 55, 56, 57, 48, 69, 84]⟩) rfl (by kernel_rfl) (by kernel_rfl) (by kernel_rfl) (fun _ _ _ h => h) (Or.inl ⟨by kernel_rfl, fun w' hS' => by clear hS'; go_simp <;> first | rfl | decide⟩) hS ?_
        refine wpAnyH_take (i := 4) (v := .string nd) rfl (by kernel_rfl) (by kernel_rfl) (by kernel_rfl) (fun _ _ _ h => h) (Or.inl ⟨by kernel_rfl, fun w' hS' => by clear hS'; go_simp <;> first | rfl | decide⟩) hS ?_
        refine wpAnyH_take (i := 5) (v := .int .i64 3) rfl (by kernel_rfl) (by kernel_rfl) (by kernel_rfl) (fun _ _ _ h => h) (Or.inl ⟨by kernel_rfl, fun w' hS' => by clear hS'; go_simp <;> first | rfl | decide⟩) hS ?_
        refine wpAnyH_take (i := 6) (v := .int .u8 (((nd[3]'hb1).toNat : Nat) : Int)) rfl (by kernel_rfl) (by kernel_rfl) (by kernel_rfl) (fun _ _ _ h => h) (Or.inl ⟨by kernel_rfl, fun w' hS' => by clear hS'; go_simp <;> first | rfl | decide⟩) hS ?_
        refine wpAnyH_ready (rs := [7]) (by kernel_rfl) (by simp) ?_
        refine AllReadyH.cons rfl (fun K hK => ?_) AllReadyH.nil
        go_simp
        refine (indexByte_neg _ _ _ (by decide) (by omega) (by omega)).mono ?_
        rintro ex wo ⟨rfl, hwo⟩
        refine hK.out _ _ trivial (fun hS => ?_)
        clear hK
        refine wpAnyH_take (i := 8) (v := .int .i64 (-1)) rfl (by kernel_rfl) (by kernel_rfl) (by kernel_rfl) (fun _ _ _ h => h) (Or.inl ⟨by kernel_rfl, fun w' hS' => by clear hS'; go_simp <;> first | rfl | decide⟩) hS ?_
        refine wpAnyH_done (by kernel_rfl) ?_ _
        have hBo : Below wr.heap.size wr wo := by rw [← hwo]; exact ((Below.refl _ _).drew).drew
        clear hwo
        go_wp2_with fail
        rw [Exit.noGoto_ret]
        go_wp2_with fail
        rw [Exit.noGoto_ret]
        go_ret
        exact ⟨rfl, hBo⟩

end Go.Proofs.Ytfnmkbcdchnnnaa

/- Contract: strings.IndexRune at the signs, at every rune. -/
namespace Go.Proofs.Ytfnmkbcdchnnnaa
open Go.RowKit

theorem indexRune_any (c : Nat) (w : World) (h2 : c < 55296 ∨ 57343 < c) (h3 : c ≤ 1114111) :
    Calls Try.prog 66 #[.string ⟨#[49, 50, 51, 52, 53, 54, 55, 56, 57, 48, 69, 84]⟩, .int .i32 c] w fun e w' => e = .returned (.int .i64 (si c)) ∧ Below w.heap.size w w' := by
  by_cases h1 : c < 128
  · exact indexRune_low c w h1
  · have hs : si c = -1 := by unfold si; rw [if_neg h1]
    rw [hs]
    by_cases h4 : c = 65533
    · subst h4; exact indexRune_bad w
    · exact indexRune_high c w (by omega) (by omega) (by omega) (by omega)

theorem si_range (c : Nat) : -1 ≤ si c ∧ si c ≤ 11 := by
  unfold si
  by_cases h : c < 128
  · rw [if_pos h]
    have key : ∀ k : Fin 128, -1 ≤ Go.Lib.indexByte [49, 50, 51, 52, 53, 54, 55, 56, 57, 48, 69, 84] k.1.toUInt8 ∧ Go.Lib.indexByte [49, 50, 51, 52, 53, 54, 55, 56, 57, 48, 69, 84] k.1.toUInt8 ≤ 11 := by decide +kernel
    exact key ⟨c, h⟩
  · rw [if_neg h]; omega

end Go.Proofs.Ytfnmkbcdchnnnaa

/- Plain: the runes of a text. -/
namespace Go.Proofs.Ytfnmkbcdchnnnaa
open Go.RowKit Go.Lib

/-- The runes of a text from a place on, at most so many. -/
def rns (s : ByteArray) : Nat → Nat → List Nat
  | 0, _ => []
  | f + 1, pos => if pos < s.size then (Utf8.decode s pos).1 :: rns s f (pos + (Utf8.decode s pos).2) else []

def runesOf (s : ByteArray) : List Nat := rns s s.size 0

theorem rns_length (s : ByteArray) : ∀ f pos, (rns s f pos).length ≤ f
  | 0, _ => by simp [rns]
  | f + 1, pos => by
    have ih := rns_length s f (pos + (Utf8.decode s pos).2)
    unfold rns
    split
    · simp; omega
    · simp

theorem runesOf_length (s : ByteArray) : (runesOf s).length ≤ s.size := rns_length s _ _

/-- Runes up to a place, and the rest. -/
def RunesTo (s : ByteArray) (pre : List Nat) (pos : Nat) : Prop := ∃ f, s.size - pos ≤ f ∧ runesOf s = pre ++ rns s f pos

theorem runesTo_start (s : ByteArray) : RunesTo s [] 0 := ⟨s.size, by omega, rfl⟩

theorem RunesTo.next {s : ByteArray} {pre : List Nat} {pos : Nat} (h : RunesTo s pre pos) (hp : pos < s.size) : RunesTo s (pre ++ [(Utf8.decode s pos).1]) (pos + (Utf8.decode s pos).2) := by
  obtain ⟨f, hf, e⟩ := h
  have hw := decode_width_pos s pos hp
  match f, hf, e with
  | 0, hf, _ => omega
  | f + 1, hf, e =>
    refine ⟨f, by omega, ?_⟩
    rw [e, rns, if_pos hp, List.append_assoc, List.singleton_append]

theorem RunesTo.done {s : ByteArray} {pre : List Nat} {pos : Nat} (h : RunesTo s pre pos) (hp : ¬ pos < s.size) : runesOf s = pre := by
  obtain ⟨f, hf, e⟩ := h
  rw [e]
  cases f with
  | zero => simp [rns]
  | succ f => rw [rns, if_neg hp, List.append_nil]

theorem RunesTo.mem {s : ByteArray} {pre : List Nat} {pos : Nat} (h : RunesTo s pre pos) (hp : pos < s.size) : (Utf8.decode s pos).1 ∈ runesOf s ∧ pre.length < s.size := by
  obtain ⟨f, hf, e⟩ := h.next hp
  constructor
  · rw [e]; simp
  · have := runesOf_length s
    rw [e] at this
    simp at this
    omega

theorem decode_le (s : ByteArray) (pos : Nat) : (Utf8.decode s pos).1 ≤ 1114111 := by
  rw [decode_at]
  have h0 : (s.get! pos).toNat < 256 := UInt8.toNat_lt _
  unfold decodeN
  repeat' split
  all_goals simp only
  all_goals omega

end Go.Proofs.Ytfnmkbcdchnnnaa

/- Runes as they are decoded; rows of the call's own beside an iterator. -/
namespace Go.Proofs.Ytfnmkbcdchnnnaa
open Go.RowKit Go.Lib
set_option maxRecDepth 20000

theorem decode_ok (s : ByteArray) (pos : Nat) : (Utf8.decode s pos).1 < 55296 ∨ 57343 < (Utf8.decode s pos).1 := by
  rw [decode_at]
  have h0 : (s.get! pos).toNat < 256 := UInt8.toNat_lt _
  unfold decodeN
  repeat' split
  all_goals simp only
  all_goals omega

theorem owns_iter {w : World} {base e n b : Nat} {v : Value} {xs : List Value} {s : ByteArray} {p : Nat} (h : w.ownsRow base e 1 v n xs) (hb : w.heap[b]? = some (.stringIter s p)) (s' : ByteArray) (pos : Nat) : (w.iterAt b s' pos).ownsRow base e 1 v n xs := by
  refine ⟨h.1, ?_⟩
  rcases h.2 with h2 | ⟨g, cap, cur, rfl, hg, hh, r⟩
  · exact Or.inl h2
  · refine Or.inr ⟨g, cap, cur, rfl, hg, ?_, r⟩
    rw [iterAt_other _ _ _ _ _ (fun e => by subst e; rw [hb] at hh; cases hh)]
    exact hh

end Go.Proofs.Ytfnmkbcdchnnnaa

/- append, and where the new slice lies. -/
namespace Go.Proofs.Ytfnmkbcdchnnnaa
open Go.RowKit

theorem run_append_keep {P : Program} (w : World) (base : Nat) (t ty e : TypeId) (i : TypeInfo) (z : Value) (size bytes : Nat) (ht : P.underlying t = some (.slice e)) (hi : P.info? e = some i) (hz : i.zero = some z)
    (hsize : i.size = size) (hby : i.bytes = bytes) (hzs : z.cells.size = size) (hsz : 0 < size)
    (v : Value) (n : Nat) (xs : List Value) (hown : w.ownsRow base e size v n xs)
    (a : Addr) (m c : Nat) (news : List Value) (hl : news.length = m * size) (hnews : ∀ j u, news[j]? = some u → w.cell? (a.add j) = some u) (h1 : ∀ u ∈ news, u.oneCell' = true)
    (h63 : n + m ≤ maxLen) (hbytes : (n + m) * bytes ≤ 140737488355328) (hbase : base ≤ w.heap.size) :
    ∃ v' w', (Builtin.append_ #[t, t] ty #[v, .slice (some a) m c]).run P w = .ok v' w' ∧ w'.ownsRow base e size v' (n + m) (xs ++ news) ∧ w.grownBy w' v.ownBlock ∧
      (v'.ownBlock = v.ownBlock ∨ (v'.ownBlock = some w.heap.size ∧ w.grownBy w' none)) := by
  obtain ⟨v', w', hr, h2, h3, _, h5⟩ := run_append_own_at (P := P) w base t ty e i z size bytes ht hi hz hsize hby hzs hsz v n xs hown a m c news hl hnews h1 h63 hbytes hbase
  refine ⟨v', w', hr, h2, h3, ?_⟩
  subst hsize
  subst hby
  rcases hown.2 with ⟨rfl, rfl⟩ | ⟨g, cap, cur, rfl, hbg, hg, hnc, hcm, hcs, htake⟩
  · exact h5.imp id (fun h => ⟨h, h3⟩)
  · by_cases hroom : n + m ≤ cap
    · have hfit : n * i.size + news.length ≤ cur.size := by rw [hl, hcs, ← Nat.add_mul]; exact Nat.mul_le_mul_right _ hroom
      have hr' := run_append_room (P := P) w t ty e i ht hi g n cap cur hg a m c news hl hnews h1 hroom hfit
      rw [hr] at hr'
      obtain ⟨e1, _⟩ := Result.ok.inj hr'
      left; rw [e1]; rfl
    · have holds : ∀ j u, xs[j]? = some u → w.cell? ((⟨g, 0, none⟩ : Addr).add j) = some u := hown.cells (g := g) rfl
      have hsmall : n + m ≤ 9223372036854775807 := by simp only [maxLen] at h63; omega
      have hr' := run_append_grow (P := P) w t ty e i z ht hi hz ⟨g, 0, none⟩ n cap xs hown.1 holds a m c news hl hnews (by omega) (by omega) (growslice_fits (by omega) hbytes)
      rw [hr] at hr'
      obtain ⟨e1, e2⟩ := Result.ok.inj hr'
      right
      rw [e1, e2]
      exact ⟨rfl, ⟨rfl, rfl, rfl, by simp, fun k hk _ => Below.heap_alloc w.drew _ k hk⟩⟩

theorem wpList_append_keep {P : Program} (w : World) {ops : Array Oper} {rest : List Oper} {o : Oper} {a : Act} {Q : Exit → Act → World → Prop} (hgd : o.guard = none) (s x : Operand) (t : TypeId)
    (ho : o.op = .call { callee := .builtin .append, args := #[s, x], argTypes := #[t, t] })
    (base : Nat) (e : TypeId) (i : TypeInfo) (z : Value) (size bytes : Nat) (ht : P.underlying t = some (.slice e)) (hi : P.info? e = some i) (hz : i.zero = some z)
    (hsize : i.size = size) (hby : i.bytes = bytes) (hzs : z.cells.size = size) (hsz : 0 < size)
    (v : Value) (n : Nat) (xs : List Value) (hs : a.eval s = v) (hown : w.ownsRow base e size v n xs)
    (ad : Addr) (m c : Nat) (news : List Value) (hx : a.eval x = .slice (some ad) m c) (hl : news.length = m * size) (hnews : ∀ j u, news[j]? = some u → w.cell? (ad.add j) = some u) (h1 : ∀ u ∈ news, u.oneCell' = true)
    (h63 : n + m ≤ maxLen) (hbytes : (n + m) * bytes ≤ 140737488355328) (hbase : base ≤ w.heap.size)
    (h : ∀ v' w', w'.ownsRow base e size v' (n + m) (xs ++ news) → w.grownBy w' v.ownBlock → (v'.ownBlock = v.ownBlock ∨ (v'.ownBlock = some w.heap.size ∧ w.grownBy w' none)) → wpList P ops Q rest (a.put o.dst v') w') :
    wpList P ops Q (o :: rest) a w := by
  refine wpList_plain hgd fun K hK => ?_
  obtain ⟨v', w', hr, h2, h3, h4⟩ := run_append_keep (P := P) w base t o.type e i z size bytes ht hi hz hsize hby hzs hsz v n xs hown ad m c news hl hnews h1 h63 hbytes hbase
  unfold Oper.wp execOp
  simp only [ho, resolve, invoke, builtin, Sem.run_bind, Sem.run_pure, Result.andThen_ok, List.map_toArray, List.map_cons, List.map_nil, hs, hx, hr]
  exact hK _ _ (h v' w' h2 h3 h4)

/-- .. as one step of a region that draws. -/
theorem step_append_keep {P : Program} {ops : Array Oper} {o : Oper} {a : Act} {w : World} {K : Act → World → Prop} {Q : Exit → Act → World → Prop} {E : Prop} (hg : o.guard = none) (s x : Operand) (t : TypeId)
    (ho : o.op = .call { callee := .builtin .append, args := #[s, x], argTypes := #[t, t] })
    (base : Nat) (e : TypeId) (i : TypeInfo) (z : Value) (size bytes : Nat) (ht : P.underlying t = some (.slice e)) (hi : P.info? e = some i) (hz : i.zero = some z)
    (hsize : i.size = size) (hby : i.bytes = bytes) (hzs : z.cells.size = size) (hsz : 0 < size)
    (v : Value) (n : Nat) (xs : List Value) (hs : a.eval s = v) (hown : w.ownsRow base e size v n xs)
    (ad : Addr) (m c : Nat) (news : List Value) (hx : a.eval x = .slice (some ad) m c) (hl : news.length = m * size) (hnews : ∀ j u, news[j]? = some u → w.cell? (ad.add j) = some u) (h1 : ∀ u ∈ news, u.oneCell' = true)
    (h63 : n + m ≤ maxLen) (hbytes : (n + m) * bytes ≤ 140737488355328) (hbase : base ≤ w.heap.size)
    (h : ∀ v' w', w'.ownsRow base e size v' (n + m) (xs ++ news) → w.grownBy w' v.ownBlock → (v'.ownBlock = v.ownBlock ∨ (v'.ownBlock = some w.heap.size ∧ w.grownBy w' none)) → K (a.put o.dst v') w') :
    if Region.wanted o (yielded ops a.tmps) = true then Oper.wp P o a w K Q else E := by
  have hw : Region.wanted o (yielded ops a.tmps) = true := by simp [Region.wanted, hg]
  rw [if_pos hw]
  obtain ⟨v', w', hr, h2, h3, h4⟩ := run_append_keep (P := P) w base t o.type e i z size bytes ht hi hz hsize hby hzs hsz v n xs hown ad m c news hl hnews h1 h63 hbytes hbase
  unfold Oper.wp execOp
  simp only [ho, resolve, invoke, builtin, Sem.run_bind, Sem.run_pure, Result.andThen_ok, List.map_toArray, List.map_cons, List.map_nil, hs, hx, hr]
  exact h v' w' h2 h3 h4

end Go.Proofs.Ytfnmkbcdchnnnaa

/- A reader of patterns, plain and in memory; contracts: putStar, put. -/
namespace Go.Proofs.Ytfnmkbcdchnnnaa
open Go.RowKit
set_option maxRecDepth 20000

/-- What is known of a pattern. -/
structure MP where
  there : List Bool
  places : List Int
  star : Bool
  ahead : Nat

def MP.new : MP := ⟨List.replicate 12 false, [], false, 0⟩

def MP.put (n : Nat) (st : MP) (b : Int) : MP := if st.places.length ≤ n then { st with places := st.places ++ [b] } else st

def MP.take (n : Nat) (st : MP) (c : Nat) : Int × MP :=
  if c = 42 then (if st.star then (4, st) else (0, { st with star := true, ahead := st.places.length }))
  else if c = 63 then (0, st.put n (-1))
  else if si c < 0 ∨ (n : Int) ≤ si c then (4, st)
  else if st.there.getD (si c).toNat false then (2, st)
  else (0, { st with there := st.there.set (si c).toNat true }.put n (si c))

def MP.run (n : Nat) : MP → List Nat → Int × MP
  | st, [] => (0, st)
  | st, c :: cs => if (st.take n c).1 = 0 then MP.run n (st.take n c).2 cs else st.take n c

def MP.end_ (n : Nat) (st : MP) : Int × List Int :=
  if n < st.places.length ∨ st.places.length < n ∧ st.star = false then (1, [])
  else (0, st.places.take st.ahead ++ List.replicate (n - st.places.length) (-1) ++ st.places.drop st.ahead)

/-- What a text is read to. -/
def MP.read (n : Nat) (cs : List Nat) : Int × List Int :=
  let r := MP.run n MP.new cs
  if r.1 = 0 then r.2.end_ n else (r.1, [])

theorem MP.run_snoc (n : Nat) : ∀ (cs : List Nat) (st : MP) (c : Nat), (MP.run n st cs).1 = 0 → MP.run n st (cs ++ [c]) = (MP.run n st cs).2.take n c
  | [], st, c, _ => by
    show (if (st.take n c).1 = 0 then MP.run n (st.take n c).2 [] else st.take n c) = st.take n c
    split
    · rename_i h; show ((0 : Int), (st.take n c).2) = _; rw [← h]
    · rfl
  | d :: ds, st, c, h => by
    have h1 : (if (st.take n d).1 = 0 then MP.run n (st.take n d).2 ds else st.take n d).1 = 0 := h
    show (if (st.take n d).1 = 0 then MP.run n (st.take n d).2 (ds ++ [c]) else st.take n d) = (if (st.take n d).1 = 0 then MP.run n (st.take n d).2 ds else st.take n d).2.take n c
    by_cases h2 : (st.take n d).1 = 0
    · rw [if_pos h2] at h1 ⊢
      rw [if_pos h2]
      exact MP.run_snoc n ds _ c h1
    · rw [if_neg h2] at h1; exact absurd h1 h2

theorem MP.run_bad (n : Nat) : ∀ (cs ds : List Nat) (st : MP), (MP.run n st cs).1 ≠ 0 → MP.run n st (cs ++ ds) = MP.run n st cs
  | [], _, _, h => absurd rfl h
  | d :: cs, ds, st, h => by
    have h1 : (if (st.take n d).1 = 0 then MP.run n (st.take n d).2 cs else st.take n d).1 ≠ 0 := h
    show (if (st.take n d).1 = 0 then MP.run n (st.take n d).2 (cs ++ ds) else st.take n d) = (if (st.take n d).1 = 0 then MP.run n (st.take n d).2 cs else st.take n d)
    by_cases h2 : (st.take n d).1 = 0
    · rw [if_pos h2] at h1 ⊢
      rw [if_pos h2]
      exact MP.run_bad n cs ds _ h1
    · rw [if_neg h2, if_neg h2]

/-- What holds of a reader behind some runes. -/
structure MP.Fine (n : Nat) (st : MP) : Prop where
  thl : st.there.length = 12
  few : st.places.length ≤ n + 1
  ahd : st.ahead ≤ st.places.length

theorem MP.Fine.new (n : Nat) : MP.Fine n MP.new := ⟨rfl, by simp [MP.new], by simp [MP.new]⟩

theorem MP.put_there (n : Nat) (st : MP) (b : Int) : (st.put n b).there = st.there := by unfold MP.put; split <;> rfl

theorem MP.Fine.put {n : Nat} {st : MP} (h : MP.Fine n st) (b : Int) : MP.Fine n (st.put n b) := by
  unfold MP.put
  split
  · exact ⟨h.thl, by simp; omega, by have := h.ahd; simp; omega⟩
  · exact h

theorem MP.Fine.take {n : Nat} {st : MP} (h : MP.Fine n st) (c : Nat) : MP.Fine n (st.take n c).2 := by
  unfold MP.take
  split
  · split
    · exact h
    · exact ⟨h.thl, h.few, Nat.le_refl _⟩
  · split
    · exact h.put _
    · split
      · exact h
      · split
        · exact h
        · exact MP.Fine.put (n := n) (st := { st with there := st.there.set (si c).toNat true }) ⟨by simp; exact h.thl, h.few, h.ahd⟩ _

/-- The cells of a reader. -/
def prCells (n : Nat) (pv : Value) (st : MP) : List Value :=
  .int .i64 n :: (st.there.map Value.bool ++ [pv, .bool st.star, .int .i64 st.ahead])

/-- A reader in memory. -/
structure PrAt (w : World) (R n : Nat) (pv : Value) (st : MP) : Prop where
  blk : w.heap[R]? = some (.cells (prCells n pv st).toArray 95)
  own : w.ownsRow (R + 1) 3 1 pv st.places.length (st.places.map (Value.int .i64))
  fine : MP.Fine n st

section
variable {w : World} {R n : Nat} {pv : Value} {st : MP}

theorem PrAt.lt (h : PrAt w R n pv st) : R < w.heap.size := (Array.getElem?_eq_some_iff.1 h.blk).1

theorem PrAt.frz (h : PrAt w R n pv st) (j : Nat) : w.frozen? ⟨R, j, none⟩ = false := by simp [World.frozen?, h.blk]

theorem prCells_at (h : st.there.length = 12) : (prCells n pv st)[0]? = some (.int .i64 n) ∧ (∀ b, b < 12 → (prCells n pv st)[1 + b]? = some (.bool (st.there.getD b false))) ∧ (prCells n pv st)[13]? = some pv ∧ (prCells n pv st)[14]? = some (.bool st.star) ∧ (prCells n pv st)[15]? = some (.int .i64 st.ahead) := by
  refine ⟨rfl, fun b hb => ?_, ?_, ?_, ?_⟩
  · unfold prCells
    rw [Nat.add_comm, List.getElem?_cons_succ, List.getElem?_append_left (by simp; omega), List.getElem?_map, List.getElem?_eq_getElem (by omega)]
    simp [List.getD, show b < st.there.length by omega]
  all_goals
    unfold prCells
    rw [List.getElem?_cons_succ, List.getElem?_append_right (by simp [h])]
    simp [h]

theorem PrAt.cell (h : PrAt w R n pv st) {j : Nat} {v : Value} (hj : (prCells n pv st)[j]? = some v) : w.cell? ⟨R, j, none⟩ = some v := by
  simp [World.cell?, h.blk, hj]

theorem PrAt.c0 (h : PrAt w R n pv st) : w.cell? ⟨R, 0, none⟩ = some (.int .i64 n) := h.cell (prCells_at h.fine.thl).1
theorem PrAt.cb (h : PrAt w R n pv st) {b : Nat} (hb : b < 12) : w.cell? ⟨R, 1 + b, none⟩ = some (.bool (st.there.getD b false)) := h.cell ((prCells_at h.fine.thl).2.1 b hb)
theorem PrAt.c13 (h : PrAt w R n pv st) : w.cell? ⟨R, 13, none⟩ = some pv := h.cell (prCells_at h.fine.thl).2.2.1
theorem PrAt.c14 (h : PrAt w R n pv st) : w.cell? ⟨R, 14, none⟩ = some (.bool st.star) := h.cell (prCells_at h.fine.thl).2.2.2.1
theorem PrAt.c15 (h : PrAt w R n pv st) : w.cell? ⟨R, 15, none⟩ = some (.int .i64 st.ahead) := h.cell (prCells_at h.fine.thl).2.2.2.2

theorem heap_setR {w : World} {R j : Nat} {c : List Value} {t : TypeId} {x : Value} (h : w.heap[R]? = some (.cells c.toArray t)) : (w.setCell ⟨R, j, none⟩ x).heap[R]? = some (.cells (c.set j x).toArray t) := by
  simp [World.setCell, Array.getElem?_modify, h]

/-- A cell of a reader is set. -/
theorem PrAt.set (h : PrAt w R n pv st) {st2 : MP} {j : Nat} {x : Value} (hc : (prCells n pv st).set j x = prCells n pv st2) (hp : st2.places = st.places) (hf : MP.Fine n st2) : PrAt (w.setCell ⟨R, j, none⟩ x) R n pv st2 :=
  ⟨by rw [heap_setR h.blk, hc], by rw [hp]; exact ownsRow_setCell_below h.own (Nat.lt_succ_self R) _, hf⟩

/-- .. its places. -/
theorem PrAt.setPlaces {w' : World} {pv2 : Value} {ps : List Int} (h : PrAt w R n pv st) (hb : w'.heap[R]? = w.heap[R]?) (ho : w'.ownsRow (R + 1) 3 1 pv2 ps.length (ps.map (Value.int .i64))) (hf : MP.Fine n { st with places := ps }) :
    PrAt (w'.setCell ⟨R, 13, none⟩ pv2) R n pv2 { st with places := ps } := by
  refine ⟨?_, ownsRow_setCell_below ho (Nat.lt_succ_self R) _, hf⟩
  rw [heap_setR (by rw [hb]; exact h.blk)]
  congr 3
  unfold prCells
  rw [List.set_cons_succ, List.set_append_right _ _ (by simp [h.fine.thl])]
  simp [h.fine.thl]

theorem PrAt.setStar (h : PrAt w R n pv st) (k : Nat) (hk : k ≤ st.places.length) : PrAt ((w.setCell ⟨R, 14, none⟩ (.bool true)).setCell ⟨R, 15, none⟩ (.int .i64 k)) R n pv { st with star := true, ahead := k } := by
  have h1 : PrAt (w.setCell ⟨R, 14, none⟩ (.bool true)) R n pv { st with star := true } := h.set (by
    unfold prCells
    rw [List.set_cons_succ, List.set_append_right _ _ (by simp [h.fine.thl])]
    simp [h.fine.thl]) rfl ⟨h.fine.thl, h.fine.few, h.fine.ahd⟩
  exact h1.set (by
    unfold prCells
    rw [List.set_cons_succ, List.set_append_right _ _ (by simp [h.fine.thl])]
    simp [h.fine.thl]) rfl ⟨h.fine.thl, h.fine.few, hk⟩

theorem PrAt.setThere (h : PrAt w R n pv st) {b : Nat} (hb : b < 12) : PrAt (w.setCell ⟨R, 1 + b, none⟩ (.bool true)) R n pv { st with there := st.there.set b true } := by
  refine h.set ?_ rfl ⟨by simp [h.fine.thl], h.fine.few, h.fine.ahd⟩
  unfold prCells
  rw [Nat.add_comm, List.set_cons_succ, List.set_append_left _ _ (by simp [h.fine.thl]; exact hb), List.map_set]

theorem PrAt.later {w' : World} (h : PrAt w R n pv st) (hb : Below w.heap.size w w') : PrAt w' R n pv st :=
  ⟨by rw [hb.block _ h.lt]; exact h.blk, owns_below h.own hb (Nat.le_refl _), h.fine⟩

end

/-- .. somewhere. -/
def Pr (w : World) (R n : Nat) (st : MP) : Prop := ∃ pv, PrAt w R n pv st

set_option maxHeartbeats 2000000 in
theorem putStar_ok (R n : Nat) (pv : Value) (st : MP) (w : World) (h : PrAt w R n pv st) (hs : st.star = false) :
    Calls Try.prog 64 #[.pointer (some ⟨R, 0, none⟩)] w fun e w' => e = .returned (.int .i64 0) ∧ w' = (w.setCell ⟨R, 14, none⟩ (.bool true)).setCell ⟨R, 15, none⟩ (.int .i64 st.places.length) := by
  obtain ⟨p, c, rfl⟩ := owns_slice h.own
  have hf := h.fine.few
  have c13 := h.c13
  have c14 := h.c14
  have c15 := h.c15
  rw [hs] at c14
  have f14 := h.frz 14
  have f15 := h.frz 15
  have d15 : (w.setCell ⟨R, 14, none⟩ (.bool true)).cell? ⟨R, 15, none⟩ = some (.int .i64 st.ahead) := by rw [World.cell?_setCell_other _ _ _ _ (by intro e; simp at e)]; exact c15
  have g15 : (w.setCell ⟨R, 14, none⟩ (.bool true)).frozen? ⟨R, 15, none⟩ = false := by simp [f15]
  clear h hs
  generalize st.places.length = pl at *
  generalize st.ahead = ah at *
  go_enter Try.func64, Try.ntmps64
  go_wp2
  go_ret
  exact ⟨rfl, rfl⟩

set_option maxHeartbeats 2000000 in
theorem putStar_no (R n : Nat) (pv : Value) (st : MP) (w : World) (h : PrAt w R n pv st) (hs : st.star = true) :
    Calls Try.prog 64 #[.pointer (some ⟨R, 0, none⟩)] w fun e w' => e = .returned (.int .i64 4) ∧ w' = w := by
  have c14 := h.c14
  rw [hs] at c14
  clear h hs
  go_enter Try.func64, Try.ntmps64
  go_wp2
  go_ret
  exact ⟨rfl, rfl⟩

end Go.Proofs.Ytfnmkbcdchnnnaa

/- Blocks ahead of one, and iterators, stay. -/
namespace Go.Proofs.Ytfnmkbcdchnnnaa
open Go.RowKit

/-- Iterators stay as they are. -/
def Iters (w w' : World) : Prop := ∀ (k : Nat) (s : ByteArray) (p : Nat), w.heap[k]? = some (.stringIter s p) → w'.heap[k]? = some (.stringIter s p)

/-- Blocks ahead of R, and iterators, stay as they are. -/
structure Bel (R : Nat) (w w' : World) : Prop where
  below : Below R w w'
  iters : Iters w w'

theorem Bel.refl (R : Nat) (w : World) : Bel R w w := ⟨Below.refl _ _, fun _ _ _ h => h⟩
theorem Bel.trans {R : Nat} {a b c : World} (h1 : Bel R a b) (h2 : Bel R b c) : Bel R a c := ⟨h1.below.trans h2.below, fun k s p h => h2.iters k s p (h1.iters k s p h)⟩
theorem Bel.setCell {R : Nat} {a w : World} (h : Bel R a w) {p : Addr} (hp : R ≤ p.block) (v : Value) : Bel R a (w.setCell p v) := by
  refine ⟨h.below.setCell hp v, fun k s q hk => ?_⟩
  have h1 := h.iters k s q hk
  simp only [World.setCell, Array.getElem?_modify]
  split
  · rw [h1]; rfl
  · exact h1
theorem Bel.of {R : Nat} {w w' : World} (h : Below w.heap.size w w') (hR : R ≤ w.heap.size) : Bel R w w' := by
  refine ⟨h.mono hR, fun k s p hk => ?_⟩
  rw [h.block k (Array.getElem?_eq_some_iff.1 hk).1]
  exact hk
theorem Bel.alloc {R : Nat} {a w : World} (h : Bel R a w) (hs : R ≤ w.heap.size) (o : Obj) : Bel R a (w.alloc o) := h.trans (Bel.of ((Below.refl _ _).alloc (Nat.le_refl _) o) hs)
theorem Bel.drew {R : Nat} {a w : World} (h : Bel R a w) : Bel R a w.drew := ⟨h.below.drew, h.iters⟩
theorem Bel.grown {w w2 : World} {R D k : Nat} {u : Value} {us : List Value} {e : TypeId} (hu : w.ownsRow D e 1 u k us) (hR : R + 1 ≤ D) (hl : R ≤ w.heap.size) (hg : w.grownBy w2 u.ownBlock) : Bel R w w2 := by
  refine ⟨⟨hg.os, hg.tape, hg.output, hg.size, fun j hj => hg.block j (by omega) (fun e => by have := (hu.lt j e.symm).1; omega)⟩, fun j s p hj => ?_⟩
  rw [hg.block j (Array.getElem?_eq_some_iff.1 hj).1 (fun e => ?_)]
  · exact hj
  · rcases hu.2 with ⟨rfl, _⟩ | ⟨g, cap, cur, rfl, _, hh, _⟩
    · cases e
    · have : j = g := Option.some.inj e
      subst this
      rw [hj] at hh
      cases hh

end Go.Proofs.Ytfnmkbcdchnnnaa

/- Contracts: the pattern reader's put and take. -/
namespace Go.Proofs.Ytfnmkbcdchnnnaa
open Go.RowKit
set_option maxRecDepth 20000

set_option maxHeartbeats 4000000 in
theorem put_ok (R n : Nat) (pv : Value) (st : MP) (b : Int) (w : World) (h : PrAt w R n pv st) (hn : n ≤ 12) :
    Calls Try.prog 65 #[.pointer (some ⟨R, 0, none⟩), .int .i64 b] w fun e w' => e = .returned (.tuple #[]) ∧ Pr w' R n (st.put n b) ∧ Bel R w w' := by
  obtain ⟨i0, hi, hz0, hz1, hz2⟩ := info_parts Try.info3
  obtain ⟨p, c, rfl⟩ := owns_slice h.own
  have hf := h.fine.few
  have c0 := h.c0
  have c13 := h.c13
  have f13 := h.frz 13
  have hRl := h.lt
  by_cases hroom : st.places.length ≤ n
  · have hput : st.put n b = { st with places := st.places ++ [b] } := by unfold MP.put; rw [if_pos hroom]
    rw [hput]
    have HOWN := hide h.own
    have HF : Hid (MP.Fine n { st with places := st.places ++ [b] }) := by rw [← hput]; exact h.fine.put b
    have H := hide h
    clear hput h
    generalize hgl : st.places.length = pl at *
    go_enter Try.func65, Try.ntmps65
    go_wp2
    go_quiet (fail)
    have HW := hide (show PrAt (w.drewN nq) R n (.slice p pl c) st from ⟨H.out.blk, by rw [hgl]; exact HOWN.out, H.out.fine⟩)
    have hOW := hide (show (w.drewN nq).ownsRow (R + 1) 3 1 (.slice p pl c) pl (st.places.map (Value.int .i64)) from HOWN.out)
    have hBW : Bel R w (w.drewN nq) := ⟨⟨rfl, rfl, rfl, Nat.le_refl _, fun _ _ => rfl⟩, fun _ _ _ h => h⟩
    have k13 := HW.out.c13
    have l13 := HW.out.frz 13
    have hRW := HW.out.lt
    clear HOWN H c13 f13 c0 hRl
    generalize w.drewN nq = W at *
    go_wp2_with (at_builtin; refine wpList_append_own _ rfl _ _ 60 rfl (R + 1) 3 i0 (.int .i64 0) 1 8 Try.underlying60 hi hz0 hz1 hz2 rfl (by decide) _ _ _ rfl (hOW.out.alloc _) ⟨W.heap.size, 0, none⟩ 1 1 [.int .i64 b] rfl rfl ?c1 ?c2 ?c3 ?c4 ?c5 ?_)
    case c1 => exact cell_one_new _ _ _
    case c2 => intro u hu; simp at hu; subst hu; rfl
    case c3 => unfold maxLen; omega
    case c4 => omega
    case c5 => simp; omega
    intro v' w1 hown' hgrow _
    have hB1 : Bel R W w1 := ((Bel.refl R W).alloc (by omega) _).trans (Bel.grown (hOW.out.alloc _) (Nat.le_refl _) (by simp; omega) hgrow)
    have hR1 : w1.heap[R]? = W.heap[R]? := by
      rw [hgrow.block R (by simp; omega) (fun e => by have := ((hOW.out.alloc (.cells #[.int .i64 b] 3)).lt R e.symm).1; omega)]
      exact Below.heap_alloc W _ R hRW
    have e13 : w1.cell? ⟨R, 13, none⟩ = some (.slice p pl c) := by simp only [World.cell?, hR1] at k13 ⊢; exact k13
    have g13 : w1.frozen? ⟨R, 13, none⟩ = false := by simp only [World.frozen?, hR1] at l13 ⊢; exact l13
    have HFin : Hid (Pr (w1.setCell ⟨R, 13, none⟩ v') R n { st with places := st.places ++ [b] }) := ⟨v', HW.out.setPlaces hR1 (by rw [List.length_append, hgl, List.map_append]; exact hown') HF.out⟩
    have hB2 := hBW.trans (hB1.setCell (p := ⟨R, 13, none⟩) (Nat.le_refl _) v')
    obtain ⟨p2, c2, rfl⟩ := owns_slice hown'
    clear hown' hgrow hB1 k13 l13
    go_wp2
    exact bodyPost_end (results_none rfl _ _ _) rfl ⟨rfl, HFin.out, hB2⟩
  · have hput : st.put n b = st := by unfold MP.put; rw [if_neg hroom]
    rw [hput]
    have H := hide h
    clear hput h
    generalize hgl : st.places.length = pl at *
    go_enter Try.func65, Try.ntmps65
    go_wp2
    go_quiet (fail)
    have HFin : Hid (Pr (w.drewN nq) R n st) := ⟨_, H.out.blk, H.out.own, H.out.fine⟩
    have hBW : Bel R w (w.drewN nq) := ⟨⟨rfl, rfl, rfl, Nat.le_refl _, fun _ _ => rfl⟩, fun _ _ _ h => h⟩
    go_wp2
    exact bodyPost_end (results_none rfl _ _ _) rfl ⟨rfl, HFin.out, hBW⟩

/-- What a step of the reader leaves. -/
def PGoes (w : World) (R n : Nat) (p : Int × MP) (e : Ending) (w' : World) : Prop := e = .returned (.int .i64 p.1) ∧ Bel R w w' ∧ Pr w' R n p.2

set_option maxHeartbeats 4000000 in
theorem take_star (R n : Nat) (pv : Value) (st : MP) (w : World) (h : PrAt w R n pv st) :
    Calls Try.prog 50 #[.pointer (some ⟨R, 0, none⟩), .int .i32 42] w (PGoes w R n (st.take n 42)) := by
  by_cases hs : st.star = true
  · have HP := hide (putStar_no R n pv st w h hs)
    have HT : Hid (PGoes w R n (st.take n 42) (.returned (.int .i64 4)) w) := by
      unfold MP.take
      rw [if_pos rfl, if_pos hs]
      exact ⟨rfl, Bel.refl _ _, _, h⟩
    clear hs h
    generalize st.take n 42 = r at *
    go_enter Try.func50, Try.ntmps50
    go_wp2_with fail
    refine HP.out.mono ?_
    rintro e w1 ⟨rfl, rfl⟩
    go_wp2
    go_ret
    exact HT.out
  · have hs' : st.star = false := by simpa using hs
    have HP := hide (putStar_ok R n pv st w h hs')
    have HT : Hid (PGoes w R n (st.take n 42) (.returned (.int .i64 0)) ((w.setCell ⟨R, 14, none⟩ (.bool true)).setCell ⟨R, 15, none⟩ (.int .i64 st.places.length))) := by
      unfold MP.take
      rw [if_pos rfl, if_neg hs]
      exact ⟨rfl, ((Bel.refl R w).setCell (p := ⟨R, 14, none⟩) (Nat.le_refl _) _).setCell (p := ⟨R, 15, none⟩) (Nat.le_refl _) _, _, h.setStar _ (Nat.le_refl _)⟩
    clear hs hs' h
    generalize st.take n 42 = r at *
    generalize st.places.length = pl at *
    go_enter Try.func50, Try.ntmps50
    go_wp2_with fail
    refine HP.out.mono ?_
    rintro e w1 ⟨rfl, rfl⟩
    go_wp2
    go_ret
    exact HT.out

set_option maxHeartbeats 4000000 in
theorem take_any_bell (R n : Nat) (pv : Value) (st : MP) (w : World) (h : PrAt w R n pv st) (hn : n ≤ 12) :
    Calls Try.prog 50 #[.pointer (some ⟨R, 0, none⟩), .int .i32 63] w (PGoes w R n (st.take n 63)) := by
  have HP := hide (put_ok R n pv st (-1) w h hn)
  have HT : Hid (st.take n 63 = (0, st.put n (-1))) := by show st.take n 63 = _; unfold MP.take; rw [if_neg (by decide), if_pos rfl]
  clear h
  go_enter Try.func50, Try.ntmps50
  go_wp2_with fail
  refine HP.out.mono ?_
  rintro e w1 ⟨rfl, h1, hb1⟩
  have HF : Hid (PGoes w R n (st.take n 63) (.returned (.int .i64 0)) w1) := by rw [HT.out]; exact ⟨rfl, hb1, h1⟩
  clear h1 hb1 HT HP
  go_wp2
  go_ret
  exact HF.out

set_option maxHeartbeats 4000000 in
theorem take_bell (R n c : Nat) (pv : Value) (st : MP) (w : World) (h : PrAt w R n pv st) (hn : n ≤ 12) (hc1 : c ≠ 42) (hc2 : c ≠ 63) (h2 : c < 55296 ∨ 57343 < c) (h3 : c ≤ 1114111) :
    Calls Try.prog 50 #[.pointer (some ⟨R, 0, none⟩), .int .i32 c] w (PGoes w R n (st.take n c)) := by
  have HIX := hide (indexRune_any c w h2 h3)
  have hr := si_range c
  have d1 : decide ((c : Int) = 42) = false := by rw [decide_eq_false_iff_not]; omega
  have d2 : decide ((c : Int) = 63) = false := by rw [decide_eq_false_iff_not]; omega
  have e1 : ((c : Int) == 42) = false := by rw [beq_eq_false_iff_ne]; omega
  have e2 : ((c : Int) == 63) = false := by rw [beq_eq_false_iff_ne]; omega
  have n1 : ¬ ((c : Int) = 42) := by omega
  have n2 : ¬ ((c : Int) = 63) := by omega
  have HT : Hid (st.take n c = if si c < 0 ∨ (n : Int) ≤ si c then (4, st) else if st.there.getD (si c).toNat false then (2, st) else (0, { st with there := st.there.set (si c).toNat true }.put n (si c))) := by
    show st.take n c = _
    unfold MP.take; rw [if_neg hc1, if_neg hc2]
  clear hc1 hc2 h2 h3
  by_cases hneg : si c < 0
  · rw [if_pos (Or.inl hneg)] at HT
    go_enter Try.func50, Try.ntmps50
    go_wp2_with fail
    refine HIX.out.mono ?_
    rintro e w1 ⟨rfl, hb1⟩
    have HF : Hid (PGoes w R n (st.take n c) (.returned (.int .i64 4)) w1) := by rw [HT.out]; exact ⟨rfl, Bel.of hb1 (Nat.le_of_lt h.lt), _, h.later hb1⟩
    clear h hb1 HT HIX
    go_wp2
    go_ret
    exact HF.out
  · obtain ⟨m, hm⟩ := Int.eq_ofNat_of_zero_le (show 0 ≤ si c by omega)
    rw [hm] at HIX HT hr hneg
    clear hm
    by_cases hbig : n ≤ m
    · rw [if_pos (Or.inr (by omega))] at HT
      have hbig2 : (n : Int) ≤ (m : Int) := by omega
      go_enter Try.func50, Try.ntmps50
      go_wp2_with fail
      refine HIX.out.mono ?_
      rintro e w1 ⟨rfl, hb1⟩
      have HF : Hid (PGoes w R n (st.take n c) (.returned (.int .i64 4)) w1) := by rw [HT.out]; exact ⟨rfl, Bel.of hb1 (Nat.le_of_lt h.lt), _, h.later hb1⟩
      have c0 := (h.later hb1).c0
      clear h hb1 HT HIX
      go_wp2
      go_ret
      exact HF.out
    · have hlt : m < n := by omega
      have hm12 : m < 12 := by omega
      rw [if_neg (by omega), Int.toNat_natCast] at HT
      have hsm : ¬ ((n : Int) ≤ (m : Int)) := by omega
      by_cases hth : st.there.getD m false = true
      · rw [if_pos hth] at HT
        go_enter Try.func50, Try.ntmps50
        go_wp2_with fail
        refine HIX.out.mono ?_
        rintro e w1 ⟨rfl, hb1⟩
        have HF : Hid (PGoes w R n (st.take n c) (.returned (.int .i64 2)) w1) := by rw [HT.out]; exact ⟨rfl, Bel.of hb1 (Nat.le_of_lt h.lt), _, h.later hb1⟩
        have c0 := (h.later hb1).c0
        have cb := (h.later hb1).cb hm12
        rw [hth] at cb
        clear h hb1 HT HIX hth
        go_wp2
        go_ret
        exact HF.out
      · have hth' : st.there.getD m false = false := by simpa using hth
        rw [if_neg hth] at HT
        go_enter Try.func50, Try.ntmps50
        go_wp2_with fail
        refine HIX.out.mono ?_
        rintro e w1 ⟨rfl, hb1⟩
        have hB1 : Bel R w (w1.setCell ⟨R, 1 + m, none⟩ (.bool true)) := (Bel.of hb1 (Nat.le_of_lt h.lt)).setCell (p := ⟨R, 1 + m, none⟩) (Nat.le_refl _) _
        have c0 := (h.later hb1).c0
        have cb := (h.later hb1).cb hm12
        have fb := (h.later hb1).frz (1 + m)
        rw [hth'] at cb
        have HP := hide (put_ok R n pv { st with there := st.there.set m true } (m : Int) _ ((h.later hb1).setThere hm12) hn)
        clear h hb1 HIX hth hth'
        go_wp2_with fail
        refine HP.out.mono ?_
        rintro e w2 ⟨rfl, h2, hb2⟩
        have HF : Hid (PGoes w R n (st.take n c) (.returned (.int .i64 0)) w2) := by rw [HT.out]; exact ⟨rfl, hB1.trans hb2, h2⟩
        clear h2 hb2 HT HP
        go_wp2
        go_ret
        exact HF.out

theorem mtake_ok (R n c : Nat) (pv : Value) (st : MP) (w : World) (h : PrAt w R n pv st) (hn : n ≤ 12) (h2 : c < 55296 ∨ 57343 < c) (h3 : c ≤ 1114111) :
    Calls Try.prog 50 #[.pointer (some ⟨R, 0, none⟩), .int .i32 c] w (PGoes w R n (st.take n c)) := by
  by_cases hc1 : c = 42
  · subst hc1; exact take_star R n pv st w h
  · by_cases hc2 : c = 63
    · subst hc2; exact take_any_bell R n pv st w h hn
    · exact take_bell R n c pv st w h hn hc1 hc2 h2 h3

end Go.Proofs.Ytfnmkbcdchnnnaa

/- Several cells of a row are set. -/
namespace Go.Proofs.Ytfnmkbcdchnnnaa
open Go.RowKit

theorem heap_setCell_row {w : World} {g o : Nat} {cur : Array Value} {e : TypeId} {v : Value} (h : w.heap[g]? = some (.cells cur e)) : (w.setCell ⟨g, o, none⟩ v).heap[g]? = some (.cells (cur.setIfInBounds o v) e) := by
  simp [World.setCell, Array.getElem?_modify, h]

theorem heap_setCells_row (g : Nat) (e : TypeId) : ∀ (vs : List Value) (o : Nat) (w : World) (cur : Array Value), w.heap[g]? = some (.cells cur e) → o + vs.length ≤ cur.size →
    (w.setCells g o vs).heap[g]? = some (.cells (cur.toList.take o ++ vs ++ cur.toList.drop (o + vs.length)).toArray e)
  | [], o, w, cur, h, _ => by
    show w.heap[g]? = _
    rw [h]
    simp
  | v :: vs, o, w, cur, h, hl => by
    have hl' : o + 1 + vs.length ≤ (cur.setIfInBounds o v).size := by simp at hl ⊢; omega
    have ho : o < cur.toList.length := by simp at hl ⊢; omega
    have := heap_setCells_row g e vs (o + 1) (w.setCell ⟨g, o, none⟩ v) (cur.setIfInBounds o v) (heap_setCell_row h) hl'
    show ((w.setCell ⟨g, o, none⟩ v).setCells g (o + 1) vs).heap[g]? = _
    rw [this, Array.toList_setIfInBounds]
    congr 3
    rw [List.drop_set_of_lt (by omega), List.take_set, List.take_succ_eq_append_getElem ho, List.set_append_right _ _ (by simp; omega)]
    simp only [List.length_take, List.append_assoc, List.length_cons]
    rw [show o - min o cur.toList.length = 0 from by omega]
    simp only [List.set_cons_zero, List.nil_append, List.cons_append]
    rw [show o + (vs.length + 1) = o + 1 + vs.length from by omega]

theorem heap_setCells_off (g : Nat) : ∀ (vs : List Value) (o : Nat) (w : World) (k : Nat), k ≠ g → (w.setCells g o vs).heap[k]? = w.heap[k]?
  | [], _, _, _, _ => rfl
  | v :: vs, o, w, k, hk => by
    show ((w.setCell ⟨g, o, none⟩ v).setCells g (o + 1) vs).heap[k]? = _
    rw [heap_setCells_off g vs (o + 1) _ k hk]
    have hg : g ≠ k := fun h => hk h.symm
    simp [World.setCell, Array.getElem?_modify, hg]

theorem size_setCells' (g : Nat) : ∀ (vs : List Value) (o : Nat) (w : World), (w.setCells g o vs).heap.size = w.heap.size
  | [], _, _ => rfl
  | v :: vs, o, w => by
    show ((w.setCell ⟨g, o, none⟩ v).setCells g (o + 1) vs).heap.size = _
    rw [size_setCells' g vs (o + 1) _]
    simp [World.setCell]

theorem rest_setCells (g : Nat) : ∀ (vs : List Value) (o : Nat) (w : World), (w.setCells g o vs).os = w.os ∧ (w.setCells g o vs).tape = w.tape ∧ (w.setCells g o vs).output = w.output
  | [], _, _ => ⟨rfl, rfl, rfl⟩
  | v :: vs, o, w => rest_setCells g vs (o + 1) (w.setCell ⟨g, o, none⟩ v)

theorem map_get_some {zs : List Int} {j : Nat} {u : Value} (h : (zs.map (Value.int .i64))[j]? = some u) : j < zs.length ∧ u = .int .i64 (zs.getD j 0) := by
  rw [List.getElem?_map] at h
  cases hz : zs[j]? with
  | none => rw [hz] at h; cases h
  | some z =>
    rw [hz] at h
    have hj : j < zs.length := (List.getElem?_eq_some_iff.1 hz).1
    refine ⟨hj, ?_⟩
    simp only [List.getD, hz, Option.getD_some]
    simpa using h.symm

theorem owns_setCells {w : World} {base e g n cap o : Nat} {xs vs : List Value} (h : w.ownsRow base e 1 (.slice (some ⟨g, 0, none⟩) n cap) n xs) (ho : o + vs.length ≤ n) :
    (w.setCells g o vs).ownsRow base e 1 (.slice (some ⟨g, 0, none⟩) n cap) n (xs.take o ++ vs ++ xs.drop (o + vs.length)) := by
  obtain ⟨h1, h2⟩ := h
  refine ⟨by simp at h1 ⊢; omega, ?_⟩
  rcases h2 with ⟨h2, _⟩ | ⟨g', cap', cur, hv, hb, hh, hn, hx, hs, ht⟩
  · cases h2
  · injection hv with e1 _ e3
    injection e1 with e1
    injection e1 with e1
    subst e1; subst e3
    have hl : cur.toList.length = cap := by simp; omega
    refine Or.inr ⟨g, cap, _, rfl, hb, heap_setCells_row g e vs o w cur hh (by omega), hn, hx, by simp; omega, ?_⟩
    rw [← ht, List.toList_toArray, Nat.mul_one]
    apply List.ext_getElem?
    intro j
    by_cases hj : j < n
    · rw [List.getElem?_take_of_lt hj]
      rcases Nat.lt_or_ge j o with hjo | hjo
      · rw [List.append_assoc, List.append_assoc, List.getElem?_append_left (by simp; omega), List.getElem?_append_left (by simp; omega), List.getElem?_take_of_lt hjo, List.getElem?_take_of_lt hjo, List.getElem?_take_of_lt hj]
      · rcases Nat.lt_or_ge j (o + vs.length) with hjv | hjv
        · have key : ∀ (A B : List Value), A.length = o → (A ++ vs ++ B)[j]? = vs[j - o]? := fun A B hA => by
            rw [List.getElem?_append_left (by simp; omega), List.getElem?_append_right (by omega), hA]
          rw [key _ _ (by simp; omega), key _ _ (by simp; omega)]
        · have key : ∀ (A B : List Value), A.length = o → (A ++ vs ++ B)[j]? = B[j - (o + vs.length)]? := fun A B hA => by
            rw [List.getElem?_append_right (by simp; omega)]
            congr 1
            simp; omega
          rw [key _ _ (by simp; omega), key _ _ (by simp; omega), List.getElem?_drop, List.getElem?_drop, List.getElem?_take_of_lt (by omega)]
    · rw [List.getElem?_eq_none (by simp; omega), List.getElem?_eq_none (by simp; omega)]

theorem below_setCells {B g : Nat} {a w : World} (h : Below B a w) (hB : B ≤ g) (o : Nat) (vs : List Value) : Below B a (w.setCells g o vs) := by
  have r := rest_setCells g vs o w
  refine h.trans ⟨r.1, r.2.1, r.2.2, by rw [size_setCells']; exact Nat.le_refl _, fun k hk => heap_setCells_off g vs o w k (by omega)⟩

/-- copy onto a row of the call's own. -/
theorem run_copy_row {t t' : TypeId} (ht : Try.prog.underlying t = some (.slice 3)) {w : World} {base g n cap o dl dc sl sc : Nat} {zs cs : List Int} {a : Addr} (hown : w.ownsRow base 3 1 (.slice (some ⟨g, 0, none⟩) n cap) n (zs.map (Value.int .i64)))
    (hcs : ∀ j, j < cs.length → w.cell? (a.add j) = some (.int .i64 (cs.getD j 0))) (hlen : cs.length = Nat.min sl dl) (hfit : o + cs.length ≤ n) (ty : TypeId) :
    (Builtin.copy_ #[t, t'] ty #[.slice (some ⟨g, o, none⟩) dl dc, .slice (some a) sl sc]).run Try.prog w = .ok (goInt cs.length) (w.setCells g o (cs.map (Value.int .i64))) := by
  obtain ⟨i0, hi, hz0, hz1, hz2⟩ := info_parts Try.info3
  have := run_copy_cells (P := Try.prog) w t t' ty 3 g o dl dc a sl sc (cs.map (Value.int .i64)) ht (by rw [hi]; simp [hz1]) (by rw [List.length_map]; exact hlen)
    (fun j v hj => by obtain ⟨h1, rfl⟩ := map_get_some hj; exact hcs j h1)
    (fun j hj => by rw [List.length_map] at hj; rw [(owns_cell hown (by omega)).1]; rfl)
    (fun j hj => by rw [List.length_map] at hj; exact (owns_cell hown (by omega)).2)
    (fun v hv => by obtain ⟨z, _, rfl⟩ := List.mem_map.1 hv; rfl)
  rw [List.length_map] at this
  exact this

theorem owns_setCells_int {w : World} {base e g n cap o : Nat} {zs cs : List Int} (h : w.ownsRow base e 1 (.slice (some ⟨g, 0, none⟩) n cap) n (zs.map (Value.int .i64))) (ho : o + cs.length ≤ n) :
    (w.setCells g o (cs.map (Value.int .i64))).ownsRow base e 1 (.slice (some ⟨g, 0, none⟩) n cap) n ((zs.take o ++ cs ++ zs.drop (o + cs.length)).map (Value.int .i64)) := by
  have := owns_setCells h (o := o) (vs := cs.map (Value.int .i64)) (by rw [List.length_map]; exact ho)
  rw [List.length_map] at this
  rw [List.map_append, List.map_append, List.map_take, List.map_drop]
  exact this

end Go.Proofs.Ytfnmkbcdchnnnaa
