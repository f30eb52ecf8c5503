/- Contracts: strings.IndexByte, unicode/utf8.ValidRune, strings.IndexRune at the signs. -/
import Derived.Test.YtgglbafcocbhbaaRefB
import Derived.Lib.Bytealg
import Derived.Laws.Runes
import Derived.Laws.Externs
import Derived.WalkMore
import Derived.Deep.QuietTactic
import Derived.Deep.RegionHeld3
namespace Go.Proofs.Ytgglbafcocbhbaa
open Go.RowKit
set_option maxRecDepth 20000

set_option maxHeartbeats 1000000 in
theorem slIndexByte_any (s : ByteArray) (c : Int) (w : World) :
    Calls Try.prog 91 #[.string s, .int .u8 c] w fun e w' => e = .returned (.int .i64 (Go.Lib.indexByte s.data.toList c.toNat.toUInt8)) ∧ w = w' := by
  go_enter Try.func91, Try.ntmps91
  go_wp2
  rw [run_callFunc_extern Try.func95 (by kernel_rfl) (by kernel_rfl) (by kernel_rfl) (e := Extern.BytealgIndexByte.indexByte) (by kernel_rfl), Go.Lib.run_indexByteString]
  simp only [Result.andThen]
  rw [Oper.upon_value]
  go_wp2
  go_ret
  exact ⟨rfl, rfl⟩

set_option maxHeartbeats 1000000 in
theorem indexByte_any (s : ByteArray) (c : Int) (w : World) :
    Calls Try.prog 80 #[.string s, .int .u8 c] w fun e w' => e = .returned (.int .i64 (Go.Lib.indexByte s.data.toList c.toNat.toUInt8)) ∧ w = w' := by
  go_enter Try.func80, Try.ntmps80
  go_wp2_with fail
  refine (slIndexByte_any _ _ _).mono ?_
  rintro e w' ⟨rfl, rfl⟩
  go_wp2
  go_ret
  exact ⟨rfl, rfl⟩

theorem indexByte_none' : ∀ (l : List UInt8) (c : UInt8), (∀ b ∈ l, b ≠ c) → Go.Lib.indexByte l c = -1
  | [], _, _ => rfl
  | b :: l, c, h => by
    have h1 : (b == c) = false := by rw [beq_eq_false_iff_ne]; exact h b (by simp)
    have h2 := indexByte_none' l c (fun b hb => h b (List.mem_cons_of_mem _ hb))
    simp [Go.Lib.indexByte, h1, h2]

theorem indexByte_neg (s : ByteArray) (c : Int) (w : World) (hs : ∀ b ∈ s.data.toList, b.toNat < 128) (h1 : 128 ≤ c) (h2 : c < 256) :
    Calls Try.prog 80 #[.string s, .int .u8 c] w fun e w' => e = .returned (.int .i64 (-1)) ∧ w = w' := by
  have h := indexByte_any s c w
  rw [indexByte_none' _ _ (fun b hb e => by have h3 := hs b hb; rw [e] at h3; simp at h3; omega)] at h
  exact h

set_option maxHeartbeats 400000 in
theorem validRune_yes (c : Int) (w : World) (h0 : 0 ≤ c) (h : c < 55296 ∨ 57343 < c) (h2 : c ≤ 1114111) :
    Calls Try.prog 81 #[.int .i32 c] w fun e w' => e = .returned (.bool true) ∧ w = w' := by
  rcases h with h | h
  · go_enter Try.func81, Try.ntmps81
    go_wp2
    go_ret
    exact ⟨rfl, rfl⟩
  · have h3 : ¬ c < 55296 := by omega
    go_enter Try.func81, Try.ntmps81
    go_wp2
    go_ret
    exact ⟨rfl, rfl⟩

/-- Which sign a rune is; -1: none. -/
def si (c : Nat) : Int := if c < 128 then Go.Lib.indexByte [49, 50, 51, 52, 53, 54, 55, 56, 57, 48, 69, 84] c.toUInt8 else -1

set_option maxHeartbeats 1000000 in
theorem indexRune_low (c : Nat) (w : World) (h : c < 128) :
    Calls Try.prog 63 #[.string ⟨#[49, 50, 51, 52, 53, 54, 55, 56, 57, 48, 69, 84]⟩, .int .i32 c] w fun e w' => e = .returned (.int .i64 (si c)) ∧ Below w.heap.size w w' := by
  have HS : Hid (si c = Go.Lib.indexByte [49, 50, 51, 52, 53, 54, 55, 56, 57, 48, 69, 84] c.toUInt8) := by show _ = _; unfold si; rw [if_pos h]
  go_enter Try.func63, Try.ntmps63
  go_wp2_with fail
  refine (indexByte_any _ _ _).mono ?_
  rintro e w' ⟨rfl, rfl⟩
  go_wp2
  go_ret
  exact ⟨ret_int HS.out.symm, Below.refl _ _⟩

set_option maxHeartbeats 1000000 in
theorem indexRune_bad (w : World) :
    Calls Try.prog 63 #[.string ⟨#[49, 50, 51, 52, 53, 54, 55, 56, 57, 48, 69, 84]⟩, .int .i32 65533] w fun e w' => e = .returned (.int .i64 (-1)) ∧ Below w.heap.size w w' := by
  go_enter Try.func63, Try.ntmps63
  go_wp2
  go_loopw [5] (fun _ wr => ∃ k : Nat, k ≤ 12 ∧ wr = w.iter { data := #[49, 50, 51, 52, 53, 54, 55, 56, 57, 48, 69, 84] } k) (fun _ wr => 12 - wr.iterPos w.heap.size)
  case atStart => exact ⟨0, by omega, rfl⟩
  case round =>
    obtain ⟨k, hk, rfl⟩ := hrel
    by_cases hlt : k < 12
    · have hnx := next_sign w k hlt
      have ht : (((sg k : Nat) : Int) == 65533) = false := by rw [beq_eq_false_iff_ne]; have := sg_lt k; omega
      go_wp2
      go_roundw
      case rel => exact ⟨k + 1, by omega, rfl⟩
      case measure => simp; omega
    · have hnx := next_done w k hlt
      go_wp2
      go_ret
      exact ⟨rfl, below_iter _ _ _⟩

set_option maxHeartbeats 4000000 in
theorem indexRune_high (c : Int) (w : World) (h1 : 128 ≤ c) (h2 : c < 55296 ∨ 57343 < c) (h3 : c ≤ 1114111) (h4 : c ≠ 65533) :
    Calls Try.prog 63 #[.string ⟨#[49, 50, 51, 52, 53, 54, 55, 56, 57, 48, 69, 84]⟩, .int .i32 c] w fun e w' => e = .returned (.int .i64 (-1)) ∧ Below w.heap.size w w' := by
  have hv : Utf8.valid c = true := by rw [validRune_eq]; unfold validRune; exact decide_eq_true (by omega)
  obtain ⟨e2, e4, el⟩ := encode_facts c hv h1
  have hne : (c == 65533) = false := by rw [beq_eq_false_iff_ne]; omega
  have HV := hide (validRune_yes c w (by omega) h2 h3)
  generalize he : Utf8.encode c = nd at *
  have hcase : nd.size = 2 ∨ nd.size = 3 ∨ nd.size = 4 := by omega
  clear hv h2 h4 e2 e4 h3
  rcases hcase with hsz | hsz | hsz
  · have hb1' : ∀ h : 1 < nd.size, 128 ≤ (nd[1]'h).toNat := by
      intro h
      have h9 := el (by omega)
      simpa only [hsz] using h9
    go_enter Try.func63, Try.ntmps63
    go_wp2_with fail
    refine HV.out.mono ?_
    rintro e w' ⟨rfl, rfl⟩
    go_wp2_with fail
    go_step3
    go_wp2_with fail
    go_loopw [9] (fun i wr => i = .int .i64 1 ∧ wr = w) (fun _ _ => 0)
    case atStart => exact ⟨rfl, rfl⟩
    case round =>
      obtain ⟨rfl, rfl⟩ := hrel
      have hb1 : 1 < nd.size := by omega
      have hbb := hb1' hb1
      have hbs : (({ data := #[49, 50, 51, 52, 53, 54, 55, 56, 57, 48, 69, 84] } : ByteArray)[1]'(by decide)).toNat = 50 := rfl
      have hbne : ((((({ data := #[49, 50, 51, 52, 53, 54, 55, 56, 57, 48, 69, 84] } : ByteArray)[1]'(by decide)).toNat : Nat) : Int) != (((nd[1]'hb1).toNat : Nat) : Int)) = true := by rw [bne_iff_ne, hbs]; omega
      clear hbs
      have hbu : (nd[1]'hb1).toNat < 256 := UInt8.toNat_lt _
      go_wp2_with fail
      go_step3
      go_wp2_with fail
      go_region
      all_goals
        go_wp2_with fail
        refine wp_region_held_drew (S := fun _ => True) (by kernel_rfl) trivial (fun hS => ?_)
        refine wpAnyH_take (i := 0) (v := .string ⟨#[49, 50, 51, 52, 53, 54, 55, 56, 57, 48, 69, 84]⟩) rfl (by kernel_rfl) (by kernel_rfl) (by kernel_rfl) (fun _ _ _ h => h) (Or.inl ⟨by kernel_rfl, fun w' hS' => by clear hS'; go_simp <;> first | rfl | decide⟩) hS ?_
        refine wpAnyH_take (i := 1) (v := .int .i64 1) rfl (by kernel_rfl) (by kernel_rfl) (by kernel_rfl) (fun _ _ _ h => h) (Or.inl ⟨by kernel_rfl, fun w' hS' => by clear hS'; go_simp <;> first | rfl | decide⟩) hS ?_
        refine wpAnyH_take (i := 2) (v := .int .i64 2) rfl (by kernel_rfl) (by kernel_rfl) (by kernel_rfl) (fun _ _ _ h => h) (Or.inl ⟨by kernel_rfl, fun w' hS' => by clear hS'; go_simp <;> first | rfl | decide⟩) hS ?_
        refine wpAnyH_take (i := 3) (v := .string ⟨#[51, 52, 53, 54, 55, 56, 57, 48, 69, 84]⟩) rfl (by kernel_rfl) (by kernel_rfl) (by kernel_rfl) (fun _ _ _ h => h) (Or.inl ⟨by kernel_rfl, fun w' hS' => by clear hS'; go_simp <;> first | rfl | decide⟩) hS ?_
        refine wpAnyH_take (i := 4) (v := .string nd) rfl (by kernel_rfl) (by kernel_rfl) (by kernel_rfl) (fun _ _ _ h => h) (Or.inl ⟨by kernel_rfl, fun w' hS' => by clear hS'; go_simp <;> first | rfl | decide⟩) hS ?_
        refine wpAnyH_take (i := 5) (v := .int .i64 1) rfl (by kernel_rfl) (by kernel_rfl) (by kernel_rfl) (fun _ _ _ h => h) (Or.inl ⟨by kernel_rfl, fun w' hS' => by clear hS'; go_simp <;> first | rfl | decide⟩) hS ?_
        refine wpAnyH_take (i := 6) (v := .int .u8 (((nd[1]'hb1).toNat : Nat) : Int)) rfl (by kernel_rfl) (by kernel_rfl) (by kernel_rfl) (fun _ _ _ h => h) (Or.inl ⟨by kernel_rfl, fun w' hS' => by clear hS'; go_simp <;> first | rfl | decide⟩) hS ?_
        refine wpAnyH_ready (rs := [7]) (by kernel_rfl) (by simp) ?_
        refine AllReadyH.cons rfl (fun K hK => ?_) AllReadyH.nil
        go_simp
        refine (indexByte_neg _ _ _ (by decide) (by omega) (by omega)).mono ?_
        rintro ex wo ⟨rfl, hwo⟩
        refine hK.out _ _ trivial (fun hS => ?_)
        clear hK
        refine wpAnyH_take (i := 8) (v := .int .i64 (-1)) rfl (by kernel_rfl) (by kernel_rfl) (by kernel_rfl) (fun _ _ _ h => h) (Or.inl ⟨by kernel_rfl, fun w' hS' => by clear hS'; go_simp <;> first | rfl | decide⟩) hS ?_
        refine wpAnyH_done (by kernel_rfl) ?_ _
        have hBo : Below wr.heap.size wr wo := by rw [← hwo]; exact ((Below.refl _ _).drew).drew
        clear hwo
        go_wp2_with fail
        rw [Exit.noGoto_ret]
        go_wp2_with fail
        rw [Exit.noGoto_ret]
        go_ret
        exact ⟨rfl, hBo⟩
  · have hb1' : ∀ h : 2 < nd.size, 128 ≤ (nd[2]'h).toNat := by
      intro h
      have h9 := el (by omega)
      simpa only [hsz] using h9
    go_enter Try.func63, Try.ntmps63
    go_wp2_with fail
    refine HV.out.mono ?_
    rintro e w' ⟨rfl, rfl⟩
    go_wp2_with fail
    go_step3
    go_wp2_with fail
    go_loopw [9] (fun i wr => i = .int .i64 2 ∧ wr = w) (fun _ _ => 0)
    case atStart => exact ⟨rfl, rfl⟩
    case round =>
      obtain ⟨rfl, rfl⟩ := hrel
      have hb1 : 2 < nd.size := by omega
      have hbb := hb1' hb1
      have hbs : (({ data := #[49, 50, 51, 52, 53, 54, 55, 56, 57, 48, 69, 84] } : ByteArray)[2]'(by decide)).toNat = 51 := rfl
      have hbne : ((((({ data := #[49, 50, 51, 52, 53, 54, 55, 56, 57, 48, 69, 84] } : ByteArray)[2]'(by decide)).toNat : Nat) : Int) != (((nd[2]'hb1).toNat : Nat) : Int)) = true := by rw [bne_iff_ne, hbs]; omega
      clear hbs
      have hbu : (nd[2]'hb1).toNat < 256 := UInt8.toNat_lt _
      go_wp2_with fail
      go_step3
      go_wp2_with fail
      go_region
      all_goals
        go_wp2_with fail
        refine wp_region_held_drew (S := fun _ => True) (by kernel_rfl) trivial (fun hS => ?_)
        refine wpAnyH_take (i := 0) (v := .string ⟨#[49, 50, 51, 52, 53, 54, 55, 56, 57, 48, 69, 84]⟩) rfl (by kernel_rfl) (by kernel_rfl) (by kernel_rfl) (fun _ _ _ h => h) (Or.inl ⟨by kernel_rfl, fun w' hS' => by clear hS'; go_simp <;> first | rfl | decide⟩) hS ?_
        refine wpAnyH_take (i := 1) (v := .int .i64 2) rfl (by kernel_rfl) (by kernel_rfl) (by kernel_rfl) (fun _ _ _ h => h) (Or.inl ⟨by kernel_rfl, fun w' hS' => by clear hS'; go_simp <;> first | rfl | decide⟩) hS ?_
        refine wpAnyH_take (i := 2) (v := .int .i64 3) rfl (by kernel_rfl) (by kernel_rfl) (by kernel_rfl) (fun _ _ _ h => h) (Or.inl ⟨by kernel_rfl, fun w' hS' => by clear hS'; go_simp <;> first | rfl | decide⟩) hS ?_
        refine wpAnyH_take (i := 3) (v := .string ⟨#[52, 53, 54, 55, 56, 57, 48, 69, 84]⟩) rfl (by kernel_rfl) (by kernel_rfl) (by kernel_rfl) (fun _ _ _ h => h) (Or.inl ⟨by kernel_rfl, fun w' hS' => by clear hS'; go_simp <;> first | rfl | decide⟩) hS ?_
        refine wpAnyH_take (i := 4) (v := .string nd) rfl (by kernel_rfl) (by kernel_rfl) (by kernel_rfl) (fun _ _ _ h => h) (Or.inl ⟨by kernel_rfl, fun w' hS' => by clear hS'; go_simp <;> first | rfl | decide⟩) hS ?_
        refine wpAnyH_take (i := 5) (v := .int .i64 2) rfl (by kernel_rfl) (by kernel_rfl) (by kernel_rfl) (fun _ _ _ h => h) (Or.inl ⟨by kernel_rfl, fun w' hS' => by clear hS'; go_simp <;> first | rfl | decide⟩) hS ?_
        refine wpAnyH_take (i := 6) (v := .int .u8 (((nd[2]'hb1).toNat : Nat) : Int)) rfl (by kernel_rfl) (by kernel_rfl) (by kernel_rfl) (fun _ _ _ h => h) (Or.inl ⟨by kernel_rfl, fun w' hS' => by clear hS'; go_simp <;> first | rfl | decide⟩) hS ?_
        refine wpAnyH_ready (rs := [7]) (by kernel_rfl) (by simp) ?_
        refine AllReadyH.cons rfl (fun K hK => ?_) AllReadyH.nil
        go_simp
        refine (indexByte_neg _ _ _ (by decide) (by omega) (by omega)).mono ?_
        rintro ex wo ⟨rfl, hwo⟩
        refine hK.out _ _ trivial (fun hS => ?_)
        clear hK
        refine wpAnyH_take (i := 8) (v := .int .i64 (-1)) rfl (by kernel_rfl) (by kernel_rfl) (by kernel_rfl) (fun _ _ _ h => h) (Or.inl ⟨by kernel_rfl, fun w' hS' => by clear hS'; go_simp <;> first | rfl | decide⟩) hS ?_
        refine wpAnyH_done (by kernel_rfl) ?_ _
        have hBo : Below wr.heap.size wr wo := by rw [← hwo]; exact ((Below.refl _ _).drew).drew
        clear hwo
        go_wp2_with fail
        rw [Exit.noGoto_ret]
        go_wp2_with fail
        rw [Exit.noGoto_ret]
        go_ret
        exact ⟨rfl, hBo⟩
  · have hb1' : ∀ h : 3 < nd.size, 128 ≤ (nd[3]'h).toNat := by
      intro h
      have h9 := el (by omega)
      simpa only [hsz] using h9
    go_enter Try.func63, Try.ntmps63
    go_wp2_with fail
    refine HV.out.mono ?_
    rintro e w' ⟨rfl, rfl⟩
    go_wp2_with fail
    go_step3
    go_wp2_with fail
    go_loopw [9] (fun i wr => i = .int .i64 3 ∧ wr = w) (fun _ _ => 0)
    case atStart => exact ⟨rfl, rfl⟩
    case round =>
      obtain ⟨rfl, rfl⟩ := hrel
      have hb1 : 3 < nd.size := by omega
      have hbb := hb1' hb1
      have hbs : (({ data := #[49, 50, 51, 52, 53, 54, 55, 56, 57, 48, 69, 84] } : ByteArray)[3]'(by decide)).toNat = 52 := rfl
      have hbne : ((((({ data := #[49, 50, 51, 52, 53, 54, 55, 56, 57, 48, 69, 84] } : ByteArray)[3]'(by decide)).toNat : Nat) : Int) != (((nd[3]'hb1).toNat : Nat) : Int)) = true := by rw [bne_iff_ne, hbs]; omega
      clear hbs
      have hbu : (nd[3]'hb1).toNat < 256 := UInt8.toNat_lt _
      go_wp2_with fail
      go_step3
      go_wp2_with fail
      go_region
      all_goals
        go_wp2_with fail
        refine wp_region_held_drew (S := fun _ => True) (by kernel_rfl) trivial (fun hS => ?_)
        refine wpAnyH_take (i := 0) (v := .string ⟨#[49, 50, 51, 52, 53, 54, 55, 56, 57, 48, 69, 84]⟩) rfl (by kernel_rfl) (by kernel_rfl) (by kernel_rfl) (fun _ _ _ h => h) (Or.inl ⟨by kernel_rfl, fun w' hS' => by clear hS'; go_simp <;> first | rfl | decide⟩) hS ?_
        refine wpAnyH_take (i := 1) (v := .int .i64 3) rfl (by kernel_rfl) (by kernel_rfl) (by kernel_rfl) (fun _ _ _ h => h) (Or.inl ⟨by kernel_rfl, fun w' hS' => by clear hS'; go_simp <;> first | rfl | decide⟩) hS ?_
        refine wpAnyH_take (i := 2) (v := .int .i64 4) rfl (by kernel_rfl) (by kernel_rfl) (by kernel_rfl) (fun _ _ _ h => h) (Or.inl ⟨by kernel_rfl, fun w' hS' => by clear hS'; go_simp <;> first | rfl | decide⟩) hS ?_
        refine wpAnyH_take (i := 3) (v := .string ⟨#[53, 54, 55, 56, 57, 48, 69, 84]⟩) rfl (by kernel_rfl) (by kernel_rfl) (by kernel_rfl) (fun _ _ _ h => h) (Or.inl ⟨by kernel_rfl, fun w' hS' => by clear hS'; go_simp <;> first | rfl | decide⟩) hS ?_
        refine wpAnyH_take (i := 4) (v := .string nd) rfl (by kernel_rfl) (by kernel_rfl) (by kernel_rfl) (fun _ _ _ h => h) (Or.inl ⟨by kernel_rfl, fun w' hS' => by clear hS'; go_simp <;> first | rfl | decide⟩) hS ?_
        refine wpAnyH_take (i := 5) (v := .int .i64 3) rfl (by kernel_rfl) (by kernel_rfl) (by kernel_rfl) (fun _ _ _ h => h) (Or.inl ⟨by kernel_rfl, fun w' hS' => by clear hS'; go_simp <;> first | rfl | decide⟩) hS ?_
        refine wpAnyH_take (i := 6) (v := .int .u8 (((nd[3]'hb1).toNat : Nat) : Int)) rfl (by kernel_rfl) (by kernel_rfl) (by kernel_rfl) (fun _ _ _ h => h) (Or.inl ⟨by kernel_rfl, fun w' hS' => by clear hS'; go_simp <;> first | rfl | decide⟩) hS ?_
        refine wpAnyH_ready (rs := [7]) (by kernel_rfl) (by simp) ?_
        refine AllReadyH.cons rfl (fun K hK => ?_) AllReadyH.nil
        go_simp
        refine (indexByte_neg _ _ _ (by decide) (by omega) (by omega)).mono ?_
        rintro ex wo ⟨rfl, hwo⟩
        refine hK.out _ _ trivial (fun hS => ?_)
        clear hK
        refine wpAnyH_take (i := 8) (v := .int .i64 (-1)) rfl (by kernel_rfl) (by kernel_rfl) (by kernel_rfl) (fun _ _ _ h => h) (Or.inl ⟨by kernel_rfl, fun w' hS' => by clear hS'; go_simp <;> first | rfl | decide⟩) hS ?_
        refine wpAnyH_done (by kernel_rfl) ?_ _
        have hBo : Below wr.heap.size wr wo := by rw [← hwo]; exact ((Below.refl _ _).drew).drew
        clear hwo
        go_wp2_with fail
        rw [Exit.noGoto_ret]
        go_wp2_with fail
        rw [Exit.noGoto_ret]
        go_ret
        exact ⟨rfl, hBo⟩

end Go.Proofs.Ytgglbafcocbhbaa
