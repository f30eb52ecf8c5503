/- Contracts: checkRow, Check, generate, Make. -/
import Derived.Test.YtbddhpbeekioiaaNewChainW
import Derived.Test.YtbddhpbeekioiaaRefD
namespace Go.Proofs.Ytbddhpbeekioiaa
open Go.RowKit

/-- What checkRow says. -/
def rchk (n : Nat) (xs : List Int) : Int := if chk xs = 0 then (if xs.length = n then 0 else 1) else chk xs

set_option maxHeartbeats 1000000 in
theorem checkRow_any (n : Nat) (v : Value) (xs : List Int) (w : World) (h : Ints w v xs) :
    Calls Try.prog 64 #[.int .i64 n, v] w fun e w' => e = .returned (.int .i64 (rchk n xs)) ∧ Below w.heap.size w w' := by
  have HC := hide (check_any v xs w h)
  have hr := chk_range xs
  obtain ⟨p, c, rfl⟩ := h.form
  by_cases h0 : chk xs = 0
  · rw [h0] at HC
    by_cases hl : xs.length = n
    · have HE : Hid (rchk n xs = 0) := by unfold Hid rchk; rw [if_pos h0, if_pos hl]
      have hb : (((xs.length : Nat) : Int) != ((n : Nat) : Int)) = false := by rw [hl]; simp
      clear h h0 hr hl
      go_enter Try.func64, Try.ntmps64
      go_wp2_with fail
      refine HC.out.mono ?_
      rintro e w1 ⟨rfl, hb1⟩
      go_wp2
      go_ret
      exact ⟨ret_int HE.out.symm, hb1⟩
    · have HE : Hid (rchk n xs = 1) := by unfold Hid rchk; rw [if_pos h0, if_neg hl]
      have hb : (((xs.length : Nat) : Int) != ((n : Nat) : Int)) = true := by rw [bne_iff_ne]; omega
      clear h h0 hr hl
      go_enter Try.func64, Try.ntmps64
      go_wp2_with fail
      refine HC.out.mono ?_
      rintro e w1 ⟨rfl, hb1⟩
      go_wp2
      go_ret
      exact ⟨ret_int HE.out.symm, hb1⟩
  · have HE : Hid (rchk n xs = chk xs) := by unfold Hid rchk; rw [if_neg h0]
    have hb : (chk xs != 0) = true := by rw [bne_iff_ne]; exact h0
    clear h h0
    generalize chk xs = z at *
    go_enter Try.func64, Try.ntmps64
    go_wp2_with fail
    refine HC.out.mono ?_
    rintro e w1 ⟨rfl, hb1⟩
    go_wp2
    go_ret
    exact ⟨ret_int HE.out.symm, hb1⟩

/-- A group, as it lies. -/
def GroupAt (w : World) (v : Value) (n : Nat) (gs : List Pm) : Prop :=
  ∃ gb vg B g bs C st, v = .pointer (some ⟨gb, 0, none⟩) ∧ gb < w.heap.size ∧ w.cell? ⟨gb, 0, none⟩ = some (.int .i64 (n : Int)) ∧ w.cell? ⟨gb, 1, none⟩ = some vg ∧ w.cell? ⟨gb, 2, none⟩ = some (.slice (some ⟨g, 0, none⟩) n n) ∧
    Packs w vg gs ∧ Chained w B g n bs C st gs ∧ (∀ b, b ∈ bs → b < 12) ∧ bs = List.range n

theorem GroupAt.below {w w' : World} {v : Value} {n X : Nat} {gs : List Pm} (h : GroupAt w v n gs) (hb : Below X w w') (hX : w.heap.size ≤ X) : GroupAt w' v n gs := by
  obtain ⟨gb, vg, B, g, bs, C, st, h1, h2, h3, h4, h5, h6, h7, h8⟩ := h
  refine ⟨gb, vg, B, g, bs, C, st, h1, Nat.lt_of_lt_of_le h2 hb.size, ?_, ?_, ?_, h6.below hb hX, ⟨h7.len, h7.bases, h7.whole, h7.gen, h7.chain.below hb hX, h7.nd⟩, h8⟩
  · rw [hb.cell (p := ⟨gb, 0, none⟩) (by show gb < X; omega)]; exact h3
  · rw [hb.cell (p := ⟨gb, 1, none⟩) (by show gb < X; omega)]; exact h4
  · rw [hb.cell (p := ⟨gb, 2, none⟩) (by show gb < X; omega)]; exact h5

set_option maxRecDepth 20000 in
set_option maxHeartbeats 1000000 in
theorem generate_ok (n : Nat) (v1 : Value) (gs : List Pm) (w : World) (h1 : 1 ≤ n) (h12 : n ≤ 12) (hP : Packs w v1 gs) (hgs : gs.length ≤ 1000000) (hF : ∀ x, x ∈ gs → Fixes (fun b => n ≤ b) x) :
    Calls Try.prog 63 #[.int .i64 n, v1] w fun e w' => ∃ v, e = .returned v ∧ GroupAt w' v n gs ∧ Below w.heap.size w w' := by
  have HN := hide (newChain_ok n v1 gs w h1 h12 hP hgs hF)
  obtain ⟨pp, pcap, hv⟩ := hP.form
  rw [hv] at HN hP ⊢
  have HP := hide hP
  clear hP hF hv
  go_enter Try.func63, Try.ntmps63
  go_wp2_with fail
  refine HN.out.mono ?_
  rintro e w1 ⟨g, C, st, rfl, hCd, hb1⟩
  go_wp2
  go_ret
  have hB2 : Below w1.heap.size w1 (w1.alloc (.cells #[.int .i64 (n : Int), .slice pp gs.length pcap, .slice (some ⟨g, 0, none⟩) n n] 100)) := (Below.refl _ _).alloc (Nat.le_refl _) _
  have hn := heap_alloc_last w1 (.cells #[.int .i64 (n : Int), .slice pp gs.length pcap, .slice (some ⟨g, 0, none⟩) n n] 100)
  refine ⟨_, rfl, ⟨w1.heap.size, .slice pp gs.length pcap, w.heap.size, g, List.range n, C, st, rfl, by simp, ?_, ?_, ?_, (HP.out.below hb1 (Nat.le_refl _)).below hB2 (Nat.le_refl _), ⟨hCd.len, hCd.bases, hCd.whole, hCd.gen, hCd.chain.alloc _, hCd.nd⟩, fun b hb => (by have := List.mem_range.1 hb; omega), rfl⟩, hb1.alloc hb1.size _⟩
  · rw [cell_of_row _ _ 0 _ _ _ hn]; rfl
  · rw [cell_of_row _ _ 1 _ _ _ hn]; rfl
  · rw [cell_of_row _ _ 2 _ _ _ hn]; rfl

end Go.Proofs.Ytbddhpbeekioiaa
