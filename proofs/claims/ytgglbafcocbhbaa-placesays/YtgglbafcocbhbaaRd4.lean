/- Contracts: slices.Clone, (*reader).endBlock. -/
import Derived.Test.YtgglbafcocbhbaaRd3
import Derived.Test.YtgglbafcocbhbaaAppM
import Derived.Deep.RegionHeld3
import Derived.Deep.QuietTactic
namespace Go.Proofs.Ytgglbafcocbhbaa
open Go.RowKit

set_option maxRecDepth 20000 in
set_option maxHeartbeats 1000000 in
theorem clone_own {base : Nat} {v : Value} {xs : List Int} {w : World} (h : w.ownsRow base 3 1 v xs.length (xs.map (Value.int .i64))) (hl : xs.length ≤ 1000000) :
    Calls Try.prog 86 #[v] w fun e w' => ∃ v', e = .returned v' ∧ w'.ownsRow w.heap.size 3 1 v' xs.length (xs.map (Value.int .i64)) ∧ Below w.heap.size w w' := by
  obtain ⟨j0, hj, hq0, hq1, hq2⟩ := info_parts Try.info3
  have q1 := run_nil_eq
  have q3 := run_some_eq
  rcases h.2 with ⟨rfl, hz⟩ | ⟨g, cap, cur, rfl, hbg, hh, hnc, hm, hs, ht⟩
  · have hx : xs = [] := List.length_eq_zero_iff.1 hz
    subst hx
    clear h hz
    go_enter Try.func86, Try.ntmps86
    go_wp2
    go_ret
    exact ⟨_, rfl, World.ownsRow_nil _ _ _ _, Below.refl _ _⟩
  · have h1c : ∀ v ∈ xs.map (Value.int .i64), v.oneCell' = true := by
      intro v hv'
      obtain ⟨z, _, rfl⟩ := List.mem_map.1 hv'
      rfl
    have hnew : (w.alloc (.cells #[] 3)).ownsRow w.heap.size 3 1 (.slice (some ⟨w.heap.size, 0, none⟩) 0 0) 0 [] := World.ownsRow_made w #[] 0 (Nat.le_refl _) (by unfold maxLen; omega) rfl
    have hsrc := h.alloc (.cells #[] 3)
    clear hh hs ht h
    go_enter Try.func86, Try.ntmps86
    go_wp2_with (at_builtin; refine wpList_append_more rfl _ _ 22 rfl w.heap.size base 3 j0 (.int .i64 0) 8 Try.underlying22 hj hq0 hq1 hq2 rfl _ _ _ rfl hnew _ _ _ rfl hsrc h1c ?c3 ?c4 ?c5 ?_)
    case c3 => unfold maxLen; omega
    case c4 => omega
    case c5 => simp
    · intro v' w' hown hgrow
      have hB : Below w.heap.size w w' := ((Below.refl _ _).alloc (Nat.le_refl _) _).grown hgrow (by simp) (fun k hk => by have : w.heap.size = k := Option.some.inj hk; omega)
      try rw [Nat.zero_add] at hown
      try rw [List.nil_append] at hown
      clear hgrow
      go_wp2
      go_ret
      exact ⟨_, rfl, hown, hB⟩

section
variable {w : World} {R D : Nat} {n : Int} {av bv ov : Value} {avs bvs : List Value} {st : RS}

/-- More changes behind all. -/
theorem RdAt.more {w5 : World} {v' : Value} {us : List Value} {xss : List (List Int)} (h : RdAt w R D n av bv (.slice none 0 0) avs bvs st) (ho : st.opn = []) (hu : OwnAll w (R + 1) us xss)
    (hown : w5.ownsRow (R + 1) 22 1 v' (avs.length + us.length) (avs ++ us)) (hg : w.grownBy w5 av.ownBlock) (hk : v'.ownBlock = av.ownBlock ∨ (v'.ownBlock = some w.heap.size ∧ w.grownBy w5 none)) :
    RdAt (w5.setCell ⟨R, 1, none⟩ v') R w5.heap.size n v' bv (.slice none 0 0) (avs ++ us) bvs { st with all := st.all ++ xss } ∧ w5.heap[R]? = w.heap[R]? ∧ Bel R w w5 ∧ LL w5 (R + 1) bv bvs st.block := by
  have hRb : some R ≠ av.ownBlock := fun e => by have := (h.all.row.lt R e.symm).1; omega
  have hblk := (hg.block R h.lt hRb).trans h.blk
  have hne : bv.ownBlock = none ∨ bv.ownBlock ≠ av.ownBlock := by
    rcases h.sep with hs | hs
    · cases hb : bv.ownBlock with
      | none => exact Or.inl rfl
      | some b => exact Or.inr (by rw [hs]; exact fun e => by cases e)
    · exact Or.inr (fun e => hs e.symm)
  have hbl : LL w5 (R + 1) bv bvs st.block := h.block.kept_row h.all.row hg hne
  have hall : LL w5 (R + 1) v' (avs ++ us) (st.all ++ xss) := ⟨by rw [List.length_append]; exact hown, OwnAll.join (hu.mono (fun _ _ _ h' => owns_kept_ty h' h.all.row hg)) (h.all.all.mono (fun _ _ _ h' => owns_kept_ty h' h.all.row hg))⟩
  refine ⟨⟨by rw [heap_set7 hblk]; rfl, hall.setR, hbl.setR, by rw [ho]; exact World.ownsRow_nil _ _ _ _, ?_, ?_, ?_, by simp [World.setCell], fun _ => rfl⟩, hg.block R h.lt hRb, ?_, hbl⟩
  · intro u hu b hb
    rcases List.mem_append.1 hu with hu | hu
    · exact hall.lt u hu b hb
    · exact hbl.lt u hu b hb
  · rcases hk with hk | ⟨hk, _⟩
    · rw [hk]; exact h.sep
    · rw [hk]
      refine Or.inr (fun e => ?_)
      have := (h.block.row.lt w.heap.size e.symm).2
      omega
  · have := h.lt; have := hg.size; omega
  · exact Bel.grown h.all.row (Nat.le_refl _) (Nat.le_of_lt h.lt) hg

end

end Go.Proofs.Ytgglbafcocbhbaa
