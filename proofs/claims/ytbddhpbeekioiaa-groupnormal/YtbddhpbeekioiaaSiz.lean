/- Contract: Sizes, the answer's own: how many rows there are, place by place. -/
import Derived.Test.YtbddhpbeekioiaaSizP
import Derived.Deep.QuietTactic
namespace Go.Proofs.Ytbddhpbeekioiaa
open Go.RowKit

theorem below_drewN (w : World) (k : Nat) : Below w.heap.size w (w.drewN k) := ⟨rfl, rfl, rfl, Nat.le_refl _, fun _ _ => rfl⟩
theorem below_drew (w : World) : Below w.heap.size w w.drew := ⟨rfl, rfl, rfl, Nat.le_refl _, fun _ _ => rfl⟩

theorem SRel.start {wr w1 w2 : World} {n k g0 c0 : Nat} (h12 : n ≤ 12) (ho : w1.ownsRow (wr.heap.size + 1) 3 1 (.slice (some ⟨g0, 0, none⟩) n c0) n ((rnd n).map (Value.int .i64))) (hb1 : Below (wr.heap.size + 1) (wr.alloc (.cells #[.int .i64 (k : Int)] 3)) w1)
    (hown2 : w2.ownsRow wr.heap.size 3 1 (.slice (some ⟨w1.heap.size + 1, 0, none⟩) n n) n ((List.replicate n (0 : Int)).map (Value.int .i64))) (hg2 : (w1.alloc (.cells #[.slice (some ⟨g0, 0, none⟩) n c0] 22)).grownBy w2 none) :
    SRel wr w2 n (w1.heap.size + 1) (.slice (some ⟨wr.heap.size, 0, none⟩) 1 1) (.slice (some ⟨w1.heap.size, 0, none⟩) 1 1) (List.replicate n 0) [.slice (some ⟨g0, 0, none⟩) n c0] [k] [1] := by
  have hs1 : wr.heap.size + 1 ≤ w1.heap.size := by have := hb1.size; simp at this; omega
  have hb1' : Below wr.heap.size wr w1 := ((Below.refl _ _).alloc (Nat.le_refl _) _).trans (hb1.mono (by omega))
  have hba : Below w1.heap.size w1 (w1.alloc (.cells #[.slice (some ⟨g0, 0, none⟩) n c0] 22)) := (Below.refl _ _).alloc (Nat.le_refl _) _
  have hb2 : Below w1.heap.size w1 w2 := hba.grown hg2 (by simp) (fun k h => by cases h)
  have hg2' : Below (w1.heap.size + 1) (w1.alloc (.cells #[.slice (some ⟨g0, 0, none⟩) n c0] 22)) w2 := (Below.refl _ _).grown hg2 (by simp) (fun k h => by cases h)
  have hcut : cut n 1 = rnd n := by rw [← pad_rnd h12, cut_pad h12 (rnd_length n) (isRow_rnd n)]
  have hg0 := (ho.lt g0 rfl)
  refine ⟨?_, hown2, ?_, ⟨?_, trivial⟩, ?_, ?_, hb1'.trans (hb2.mono (by omega))⟩
  · have h := World.ownsRow_lit (base := wr.heap.size) (e := 3) (size := 1) wr #[.int .i64 (k : Int)] 1 (Nat.le_refl _) (by decide) (by simp)
    have h' := owns_below h hb1 (by simp)
    exact owns_below h' hb2 (Nat.le_refl _)
  · have h := World.ownsRow_lit (base := wr.heap.size) (e := 22) (size := 1) w1 #[.slice (some ⟨g0, 0, none⟩) n c0] 1 (by omega) (by decide) (by simp)
    exact owns_below h hg2' (by simp)
  · rw [hcut, rnd_length]
    exact owns_below (owns_base ho (by omega)) hb2 (Nat.le_refl _)
  · intro e
    have e' : wr.heap.size = w1.heap.size + 1 := Option.some.inj e
    omega
  · intro u hu
    rw [List.mem_singleton.1 hu]
    refine ⟨fun e => ?_, fun e => ?_⟩
    · have e' : g0 = w1.heap.size + 1 := Option.some.inj e
      omega
    · have e' : g0 = wr.heap.size := Option.some.inj e
      omega

theorem nums_at {w : World} {B g cap i : Nat} {P : List Nat} {N : Nat} (h : w.ownsRow B 3 1 (.slice (some ⟨g, 0, none⟩) N cap) N (nums P)) {b : Nat} (hb : P[i]? = some b) : w.cell? ⟨g, i, none⟩ = some (.int .i64 (b : Int)) := by
  have hi : i < P.length := (List.getElem?_eq_some_iff.1 hb).1
  have hl : P.length = N := by have := h.1; unfold nums at this; simpa using this
  have := owns_val h (j := i) (by omega)
  rw [this]
  unfold nums
  rw [List.getD, List.getElem?_map, List.getElem?_map, hb]
  rfl

theorem Ints.nth {w : World} {v : Value} {X : List Int} {n : Nat} (h : Ints w v X) (hl : X.length = n) (h1 : 1 ≤ n) : ∃ b o c, v = .slice (some ⟨b, o, none⟩) n c ∧ b < w.heap.size ∧ n ≤ c ∧ ∀ j, j < n → w.cell? ⟨b, o + j, none⟩ = some (.int .i64 (X.getD j 0)) := by
  rcases h with ⟨rfl, p, c, _⟩ | ⟨b, o, cap, e, h0, hc, hm, hb, hcell⟩
  · simp at hl; omega
  · exact ⟨b, o, cap, by rw [e, hl], hb, by omega, fun j hj => hcell j (by omega)⟩

theorem IntsAll.nth {w : World} {p : Option Addr} {N c : Nat} {gss : List (List Int)} (h : IntsAll w (.slice p N c) gss) {j n : Nat} {X : List Int} (hX : gss[j]? = some X) (hl : X.length = n) (h1 : 1 ≤ n) :
    ∃ b0 o0, p = some ⟨b0, o0, none⟩ ∧ b0 < w.heap.size ∧ N ≤ c ∧ N = gss.length ∧ ∃ b o cx, w.cell? ⟨b0, o0 + j, none⟩ = some (.slice (some ⟨b, o, none⟩) n cx) ∧ Hid (Ints w (.slice (some ⟨b, o, none⟩) n cx) X) ∧ b < w.heap.size ∧ n ≤ cx ∧ Hid (∀ i, i < n → w.cell? ⟨b, o + i, none⟩ = some (.int .i64 (X.getD i 0))) := by
  obtain ⟨us, hus, hul, hue⟩ := h
  have hj : j < gss.length := (List.getElem?_eq_some_iff.1 hX).1
  rcases hus with ⟨rfl, _⟩ | ⟨b0, o0, c', hv, _, hc, _, hb, hcell⟩
  · simp at hul; omega
  · injection hv with e1 e2 e3
    have hi := hue j hj
    have eX : gss.getD j [] = X := by rw [List.getD, hX]; rfl
    rw [eX] at hi
    obtain ⟨b, o, cx, e, h4, h5, h6⟩ := hi.nth hl h1
    rw [e] at hi
    exact ⟨b0, o0, e1, hb, by omega, by omega, b, o, cx, by rw [hcell j (by omega), e], hi, h4, h5, h6⟩

end Go.Proofs.Ytbddhpbeekioiaa
