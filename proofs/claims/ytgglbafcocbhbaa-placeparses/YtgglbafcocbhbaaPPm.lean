/- The answer's reader of changes in memory. -/
import Derived.Test.YtgglbafcocbhbaaPPl
import Derived.Test.YtgglbafcocbhbaaEnded
namespace Go.Proofs.Ytgglbafcocbhbaa
open Go.RowKit

/-- A slice's block lies ahead of D. -/
def Lo (D : Nat) (v : Value) : Prop := ∀ b, v.ownBlock = some b → b < D

theorem Lo.nil (D : Nat) : Lo D (.slice none 0 0) := fun _ h => by cases h

theorem own_lo {w w' : World} {base e n D : Nat} {v : Value} {xs : List Value} (h : w.ownsRow base e 1 v n xs) (hl : Lo D v) (hb : Below D w w') : w'.ownsRow base e 1 v n xs := by
  obtain ⟨h1, h2⟩ := h
  refine ⟨h1, ?_⟩
  rcases h2 with h2 | ⟨g, cap, cur, hv, hg, hh, r⟩
  · exact Or.inl h2
  · exact Or.inr ⟨g, cap, cur, hv, hg, by rw [hb.block g (hl g (by rw [hv]; rfl))]; exact hh, r⟩

theorem LL.lo {w w' : World} {base D : Nat} {v : Value} {vs : List Value} {xss : List (List Int)} (h : LL w base v vs xss) (hl : Lo D v) (hi : ∀ u, u ∈ vs → Lo D u) (hb : Below D w w') : LL w' base v vs xss :=
  ⟨own_lo h.row hl hb, h.all.memw (fun u _ _ hu h' => own_lo h' (hi u hu) hb)⟩

structure PA (w : World) (B D : Nat) (rv av bv ov : Value) (L : List Int) (avs bvs : List Value) (al bl : List (List Int)) (op : List Int) : Prop where
  runes : w.ownsRow B 3 1 rv L.length (L.map (Value.int .i64))
  rlo : Lo D rv
  all : LL w B av avs al
  alo : Lo D av
  block : LL w B bv bvs bl
  blo : Lo D bv
  inner : ∀ u, u ∈ avs ++ bvs → Lo D u
  opn : w.ownsRow D 3 1 ov op.length (op.map (Value.int .i64))
  sep : av.ownBlock = none ∨ av.ownBlock ≠ bv.ownBlock
  low : B ≤ D
  high : D ≤ w.heap.size

section
variable {w w' : World} {B D : Nat} {rv av bv ov ov' : Value} {L : List Int} {avs bvs : List Value} {al bl : List (List Int)} {op op' : List Int}

/-- The signs go on. -/
theorem PA.signs (h : PA w B D rv av bv ov L avs bvs al bl op) (hb : Below D w w') (ho : w'.ownsRow D 3 1 ov' op'.length (op'.map (Value.int .i64))) : PA w' B D rv av bv ov' L avs bvs al bl op' :=
  ⟨own_lo h.runes h.rlo hb, h.rlo, h.all.lo h.alo (fun u hu => h.inner u (List.mem_append.2 (Or.inl hu))) hb, h.alo, h.block.lo h.blo (fun u hu => h.inner u (List.mem_append.2 (Or.inr hu))) hb, h.blo, h.inner, ho, h.sep, h.low, Nat.le_trans h.high hb.size⟩

/-- The world goes on. -/
theorem PA.later (h : PA w B D rv av bv ov L avs bvs al bl op) (hb : Below w.heap.size w w') : PA w' B D rv av bv ov L avs bvs al bl op := h.signs (hb.mono h.high) (owns_below h.opn hb (Nat.le_refl _))

/-- No sign is open: all lies behind. -/
theorem PA.fresh (h : PA w B D rv av bv ov L avs bvs al bl op) : PA w B w.heap.size rv av bv (.slice none 0 0) L avs bvs al bl [] := by
  refine ⟨h.runes, fun b hb => (h.runes.lt b hb).2, h.all, fun b hb => (h.all.row.lt b hb).2, h.block, fun b hb => (h.block.row.lt b hb).2, ?_, World.ownsRow_nil _ _ _ _, h.sep, Nat.le_trans h.low h.high, Nat.le_refl _⟩
  intro u hu b hb
  rcases List.mem_append.1 hu with hu | hu
  · exact h.all.lt u hu b hb
  · exact h.block.lt u hu b hb

/-- One more change of the block. -/
theorem PA.push {w5 : World} {v' pv : Value} {ps : List Int} (h : PA w B D rv av bv ov L avs bvs al bl op) (hp : w.ownsRow B 3 1 pv ps.length (ps.map (Value.int .i64)))
    (hown : w5.ownsRow B 22 1 v' (bvs.length + 1) (bvs ++ [pv])) (hg : w.grownBy w5 bv.ownBlock) (hk : v'.ownBlock = bv.ownBlock ∨ (v'.ownBlock = some w.heap.size ∧ w.grownBy w5 none)) :
    PA w5 B w5.heap.size rv av v' (.slice none 0 0) L avs (bvs ++ [pv]) al (bl ++ [ps]) [] ∧ Below B w w5 := by
  have hall : LL w5 B av avs al := h.all.kept_row h.block.row hg h.sep
  have hbl : LL w5 B v' (bvs ++ [pv]) (bl ++ [ps]) := ⟨by rw [List.length_append]; exact hown, OwnAll.snoc (owns_kept_ty hp h.block.row hg) (h.block.all.mono (fun _ _ _ h' => owns_kept_ty h' h.block.row hg))⟩
  have hru := h.runes.kept hg (own_ty_ne h.runes h.block.row (by decide))
  refine ⟨⟨hru, fun b hb => (hru.lt b hb).2, hall, fun b hb => (hall.row.lt b hb).2, hbl, fun b hb => (hbl.row.lt b hb).2, ?_, World.ownsRow_nil _ _ _ _, ?_, ?_, Nat.le_refl _⟩, ?_⟩
  · intro u hu b hb
    rcases List.mem_append.1 hu with hu | hu
    · exact hall.lt u hu b hb
    · exact hbl.lt u hu b hb
  · rcases hk with hk | ⟨hk, _⟩
    · rw [hk]; exact h.sep
    · rw [hk]
      cases hav : av.ownBlock with
      | none => exact Or.inl rfl
      | some b =>
        refine Or.inr (fun e => ?_)
        have h1 := (h.all.row.lt b hav).2
        have h2 : b = w.heap.size := Option.some.inj e
        omega
  · have := h.low; have := h.high; have := hg.size; omega
  · exact (Below.refl B w).grown hg (by have := h.low; have := h.high; omega) (fun g hg' => (h.block.row.lt g hg').1)

/-- More changes behind all. -/
theorem PA.more {w5 : World} {v' : Value} {us : List Value} {xss : List (List Int)} (h : PA w B D rv av bv ov L avs bvs al bl op) (hu : OwnAll w B us xss)
    (hown : w5.ownsRow B 22 1 v' (avs.length + us.length) (avs ++ us)) (hg : w.grownBy w5 av.ownBlock) (hk : v'.ownBlock = av.ownBlock ∨ (v'.ownBlock = some w.heap.size ∧ w.grownBy w5 none)) :
    PA w5 B w5.heap.size rv v' bv (.slice none 0 0) L (avs ++ us) bvs (al ++ xss) bl [] ∧ Below B w w5 := by
  have hne : bv.ownBlock = none ∨ bv.ownBlock ≠ av.ownBlock := by
    rcases h.sep with hs | hs
    · cases hb : bv.ownBlock with
      | none => exact Or.inl rfl
      | some b => exact Or.inr (by rw [hs]; exact fun e => by cases e)
    · exact Or.inr (fun e => hs e.symm)
  have hbl : LL w5 B bv bvs bl := h.block.kept_row h.all.row hg hne
  have hall : LL w5 B v' (avs ++ us) (al ++ xss) := ⟨by rw [List.length_append]; exact hown, OwnAll.join (hu.mono (fun _ _ _ h' => owns_kept_ty h' h.all.row hg)) (h.all.all.mono (fun _ _ _ h' => owns_kept_ty h' h.all.row hg))⟩
  have hru := h.runes.kept hg (own_ty_ne h.runes h.all.row (by decide))
  refine ⟨⟨hru, fun b hb => (hru.lt b hb).2, hall, fun b hb => (hall.row.lt b hb).2, hbl, fun b hb => (hbl.row.lt b hb).2, ?_, World.ownsRow_nil _ _ _ _, ?_, ?_, Nat.le_refl _⟩, ?_⟩
  · intro u hu b hb
    rcases List.mem_append.1 hu with hu | hu
    · exact hall.lt u hu b hb
    · exact hbl.lt u hu b hb
  · rcases hk with hk | ⟨hk, _⟩
    · rw [hk]; exact h.sep
    · rw [hk]
      refine Or.inr (fun e => ?_)
      have := (h.block.row.lt w.heap.size e.symm).2
      omega
  · have := h.low; have := h.high; have := hg.size; omega
  · exact (Below.refl B w).grown hg (by have := h.low; have := h.high; omega) (fun g hg' => (h.all.row.lt g hg').1)

/-- The block's end. -/
theorem PA.shut (h : PA w B D rv av bv ov L avs bvs al bl op) : PA w B D rv av (.slice none 0 0) ov L avs [] al [] op := by
  refine ⟨h.runes, h.rlo, h.all, h.alo, LL.nil _ _, Lo.nil _, ?_, h.opn, ?_, h.low, h.high⟩
  · intro u hu
    exact h.inner u (List.mem_append.2 (Or.inl (by simpa using hu)))
  · cases hb : av.ownBlock with
    | none => exact Or.inl rfl
    | some b => exact Or.inr (fun e => by cases e)

end

/-- The loop's relation: k runes are read. -/
def PInv (n : Int) (cs : List Nat) (L : List Int) (w wr : World) (rv av bv ov : Value) (k : Nat) (st : RS) : Prop :=
  PR n cs k st ∧ (k ≤ cs.length → RS.Fine k st) ∧ (st.opn = [] → ov = .slice none 0 0) ∧ Below w.heap.size w wr ∧ ∃ D avs bvs, PA wr w.heap.size D rv av bv ov L avs bvs st.all st.block st.opn

end Go.Proofs.Ytgglbafcocbhbaa
