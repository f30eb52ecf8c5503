/- Joined: CoB, CoC, GeT, GeU, CoD, ExB, CoE, CoF, CoG. -/
import Derived.Test.YtimfoggjocajiaaJ10
import Derived.Test.YtimfoggjocajiaaJ4
import Derived.Deep.QuietTactic
import Derived.Test.YtimfoggjocajiaaJ5
import Derived.BigQuiet
import Derived.Test.YtimfoggjocajiaaJ9
import Derived.Deep.CutBlock
/- Contract: coset.bringing: by a place, then by a bell, a row that brings it there. -/
namespace Go.Proofs.Ytimfoggjocajiaa
open Go.RowKit

theorem Try.info145 : (Try.prog.info? 145).map (fun i => (i.zero, i.size, i.bytes)) = some (some (.map none), 1, 8) := by kernel_rfl
theorem Try.zero23 (w : World) : (zeroValue 23).run Try.prog w = .ok (.slice none 0 0) w := by kernel_rfl

/-- How far the maps hold what the first i rows bring. -/
structure BrTo (w wr : World) (n m0 : Nat) (X : List Pm) (i : Nat) (fs : Nat → Int → Option Value) : Prop where
  far : w.heap.size < m0
  row : ∀ p, p < n → wr.cell? ⟨w.heap.size, p, none⟩ = some (.map (some (m0 + p)))
  maps : ∀ p, p < n → IMap wr (m0 + p) i (fs p)
  sound : ∀ p, p < n → ∀ (a : Int) (u : Value), fs p a = some u → ∃ c, c ∈ X ∧ (∀ b, b < p → c.act b = b) ∧ a = ((c.act p : Nat) : Int) ∧ c.act p ≠ p ∧ Ints w u (cut n c)
  full : ∀ p, p < n → ∀ c, c ∈ X.take i → (∀ b, b < p → c.act b = b) → c.act p ≠ p → ∃ u, fs p ((c.act p : Nat) : Int) = some u
  below : Below w.heap.size w wr

theorem imap_drew {w : World} {b n : Nat} {f : Int → Option Value} (h : IMap w b n f) : IMap w.drew b n f := h.of_block rfl

theorem BrTo.same {w wr : World} {n m0 i : Nat} {X : List Pm} {fs : Nat → Int → Option Value} (h : BrTo w wr n m0 X i fs) {c : Pm} (hc : X[i]? = some c) (hf : ∀ p, p < n → c.act p = p) : BrTo w wr n m0 X (i + 1) fs :=
  ⟨h.far, h.row, fun p hp => (h.maps p hp).mono (Nat.le_succ i), h.sound, fun p hp d hd h1 h2 => by
    rw [List.take_add_one, hc, List.mem_append] at hd
    rcases hd with hd | hd
    · exact h.full p hp d hd h1 h2
    · have : d = c := by simpa using hd
      subst this
      exact absurd (hf p hp) h2, h.below⟩

theorem BrTo.put {w wr w' : World} {n m0 i p0 : Nat} {X : List Pm} {fs : Nat → Int → Option Value} {u : Value} (h : BrTo w wr n m0 X i fs) {c : Pm} (hc : X[i]? = some c) (hp0 : p0 < n) (hlow : ∀ b, b < p0 → c.act b = b) (hne : c.act p0 ≠ p0) (hu : Ints w u (cut n c))
    (hM : IMap w' (m0 + p0) (i + 1) (upd (fs p0) ((c.act p0 : Nat) : Int) u)) (hg : wr.drew.grownBy w' (some (m0 + p0))) :
    BrTo w w' n m0 X (i + 1) (fun p => if p = p0 then upd (fs p0) ((c.act p0 : Nat) : Int) u else fs p) := by
  have hblk : ∀ b, b < wr.heap.size → b ≠ m0 + p0 → w'.heap[b]? = wr.heap[b]? := fun b hb hne' => hg.block b hb (fun e => hne' (Option.some.inj e))
  have hcm := List.mem_of_getElem? hc
  have hfar := h.far
  refine ⟨h.far, fun p hp => ?_, fun p hp => ?_, fun p hp a v hv => ?_, fun p hp d hd h1 h2 => ?_, ?_⟩
  · rw [World.cell?_of_block (w := wr) (hblk w.heap.size (Nat.lt_of_lt_of_le (by omega) (Nat.succ_le_of_lt (h.maps p hp).lt)) (by omega))]
    exact h.row p hp
  · by_cases e : p = p0
    · subst e; simp only [if_pos]; exact hM
    · simp only [if_neg e]
      exact ((h.maps p hp).mono (Nat.le_succ i)).of_block (hblk _ (h.maps p hp).lt (by omega))
  · by_cases e : p = p0
    · subst e
      simp only [if_pos] at hv
      unfold upd at hv
      by_cases ea : a = ((c.act p : Nat) : Int)
      · rw [if_pos ea] at hv
        rw [← Option.some.inj hv]
        exact ⟨c, hcm, hlow, ea, hne, hu⟩
      · rw [if_neg ea] at hv
        exact h.sound p hp a v hv
    · simp only [if_neg e] at hv
      exact h.sound p hp a v hv
  · rw [List.take_add_one, hc, List.mem_append] at hd
    by_cases e : p = p0
    · subst e
      simp only [if_pos]
      unfold upd
      by_cases ea : ((d.act p : Nat) : Int) = ((c.act p : Nat) : Int)
      · exact ⟨u, if_pos ea⟩
      · rw [if_neg ea]
        rcases hd with hd | hd
        · exact h.full p hp d hd h1 h2
        · have : d = c := by simpa using hd
          subst this
          exact absurd rfl ea
    · simp only [if_neg e]
      rcases hd with hd | hd
      · exact h.full p hp d hd h1 h2
      · have : d = c := by simpa using hd
        subst this
        rcases Nat.lt_or_ge p p0 with hl | hl
        · exact absurd (hlow p hl) h2
        · exact absurd (h1 p0 (by omega)) hne
  · exact (h.below.trans ((Below.refl _ _).drew.mono (Nat.le_refl _))).grown hg (by have := h.below.size; exact this) (fun g hg' => by have := Option.some.inj hg'; omega)

/-- What mark reads: maps by place. -/
structure BrAt (w : World) (v : Value) (n m0 : Nat) (H : Pm → Prop) (b : Nat) (fs : Nat → Int → Option Value) (k : Nat) : Prop where
  val : v = .slice (some ⟨b, 0, none⟩) n n
  lt : b < w.heap.size
  row : ∀ p, p < n → w.cell? ⟨b, p, none⟩ = some (.map (some (m0 + p)))
  maps : ∀ p, p < n → IMap w (m0 + p) k (fs p)
  sound : ∀ p, p < n → ∀ (a : Int) (u : Value), fs p a = some u → ∃ c, Low H p c ∧ a = ((c.act p : Nat) : Int) ∧ c.act p ≠ p ∧ Ints w u (cut n c)
  full : ∀ p, p < n → ∀ c, Low H p c → c.act p ≠ p → ∃ u, fs p ((c.act p : Nat) : Int) = some u

theorem BrAt.later {w w' : World} {v : Value} {n m0 b k : Nat} {H : Pm → Prop} {fs : Nat → Int → Option Value} (h : BrAt w v n m0 H b fs k) (hb : Below w.heap.size w w') : BrAt w' v n m0 H b fs k :=
  ⟨h.val, Nat.lt_of_lt_of_le h.lt hb.size, fun p hp => (hb.cell (p := ⟨b, p, none⟩) h.lt).trans (h.row p hp), fun p hp => (h.maps p hp).below hb (h.maps p hp).lt, fun p hp a u hu => by
    obtain ⟨c, h1, h2, h3, h4⟩ := h.sound p hp a u hu
    exact ⟨c, h1, h2, h3, h4.below hb⟩, h.full⟩

theorem BrTo.done {w wr : World} {n m0 : Nat} {X : List Pm} {H : Pm → Prop} {fs : Nat → Int → Option Value} (h : BrTo w wr n m0 X X.length fs) (hX : ∀ x, x ∈ X ↔ H x) (h1 : 1 ≤ n) : BrAt wr (.slice (some ⟨w.heap.size, 0, none⟩) n n) n m0 H w.heap.size fs X.length :=
  ⟨rfl, by have := (h.maps 0 (by omega)).lt; have := h.far; omega, h.row, h.maps, fun p hp a u hu => by
    obtain ⟨c, h1, h2, h3, h4, h5⟩ := h.sound p hp a u hu
    exact ⟨c, ⟨(hX c).1 h1, h2⟩, h3, h4, h5.below h.below⟩, fun p hp c hc hne => h.full p hp c (by rw [List.take_length]; exact (hX c).2 hc.1) hc.2 hne⟩

theorem made_maps (n : Nat) : (madeCells #[Value.map none] n).toList = List.replicate n (.map none) := by
  apply List.ext_getElem
  · simp [madeCells]
  · intro i h1 h2
    simp [madeCells, Nat.mod_one]

/-- The maps that were made so far. -/
structure BrM (w wr : World) (n m0 k : Nat) : Prop where
  far : w.heap.size < m0
  row : wr.ownsRow w.heap.size 145 1 (.slice (some ⟨w.heap.size, 0, none⟩) n n) n ((List.range k).map (fun p => Value.map (some (m0 + p))) ++ List.replicate (n - k) (.map none))
  size : wr.heap.size = m0 + k
  maps : ∀ p, p < k → IMap wr (m0 + p) 0 (fun _ => none)
  below : Below w.heap.size w wr

theorem BrM.step {w wr : World} {n m0 k : Nat} (h : BrM w wr n m0 k) (hk : k < n) : BrM w ((wr.alloc (.map #[] 0)).setCell ⟨w.heap.size, k, none⟩ (.map (some (m0 + k)))) n m0 (k + 1) := by
  have hs : (wr.alloc (.map #[] 0)).heap.size = m0 + (k + 1) := by simp [h.size]; omega
  have hfar := h.far
  refine ⟨hfar, ?_, by simp [World.setCell, h.size]; omega, fun p hp => ?_, ?_⟩
  · have h1 := owns_set (m := k) (h.row.alloc (.map #[] 0)) (.map (some (m0 + k)))
    have e : ((List.range k).map (fun p => Value.map (some (m0 + p))) ++ List.replicate (n - k) (Value.map none)).set k (.map (some (m0 + k))) = (List.range (k + 1)).map (fun p => Value.map (some (m0 + p))) ++ List.replicate (n - (k + 1)) (.map none) := by
      have h9 := set_at (Value.map none) (.map (some (m0 + k))) (n - (k + 1)) ((List.range k).map (fun p => Value.map (some (m0 + p))))
      rw [List.length_map, List.length_range, show n - (k + 1) + 1 = n - k by omega] at h9
      rw [h9, List.range_succ, List.map_append]
      rfl
    rw [e] at h1
    exact h1
  · by_cases e : p = k
    · subst e
      have h9 := IMap.made wr
      rw [h.size] at h9
      exact h9.of_block (Below.heap_setCell _ _ _ _ (by show m0 + p ≠ w.heap.size; omega))
    · exact ((h.maps p (by omega)).alloc _).of_block (Below.heap_setCell _ _ _ _ (by show m0 + p ≠ w.heap.size; omega))
  · exact (h.below.alloc h.below.size _).setCell (Nat.le_refl _) _

theorem BrM.done {w wr : World} {n m0 : Nat} (h : BrM w wr n m0 n) (X : List Pm) : BrTo w wr n m0 X 0 (fun _ _ => none) := by
  refine ⟨h.far, fun p hp => ?_, h.maps, fun p hp a u hu => (by cases hu), fun p hp c hc => (by simp at hc), h.below⟩
  have := h.row.cells (g := w.heap.size) rfl p (.map (some (m0 + p))) (by
    rw [Nat.sub_self, List.replicate_zero, List.append_nil, List.getElem?_map, List.getElem?_range hp]; rfl)
  rw [Addr.add_lit, Nat.zero_add] at this
  exact this

end Go.Proofs.Ytimfoggjocajiaa

/- Contract: coset.bringing: the walk. -/
namespace Go.Proofs.Ytimfoggjocajiaa
open Go.RowKit

set_option maxRecDepth 20000 in
set_option maxHeartbeats 4000000 in
theorem bringing_ok (n : Nat) (v : Value) (X : List Pm) (w : World) (hA : IntsAll w v (X.map (cut n))) (hX1 : 1 ≤ X.length) (hN : X.length ≤ 1000000) (h1 : 1 ≤ n) (h12 : n ≤ 12) (hf : ∀ x, x ∈ X → Fixes (fun b => n ≤ b) x) :
    Calls Try.prog 72 #[.int .i64 n, v] w fun e w' => ∃ m0 fs, e = .returned (.slice (some ⟨w.heap.size, 0, none⟩) n n) ∧ BrTo w w' n m0 X X.length fs := by
  obtain ⟨i0, hi, hz0, hz1, hz2⟩ := info_parts Try.info145
  have hmm := @run_makeMap Try.prog
  obtain ⟨pr, Nr, cr, rfl⟩ : ∃ p N c, v = .slice p N c := by obtain ⟨p, c, e⟩ := hA.len; exact ⟨p, _, c, e⟩
  obtain ⟨gr, offr, rfl, hNr, hcr1, hcr2, hgr, hcell⟩ := hA.rowI (by rw [List.length_map]; exact hX1)
  rw [List.length_map] at hNr hcr1
  have HCL : Hid (∀ i x, X[i]? = some x → ∃ u, w.cell? ⟨gr, offr + i, none⟩ = some u ∧ Ints w u (cut n x)) := fun i x hx => hcell i _ (by rw [List.getElem?_map, hx]; rfl)
  have HF := hide hf
  generalize hxl : X.length = xl at *
  have HXL := hide hxl
  have hNr' := hNr.symm
  subst hNr'
  clear hA hcell hf hxl hNr
  go_enter Try.func72, Try.ntmps72
  go_wp2_with (at_make; refine wpList_make_full _ rfl _ _ 106 rfl w.heap.size 145 i0 (.map none) 1 Try.underlying106 hi hz0 hz1 _ _ _ _ n rfl rfl (by omega) (by omega) ?b2 ?b3 (Nat.le_refl _) ?_)
  case b2 => rw [hz2]; omega
  case b3 => unfold maxLen; omega
  intro w1 hown1 hg1
  rw [made_maps] at hown1
  have hm0 : w.heap.size < w1.heap.size := (hown1.lt w.heap.size rfl).2
  have HM0 : Hid (BrM w w1 n w1.heap.size 0) := ⟨hm0, by simpa using hown1, rfl, fun p hp => by omega, (Below.refl _ _).grown hg1 (Nat.le_refl _) (fun k h => by cases h)⟩
  obtain ⟨m0, hm0e⟩ : ∃ m0, m0 = w1.heap.size := ⟨_, rfl⟩
  rw [← hm0e] at HM0 hm0
  clear hown1 hg1 hm0e
  go_wp2
  go_loopw [14] (fun si wr => ∃ k : Nat, k ≤ n ∧ si = .int .i64 k ∧ BrM w wr n m0 k) (fun si _ => n - (intOf si).toNat)
  case atStart => exact ⟨0, Nat.zero_le _, rfl, HM0.out⟩
  case round =>
    clear HM0
    obtain ⟨k, hk, rfl, hM⟩ := hrel
    by_cases hlt : k < n
    · have hM2 := hM.step hlt
      have hbk := row_cellE (hM.row.alloc (.map #[] 0)) hlt
      obtain ⟨⟨u, hcu⟩, hfu⟩ := hbk
      have hsz := hM.size
      have HM2 := hide hM2
      rw [← hsz] at HM2
      clear hM hM2 hsz
      go_wp2
      go_roundw
      case rel => exact ⟨k + 1, hlt, by go_num, HM2.out⟩
      case measure => simp [intOf]; omega
    · obtain rfl : n = k := by omega
      have HD := hide (hM.done X)
      clear hM
      go_wp2
      go_loopw [24] (fun si wr => ∃ (i : Nat) (fs : Nat → Int → Option Value), i ≤ xl ∧ si = .int .i64 i ∧ BrTo w wr n m0 X i fs) (fun si _ => xl - (intOf si).toNat)
      case atStart => exact ⟨0, _, Nat.zero_le _, rfl, HD.out⟩
      case round =>
        clear HD
        obtain ⟨i, fs, hix, rfl, hB⟩ := hrel
        by_cases hit : i < xl
        · obtain ⟨c, hc⟩ : ∃ c, X[i]? = some c := ⟨_, List.getElem?_eq_getElem (by rw [HXL.out]; exact hit)⟩
          obtain ⟨u, hcu, hiu⟩ := HCL.out i c hc
          have hcu' := (hB.below.cell (p := ⟨gr, offr + i, none⟩) hgr).trans hcu
          have HIU := hide hiu
          obtain ⟨p2, c2, e2⟩ := hiu.form
          subst e2
          obtain ⟨b2, o2, rfl, hl1, hl2, hl3, hl4⟩ := hiu.open (by rw [cut_length h12]; omega)
          rw [cut_length h12] at hcu' hl1 HIU hl4
          have HB := hide hB
          have HC := hide hc
          have HL4 : Hid (∀ j, j < n → ∀ W, Below w.heap.size w W → W.cell? ⟨b2, o2 + j, none⟩ = some (.int .i64 ((c.act j : Nat) : Int))) := fun j hj W hW => by
            rw [← cut_get c h12 hj]
            exact (hW.cell (p := ⟨b2, o2 + j, none⟩) hl3).trans (hl4 j hj)
          obtain ⟨wo, hwo⟩ : ∃ wo, wo = wr := ⟨_, rfl⟩
          subst hwo
          have hbw := hB.below
          clear hcu hiu hc hl4 hB
          go_wp2
          go_loopw [9] (fun sp wr => ∃ p : Nat, p ≤ n ∧ sp = .int .i64 p ∧ Hid (∀ b, b < p → c.act b = b) ∧ wr = wo) (fun sp _ => n - (intOf sp).toNat)
          case atStart => exact ⟨0, Nat.zero_le _, rfl, fun b hb => by omega, rfl⟩
          case round =>
            obtain ⟨p, hp, rfl, hlow, hww⟩ := hrel
            have hww' := hww.symm
            subst hww'
            clear hww
            by_cases hpn : p < n
            · have hcp := HL4.out p hpn wo hbw
              have hpI : (p : Int) < (n : Int) := by omega
              by_cases hfx : c.act p = p
              · have HL2 : Hid (∀ b, b < p + 1 → c.act b = b) := fun b hb => by
                  by_cases e : b = p
                  · rw [e]; exact hfx
                  · exact hlow.out b (by omega)
                rw [hfx] at hcp
                clear hlow hfx
                go_wp2
                go_roundw
                case rel =>
                  first
                    | exact ⟨p + 1, hpn, by go_num, HL2, rfl⟩
                    | exact ⟨p + 1, hpn, by go_num, HL2, trivial⟩
                case measure => simp [intOf]; omega
              · have hfI : ¬ ((c.act p : Nat) : Int) = (p : Int) := by omega
                have hck := HB.out.row p hpn
                have hfI2 : (((c.act p : Nat) : Int) == (p : Int)) = false := beq_eq_false_iff_ne.2 hfI
                have ha12 : c.act p < 12 := c.act_lt (by omega)
                obtain ⟨w9, hrun, hM9, hg9⟩ := (imap_drew (HB.out.maps p hpn)).put Try.underlying145 (show i < maxLen by unfold maxLen; omega) (a := ((c.act p : Nat) : Int)) (by omega) (by omega) (.slice (some ⟨b2, o2, none⟩) n c2)
                have HB9 := hide (HB.out.put HC.out hpn hlow.out hfx HIU.out hM9 hg9)
                clear hM9 hg9 hlow hfx HIU
                generalize c.act p = cp at *
                go_upto_region 14 with fail
                go_region
                go_wp2
                go_roundw
                case rel =>
                  have hfin : ∃ (i' : Nat) (fs : Nat → Int → Option Value), i' ≤ xl ∧ Value.int .i64 ((i : Int) + 1) = .int .i64 (i' : Int) ∧ BrTo w w9 n m0 X i' fs := ⟨i + 1, _, hit, by go_num, HB9.out⟩
                  first
                    | exact hfin
                    | ((repeat apply Exists.intro); exact ⟨hfin, rfl⟩)
                case measure => simp [intOf]; omega
            · obtain rfl : n = p := by omega
              have HB9 := hide (HB.out.same HC.out (fun p hp => hlow.out p hp))
              clear hlow
              go_wp2
              go_roundw
              case rel =>
                have hfin : ∃ (i' : Nat) (fs : Nat → Int → Option Value), i' ≤ xl ∧ Value.int .i64 ((i : Int) + 1) = .int .i64 (i' : Int) ∧ BrTo w wo n m0 X i' fs := ⟨i + 1, _, hit, by go_num, HB9.out⟩
                first
                  | exact hfin
                  | ((repeat apply Exists.intro); exact ⟨hfin, rfl⟩)
              case measure => simp [intOf]; omega
        · obtain rfl : xl = i := by omega
          have HB := hide hB
          clear hB
          go_wp2
          go_ret
          exact ⟨m0, fs, rfl, HB.out⟩

end Go.Proofs.Ytimfoggjocajiaa

/- Contract: newChain by the bases that Still turns (mkget.py). -/
namespace Go.Proofs.Ytimfoggjocajiaa
open Go.RowKit

theorem link_laidT {w wr w1 w2 : World} {n j c : Nat} {bs : List Nat} {st : Nat → St} (hPre : PreAt wr w.heap.size w.heap.size n (((bs.take j).map lk0).map rawOf) st) (hlt : j < n) (hbl : bs.length = n) (hbj : bs[j]? = some c) (hbw : Below w.heap.size w wr) (hb01 : Below wr.heap.size wr w1) (hs1 : wr.heap.size < w1.heap.size)
    (hM2 : IMap w2 wr.heap.size (0 + 1) (upd (fun _ => none) (c : Int) (pv 1))) (hg2 : w1.grownBy w2 (some wr.heap.size)) :
    ∃ st', PreAt ((w2.alloc (.cells #[.int .i64 (c : Int)] 3)).setCells w.heap.size (j * 4) [.int .i64 (c : Int), .map (some wr.heap.size), .slice (some ⟨w2.heap.size, 0, none⟩) 1 1, .slice none 0 0]) w.heap.size w.heap.size n (((bs.take (j + 1)).map lk0).map rawOf) st' ∧ Below w.heap.size w ((w2.alloc (.cells #[.int .i64 (c : Int)] 3)).setCells w.heap.size (j * 4) [.int .i64 (c : Int), .map (some wr.heap.size), .slice (some ⟨w2.heap.size, 0, none⟩) 1 1, .slice none 0 0]) := by
  have hR : (((bs.take j).map lk0).map rawOf).length = j := by simp; omega
  have hs2 := hg2.size
  have hbs := hbw.size
  have hb2 : Below wr.heap.size wr (w2.alloc (.cells #[.int .i64 (c : Int)] 3)) := (hb01.grown hg2 hb01.size (fun k h => by have := Option.some.inj h; omega)).alloc (by omega) _
  have hM3 := hM2.alloc (.cells #[.int .i64 (c : Int)] 3)
  rw [tabF_one] at hM3
  have hO : (w2.alloc (.cells #[.int .i64 (c : Int)] 3)).ownsRow w.heap.size 3 1 (.slice (some ⟨w2.heap.size, 0, none⟩) 1 1) 1 [.int .i64 (c : Int)] := owns_base (one_owned w2 (c : Int)) (by omega)
  have hst := hPre.step (base := c) (by rw [hR]; exact hlt) hb2 hM3 (by omega) (Nat.le_refl _) hO (by omega)
  rw [hR, show ((bs.take j).map lk0).map rawOf ++ [rawOf (lk0 c)] = ((bs.take (j + 1)).map lk0).map rawOf from by rw [List.take_add_one, hbj]; simp] at hst
  exact ⟨_, hst, (hbw.trans (hb2.mono hbw.size)).trans (below_setCells _ _ _ _ (Nat.le_refl _))⟩

set_option maxRecDepth 20000 in
set_option maxHeartbeats 4000000 in
theorem newChainT_ok (n b2 b3 : Nat) (bs : List Nat) (v1 : Value) (gs : List Pm) (w : World) (h1 : 1 ≤ n) (h12 : n ≤ 12) (hP : Packs w v1 gs) (hgs : gs.length ≤ 8916100448256) (hF : ∀ x, x ∈ gs → Fixes (fun b => n ≤ b) x) (hbl : bs.length = n) (hb12 : ∀ b, b ∈ bs → b < 12) (hba : ∀ b, b < 12 → n ≤ b ∨ b ∈ bs)
    (hBase : ∀ (j c : Nat) (W : World), bs[j]? = some c → Below w.heap.size w W → Calls Try.prog 97 #[.int .i64 (j : Int), .pointer (some ⟨b3, 0, none⟩), .pointer (some ⟨b2, 0, none⟩)] W fun e w' => e = .returned (.int .i64 (c : Int)) ∧ Below W.heap.size W w') :
    Calls Try.prog 98 #[.int .i64 n, v1, .func (.func 97) #[] #[.pointer (some ⟨b3, 0, none⟩), .pointer (some ⟨b2, 0, none⟩)]] w fun e w' => ∃ g C st, e = .returned (.slice (some ⟨g, 0, none⟩) n n) ∧ Chained w' w.heap.size g n bs C st gs ∧ Below w.heap.size w w' := by
  obtain ⟨i0, hi, hz0, hz1, hz2⟩ := info_parts Try.info136
  obtain ⟨pp, pcap, rfl⟩ := hP.form
  have HP := hide hP
  have HFx := hide hF
  have HBL := hide hbl
  have HB12 := hide hb12
  have HBA := hide hba
  have HBase := hide hBase
  have hmm := @run_makeMap Try.prog
  have hl1 := (1 : Pm).len
  clear hP hF hbl hb12 hba hBase
  go_enter Try.func98, Try.ntmps98
  go_wp2_with (at_make; refine wpList_make_full _ rfl _ _ 97 rfl w.heap.size 136 i0 (.agg #[.int .i64 0, .map none, .slice none 0 0, .slice none 0 0]) 4 Try.underlying97 hi hz0 hz1 _ _ _ _ n rfl rfl (by omega) (by omega) ?b2 ?b3 (Nat.le_refl _) ?_)
  case b2 => rw [hz2]; omega
  case b3 => unfold maxLen; omega
  intro w0 hown0 hgrow0
  have hPre0 : PreAt w0 w.heap.size w.heap.size n (((bs.take 0).map lk0).map rawOf) (fun _ => ⟨0, .slice none 0 0, .slice none 0 0⟩) := by
    refine ⟨?_, Nat.le_refl _, fun j r h => by simp at h, fun i j h => by simp at h, fun i j h => by simp at h, fun i j h => by simp at h⟩
    rcases hown0.2 with ⟨h, _⟩ | ⟨g', cap', cur, hv, _, hh, _, _, hs, _⟩
    · cases h
    · injection hv with e1 _ e3
      injection e1 with e1
      injection e1 with e1
      subst e1; subst e3
      exact ⟨cur, hh, by rw [hs, Nat.mul_comm]⟩
  have hB0 : Below w.heap.size w w0 := (Below.refl _ _).grown hgrow0 (Nat.le_refl _) (fun k h => by cases h)
  clear hown0 hgrow0
  go_wp2
  go_loopw [16] (fun i wr => ∃ (j : Nat) (st : Nat → St), j ≤ n ∧ i = .int .i64 j ∧ PreAt wr w.heap.size w.heap.size n (((bs.take j).map lk0).map rawOf) st ∧ Below w.heap.size w wr) (fun i _ => n - (intOf i).toNat)
  case atStart => exact ⟨0, _, by omega, rfl, hPre0, hB0⟩
  case round =>
    clear hPre0 hB0
    obtain ⟨j, st, hj, rfl, hPre, hbw⟩ := hrel
    by_cases hlt : j < n
    · obtain ⟨c, hbj⟩ : ∃ c, bs[j]? = some c := ⟨_, List.getElem?_eq_getElem (by rw [HBL.out]; exact hlt)⟩
      have hc12 : c < 12 := HB12.out c (List.mem_of_getElem? hbj)
      have HBJ := hide hbj
      have HCal := hide (HBase.out j c wr hbj hbw)
      clear hbj
      have HPre := hide hPre
      have hbs := hbw.size
      have hsw : w.heap.size < wr.heap.size := by obtain ⟨cs, ho, _⟩ := hPre.obj; exact (Array.getElem?_eq_some_iff.1 ho).1
      clear hPre
      go_wp2_with fail
      refine HCal.out.mono ?_
      rintro e wc ⟨rfl, hbc⟩
      have hM0 := IMap.made wc
      have hbwc : Below w.heap.size w wc := hbw.trans (hbc.mono hbw.size)
      have HPreC := hide (HPre.out.below hbc (Nat.le_refl _))
      have hswc : w.heap.size < wc.heap.size := Nat.lt_of_lt_of_le hsw hbc.size
      clear HPre HCal hbw hbs hsw hbc
      have HPre := HPreC
      have hbw := hbwc
      have hsw := hswc
      have hbs := hbwc.size
      clear HPreC hbwc hswc
      go_wp2_with fail
      refine (prounds_ok _).mono ?_
      rintro e w1 ⟨rfl, hb1⟩
      replace hb1 := below_alloc hb1
      have hM1 := hM0.below hb1 (by omega)
      have hb01 : Below wc.heap.size wc w1 := ((Below.refl _ _).alloc (Nat.le_refl _) _).trans (hb1.mono (by omega))
      have hs1 : wc.heap.size < w1.heap.size := by have := hb1.size; simp at this; omega
      clear hM0 hb1
      have hgth : ∀ (W : World) (o : Obj), W.heap[w.heap.size]? = wc.heap[w.heap.size]? → w.heap.size < W.heap.size → (W.alloc o).there w.heap.size (j * 4) 4 := fun W o hW hlt2 => by
        obtain ⟨cs, ho, hos⟩ := HPre.out.obj
        exact there_obj ((Below.heap_alloc W o _ hlt2).trans (hW.trans ho)) hos _ _ (by omega)
      have HG := hide hgth
      have HZL : Hid (0 < maxLen) := by unfold Hid maxLen; omega
      have HJ1 : Hid (-9223372036854775808 ≤ (c : Int)) := by show _ ≤ _; omega
      have HJ2 : Hid ((c : Int) ≤ 9223372036854775807) := by show _ ≤ _; omega
      clear hgth
      go_wp2_with (refine wpList_insert rfl _ _ _ 134 rfl 91 Try.underlying134 hM1 HZL.out (c : Int) (pv 1) rfl rfl rfl HJ1.out HJ2.out ?_)
      intro w2 hM2 hg2
      have hth2 := HG.out w2 (.cells #[.int .i64 (c : Int)] 3) ((hg2.block w.heap.size (by omega) (by intro e; have := Option.some.inj e; omega)).trans (hb01.block w.heap.size hsw)) (by have := hg2.size; omega)
      obtain ⟨x0, d0⟩ := Option.isSome_iff_exists.1 (hth2 0 (by omega)).1
      obtain ⟨x1, d1⟩ := Option.isSome_iff_exists.1 (hth2 1 (by omega)).1
      obtain ⟨x2, d2⟩ := Option.isSome_iff_exists.1 (hth2 2 (by omega)).1
      obtain ⟨x3, d3⟩ := Option.isSome_iff_exists.1 (hth2 3 (by omega)).1
      have f0 := (hth2 0 (by omega)).2
      have f1 := (hth2 1 (by omega)).2
      have f2 := (hth2 2 (by omega)).2
      have f3 := (hth2 3 (by omega)).2
      rw [Nat.add_zero] at d0 f0
      have hLL := link_laidT HPre.out hlt HBL.out HBJ.out hbw hb01 hs1 hM2 hg2
      have HLL := hide hLL
      clear hLL hM2 hg2 hth2 hb01 hM1 HG HZL HJ1 HJ2
      obtain ⟨st', HST, HB3⟩ := HLL.out
      replace HST := hide HST
      replace HB3 := hide HB3
      clear HLL
      go_wp2
      go_roundw
      case rel =>
        have hfin : ∃ (j' : Nat) (st : Nat → St), j' ≤ n ∧ Value.int .i64 ((j : Int) + 1) = .int .i64 (j' : Int) ∧ PreAt ((w2.alloc (.cells #[.int .i64 (c : Int)] 3)).setCells w.heap.size (j * 4) [.int .i64 (c : Int), .map (some wc.heap.size), .slice (some ⟨w2.heap.size, 0, none⟩) 1 1, .slice none 0 0]) w.heap.size w.heap.size n (((bs.take j').map lk0).map rawOf) st ∧ Below w.heap.size w ((w2.alloc (.cells #[.int .i64 (c : Int)] 3)).setCells w.heap.size (j * 4) [.int .i64 (c : Int), .map (some wc.heap.size), .slice (some ⟨w2.heap.size, 0, none⟩) 1 1, .slice none 0 0]) :=
          ⟨j + 1, _, by omega, by go_num, HST.out, HB3.out⟩
        first
          | exact hfin
          | ((repeat apply Exists.intro); exact ⟨hfin, rfl⟩)
      case measure => simp [intOf]; omega
    · obtain rfl : j = n := by omega
      have hCh := hPre.all (by rw [List.take_of_length_le (by rw [HBL.out]; exact Nat.le_refl _)]; simp; exact HBL.out)
      rw [List.take_of_length_le (by rw [HBL.out]; exact Nat.le_refl _)] at hCh
      have HCh := hide hCh
      have HBw := hide hbw
      have hbs := hbw.size
      clear hPre hCh hbw
      obtain ⟨wo, hwo⟩ : ∃ wo : World, wo = wr := ⟨_, rfl⟩
      go_wp2
      go_loopw [36] (fun i wr => ∃ (q : Nat) (C : List Lk) (st : Nat → St), q ≤ gs.length ∧ i = .int .i64 q ∧ C.length = j ∧ Hid (C.map (·.base) = bs) ∧ Whole (fun b => j ≤ b) C ∧ Hid (∀ x, Prd C x ↔ Gen (fun y => y ∈ gs.take q) x) ∧ ChainAt wr w.heap.size w.heap.size (C.map rawOf) st ∧ Below w.heap.size w wr ∧ Hid (∀ l, l ∈ C → l.gens.Nodup)) (fun i _ => gs.length - (intOf i).toNat)
      case atStart =>
        refine ⟨0, bs.map lk0, st, by omega, rfl, by simp; exact HBL.out, ?_, whole_lk0 _ _ (fun b hb => ?_), ?_, HCh.out, HBw.out, ?_⟩
        · show (bs.map lk0).map (·.base) = _
          rw [List.map_map]
          exact List.map_id _
        · exact HBA.out b hb
        · intro x
          rw [prd_lk0, List.take_zero]
          exact ⟨fun e => by rw [e]; exact Gen.one, gen_none⟩
        · intro l hl
          obtain ⟨b, _, rfl⟩ := List.mem_map.1 hl
          exact List.nodup_nil
      case round =>
        clear hwo
        obtain ⟨q, C, st, hq, rfl, hlen, hbas, hW, hg, hCh, hbw, hnd⟩ := hrel
        by_cases hlt : q < gs.length
        · obtain ⟨s, hs⟩ : ∃ s, gs[q]? = some s := ⟨_, List.getElem?_eq_getElem hlt⟩
          have hfs := HFx.out s (List.mem_of_getElem? hs)
          have hPk := HP.out.below hbw (Nat.le_refl _)
          obtain ⟨b, off, hpp, hrange, hb⟩ : ∃ b off, pp = some ⟨b, off, none⟩ ∧ wr.rangeAt b (off + q * 12) (s.l.map (Value.int .i8)) ∧ gs.length ≤ pcap := by
            rcases hPk with ⟨e, _⟩ | ⟨b, off, cap, hv, _, hc, _, _, hr⟩
            · rw [e] at hlt; simp at hlt
            · injection hv with e1 _ e3
              exact ⟨b, off, e1, hr q s hs, by omega⟩
          have hin : (Try.prog.info? 91).map (·.size) = some (s.l.map (Value.int .i8)).length := by rw [List.length_map, s.len]; exact Try.size91
          have hsl := s.len
          have HS := hide hs
          have HCh := hide hCh
          have HW := hide hW
          have HLen := hide hlen
          have hbs := hbw.size
          subst hpp
          clear hs hPk hCh hW hlen
          go_wp2_with (first
            | refine wpList_load_mid rfl 91 _ rfl b _ rfl _ _ hrange Try.underlying91 rfl hin ?_
            | (refine wpList_store_arr rfl _ _ rfl wr.heap.size zeros12 s.l (zeros_new wr) rfl rfl hsl ?_; intro w6 hX6 hg6)
            | refine wpList_load_arr rfl _ rfl wr.heap.size s.l hX6 rfl ?_)
          have hb6 : Below wr.heap.size wr w6 := ((Below.refl _ _).alloc (Nat.le_refl _) _).grown hg6 (by simp) (fun k h => by have := Option.some.inj h; omega)
          have hC6 := HCh.out.below hb6 (Nat.le_refl _)
          have hbl : ∀ l, l ∈ C → l.base < 12 := fun l hl => by
            exact HB12.out _ (by rw [← hbas.out]; exact List.mem_map.2 ⟨l, hl, rfl⟩)
          have hT := take_all j 0 (by omega) w.heap.size w.heap.size [] C st s (fun b => j ≤ b) w6 rfl (by rw [HLen.out]; omega) h12 hbl hnd.out hC6 HW.out hfs
          have HT := hide hT
          have HB6 := hide hb6
          have HC6 := hide hC6
          clear hT hb6 hC6 hX6 hg6 hrange
          refine HT.out.mono ?_
          rintro e w7 ⟨v, rfl, C', st', hW7, hT7, hC7, hK7, hf7, hn7, hs7⟩
          have hg7 := chained_take HS.out hW7 hg.out hT7
          have hB7 : Below w.heap.size w w7 := (hbw.trans (HB6.out.mono hbw.size)).trans (hK7.toBelow (by have := HB6.out.size; omega) (fun b x hb hf => by have := (foot_lt HC6.out hf).2; omega))
          have HG7 := hide hg7
          clear hg7
          go_wp2
          go_roundw
          case rel =>
            have hfin : ∃ (q' : Nat) (C : List Lk) (st : Nat → St), q' ≤ gs.length ∧ Value.int .i64 ((q : Int) + 1) = .int .i64 (q' : Int) ∧ C.length = j ∧ Hid (C.map (·.base) = bs) ∧ Whole (fun b => j ≤ b) C ∧ Hid (∀ x, Prd C x ↔ Gen (fun y => y ∈ gs.take q') x) ∧ ChainAt w7 w.heap.size w.heap.size (C.map rawOf) st ∧ Below w.heap.size w w7 ∧ Hid (∀ l, l ∈ C → l.gens.Nodup) :=
              ⟨q + 1, C', st', by omega, by go_num, hT7.len.trans HLen.out, hT7.bases.trans hbas.out, hW7, HG7, hC7, hB7, hn7⟩
            first
              | exact hfin
              | ((repeat apply Exists.intro); exact ⟨hfin, rfl⟩)
          case measure => simp [intOf]; omega
        · have hgf : ∀ x, Prd C x ↔ Gen (fun y => y ∈ gs) x := fun x => by have := hg.out x; rw [List.take_of_length_le (by omega)] at this; exact this
          have HCd := hide (Chained.mk hlen hbas.out hW hgf hCh hnd.out)
          clear hW hCh hgf hg
          go_wp2
          go_ret
          exact ⟨_, C, st, rfl, HCd.out, hbw⟩
end Go.Proofs.Ytimfoggjocajiaa

/- Contract: a group's Still. -/
namespace Go.Proofs.Ytimfoggjocajiaa
open Go.RowKit

theorem stab_prd {F : Nat → Prop} {l : Lk} {c : List Lk} (h : Whole F (l :: c)) (x : Pm) : Prd c x ↔ Prd (l :: c) x ∧ x.act l.base = l.base := by
  constructor
  · intro hx
    exact ⟨⟨(l.base, 1), h.1.first, x, hx, (Pm.one_mul x).symm⟩, prd_fix h.2.1 hx l.base (Or.inr rfl)⟩
  · rintro ⟨⟨e, he, p, hp, rfl⟩, hf⟩
    have hb := prd_fix h.2.1 hp l.base (Or.inr rfl)
    rw [Pm.act_mul, hb, h.1.brings e he] at hf
    have e1 : e.2 = 1 := tab_eq h.1.nodup (b := l.base) (by rw [← hf]; exact he) h.1.first
    rw [e1, Pm.one_mul]
    exact hp

/-- The bases, from a bell on. -/
def turned (bell n : Nat) : List Nat := (List.range n).map (fun j => (bell + j) % n)

theorem turned_len (bell n : Nat) : (turned bell n).length = n := by unfold turned; simp

theorem turned_at {bell n j c : Nat} (h : (turned bell n)[j]? = some c) : j < n ∧ c = (bell + j) % n := by
  have hj : j < n := by have := (List.getElem?_eq_some_iff.1 h).1; rw [turned_len] at this; exact this
  unfold turned at h
  rw [List.getElem?_map, List.getElem?_range hj] at h
  exact ⟨hj, (Option.some.inj h).symm⟩

theorem turned_mem {bell n b : Nat} (hb : bell < n) : b ∈ turned bell n ↔ b < n := by
  unfold turned
  rw [List.mem_map]
  constructor
  · rintro ⟨j, _, rfl⟩
    exact Nat.mod_lt _ (by omega)
  · intro h
    by_cases h' : bell ≤ b
    · exact ⟨b - bell, List.mem_range.2 (by omega), by rw [show bell + (b - bell) = b from by omega]; exact Nat.mod_eq_of_lt h⟩
    · exact ⟨b + n - bell, List.mem_range.2 (by omega), by rw [show bell + (b + n - bell) = b + n from by omega, Nat.add_mod_right]; exact Nat.mod_eq_of_lt h⟩

theorem packs_own {w : World} {B : Nat} {v : Value} {gs : List Pm} (h : w.ownsRow B 91 12 v gs.length (gcells gs)) : Packs w v gs := by
  by_cases h0 : gs.length = 0
  · have : gs = [] := List.length_eq_zero_iff.1 h0
    subst this
    obtain ⟨p, c, e⟩ := owns_slice12 h
    exact Or.inl ⟨rfl, p, c, e⟩
  · obtain ⟨p, c, e⟩ := owns_slice12 h
    have h' := h
    rw [e] at h'
    obtain ⟨b, hb, _, h1, h2⟩ := owns_some h' (by omega)
    subst hb
    refine Or.inr ⟨b, 0, c, e, by omega, h1, h2, (h'.lt b rfl).2, fun i q hi => ?_⟩
    intro j u hu
    have hj : j < 12 := by have := (List.getElem?_eq_some_iff.1 hu).1; rw [List.length_map, q.len] at this; exact this
    have h9 := h'.cells (g := b) rfl (i * 12 + j) _ (gcells_at gs i q hi j hj)
    rw [Addr.add_lit, Nat.zero_add] at h9
    rw [show 0 + i * 12 = i * 12 from by omega, h9, ← hu]
    simp [List.getD, q.len, hj]

theorem below_dr {w x : World} {B : Nat} (h : Below B w x) : Below B w x.drew := ⟨h.os, h.tape, h.output, h.size, h.block⟩

theorem below_dN (w : World) (n : Nat) : Below w.heap.size w (w.drewN n) := ⟨rfl, rfl, rfl, Nat.le_refl _, fun _ _ => rfl⟩

set_option maxRecDepth 20000 in
set_option maxHeartbeats 2000000 in
theorem still1_ok (bell n j b2 b3 g1 : Nat) (w : World) (h1 : 1 ≤ n) (h12 : n ≤ 12) (hb : bell < n) (hj : j < n) (c3 : w.cell? ⟨b3, 0, none⟩ = some (.int .i64 (bell : Int))) (c2 : w.cell? ⟨b2, 0, none⟩ = some (.pointer (some ⟨g1, 0, none⟩))) (c1 : w.cell? ⟨g1, 0, none⟩ = some (.int .i64 (n : Int))) :
    Calls Try.prog 97 #[.int .i64 (j : Int), .pointer (some ⟨b3, 0, none⟩), .pointer (some ⟨b2, 0, none⟩)] w fun e w' => e = .returned (.int .i64 (((bell + j) % n : Nat) : Int)) ∧ Below w.heap.size w w' := by
  have hm : ((bell : Int) + (j : Int)).tmod (n : Int) = (((bell + j) % n : Nat) : Int) := by rw [← Int.natCast_add]; rfl
  go_enter Try.func97, Try.ntmps97
  go_wp2
  go_quiet (fail)
  go_wp2
  go_ret
  exact ⟨by rw [← Int.natCast_add, ← Int.natCast_emod]; rfl, below_dN w nq⟩

theorem whole_head {F : Nat → Prop} {l : Lk} {c : List Lk} (h : Whole F (l :: c)) (x : Pm) : Prd (l :: c) x ↔ Gen (fun y => y ∈ l.gens) x := h.2.2 x

/-- What Still leaves. -/
def StPost (n : Nat) (gs : List Pm) (bell : Nat) (w : World) (e : Ending) (w' : World) : Prop :=
  ∃ v hs, e = .returned (.tuple #[v, .int .i64 0]) ∧ GroupAt w' v n hs ∧ (∀ x, Gen (fun y => y ∈ hs) x ↔ Gen (fun y => y ∈ gs) x ∧ x.act bell = bell) ∧ Below w.heap.size w w'

set_option maxRecDepth 20000 in
set_option maxHeartbeats 4000000 in
theorem still_ok (n bell : Nat) (v : Value) (gs : List Pm) (w : World) (h1 : 1 ≤ n) (h12 : n ≤ 12) (hb : bell < n) (hgs : gs.length ≤ 1000000) (hG : GroupAt w v n gs) :
    Calls Try.prog 52 #[v, .int .i64 (bell : Int)] w fun e w' => StPost n gs bell w e w' := by
  obtain ⟨g1, vg1, B1, c1, bs1, C1, st1, rfl, hg1, a10, a11, a12, hP1, hC1, hb1, rfl⟩ := hG
  have HFX : Hid (∀ s, s ∈ gs → Fixes (fun b => n ≤ b) s) := fun s hs => prd_fix hC1.whole ((hC1.gen s).2 (Gen.of hs))
  have HP := hide hP1
  obtain ⟨pp, pcap, rfl⟩ := hP1.form
  clear hP1 hC1 hb1 a12
  have hd0 : decide ((bell : Int) < 0) = false := decide_eq_false (by omega)
  have hd1 : decide ((n : Int) ≤ (bell : Int)) = false := decide_eq_false (by omega)
  have hBX : Below w.heap.size w ((w.alloc (.cells #[.pointer (some ⟨g1, 0, none⟩)] 24)).alloc (.cells #[.int .i64 (bell : Int)] 3)) := ((Below.refl _ _).alloc (Nat.le_refl _) _).alloc (by simp) _
  have k2 : ((w.alloc (.cells #[.pointer (some ⟨g1, 0, none⟩)] 24)).alloc (.cells #[.int .i64 (bell : Int)] 3)).cell? ⟨w.heap.size, 0, none⟩ = some (.pointer (some ⟨g1, 0, none⟩)) := by
    rw [cell_of_row _ w.heap.size 0 _ _ _ ((Below.heap_alloc _ _ _ (by simp)).trans (heap_alloc_new w _))]; rfl
  have k3 : ((w.alloc (.cells #[.pointer (some ⟨g1, 0, none⟩)] 24)).alloc (.cells #[.int .i64 (bell : Int)] 3)).cell? ⟨w.heap.size + 1, 0, none⟩ = some (.int .i64 (bell : Int)) := by
    have := heap_alloc_new (w.alloc (.cells #[.pointer (some ⟨g1, 0, none⟩)] 24)) (.cells #[.int .i64 (bell : Int)] 3)
    rw [show (w.alloc (.cells #[.pointer (some ⟨g1, 0, none⟩)] 24)).heap.size = w.heap.size + 1 from by simp] at this
    rw [cell_of_row _ (w.heap.size + 1) 0 _ _ _ this]; rfl
  have hsX : ((w.alloc (.cells #[.pointer (some ⟨g1, 0, none⟩)] 24)).alloc (.cells #[.int .i64 (bell : Int)] 3)).heap.size = w.heap.size + 2 := by simp
  go_enter Try.func52, Try.ntmps52
  go_wp2
  change Code.wp _ _ _ _ ((w.alloc (.cells #[.pointer (some ⟨g1, 0, none⟩)] 24)).alloc (.cells #[.int .i64 (bell : Int)] 3))
  generalize (w.alloc (.cells #[.pointer (some ⟨g1, 0, none⟩)] 24)).alloc (.cells #[.int .i64 (bell : Int)] 3) = X0 at *
  have k10 : X0.cell? ⟨g1, 0, none⟩ = some (.int .i64 (n : Int)) := (hBX.cell (p := ⟨g1, 0, none⟩) hg1).trans a10
  have k11 : X0.cell? ⟨g1, 1, none⟩ = some (.slice pp gs.length pcap) := (hBX.cell (p := ⟨g1, 1, none⟩) hg1).trans a11
  have HBX := hide hBX
  have HSX := hide hsX
  clear hBX hsX a10 a11
  go_quiet (fail)
  have hBX : Below w.heap.size w (X0.drewN nq) := HBX.out.trans ((below_dN X0 nq).mono HBX.out.size)
  have hsX : (X0.drewN nq).heap.size = w.heap.size + 2 := HSX.out
  have q2 : (X0.drewN nq).cell? ⟨w.heap.size, 0, none⟩ = some (.pointer (some ⟨g1, 0, none⟩)) := k2
  have q3 : (X0.drewN nq).cell? ⟨w.heap.size + 1, 0, none⟩ = some (.int .i64 (bell : Int)) := k3
  have q10 : (X0.drewN nq).cell? ⟨g1, 0, none⟩ = some (.int .i64 (n : Int)) := k10
  have q11 : (X0.drewN nq).cell? ⟨g1, 1, none⟩ = some (.slice pp gs.length pcap) := k11
  clear HBX HSX k2 k3 k10 k11
  generalize X0.drewN nq = X at *
  have HBX := hide hBX
  have HSX := hide hsX
  have HCs := hide q3
  clear hBX hsX
  go_wp2
  refine wp_region_held_drew (S := fun W' => W'.cell? ⟨w.heap.size, 0, none⟩ = some (.pointer (some ⟨g1, 0, none⟩)) ∧ W'.cell? ⟨g1, 0, none⟩ = some (.int .i64 (n : Int)) ∧ W'.cell? ⟨g1, 1, none⟩ = some (.slice pp gs.length pcap)) (by kernel_rfl) ⟨q2, q10, q11⟩ (fun hS => ?_)
  refine wpAnyH_take (i := 0) (v := .pointer (some ⟨g1, 0, none⟩)) rfl (by kernel_rfl) (by kernel_rfl) (by kernel_rfl) (fun _ _ _ h => h) (Or.inl ⟨by kernel_rfl, fun w' hS' => by obtain ⟨q2, q0, q1⟩ := hS'; go_simp⟩) hS ?_
  refine wpAnyH_take (i := 1) (v := .pointer (some ⟨g1, 0, none⟩)) rfl (by kernel_rfl) (by kernel_rfl) (by kernel_rfl) (fun _ _ _ h => h) (Or.inl ⟨by kernel_rfl, fun w' hS' => by clear hS'; go_simp⟩) hS ?_
  refine wpAnyH_take (i := 2) (v := .pointer (some ⟨g1, 0, none⟩)) rfl (by kernel_rfl) (by kernel_rfl) (by kernel_rfl) (fun _ _ _ h => h) (Or.inl ⟨by kernel_rfl, fun w' hS' => by clear hS'; go_simp⟩) hS ?_
  refine wpAnyH_take (i := 3) (v := .int .i64 (n : Int)) rfl (by kernel_rfl) (by kernel_rfl) (by kernel_rfl) (fun _ _ _ h => h) (Or.inl ⟨by kernel_rfl, fun w' hS' => by obtain ⟨q2, q0, q1⟩ := hS'; go_simp⟩) hS ?_
  refine wpAnyH_take (i := 4) (v := .pointer (some ⟨g1, 0, none⟩)) rfl (by kernel_rfl) (by kernel_rfl) (by kernel_rfl) (fun _ _ _ h => h) (Or.inl ⟨by kernel_rfl, fun w' hS' => by obtain ⟨q2, q0, q1⟩ := hS'; go_simp⟩) hS ?_
  refine wpAnyH_take (i := 5) (v := .pointer (some ⟨g1, 0, none⟩)) rfl (by kernel_rfl) (by kernel_rfl) (by kernel_rfl) (fun _ _ _ h => h) (Or.inl ⟨by kernel_rfl, fun w' hS' => by clear hS'; go_simp⟩) hS ?_
  refine wpAnyH_take (i := 6) (v := .pointer (some ⟨g1, 1, none⟩)) rfl (by kernel_rfl) (by kernel_rfl) (by kernel_rfl) (fun _ _ _ h => h) (Or.inl ⟨by kernel_rfl, fun w' hS' => by clear hS'; go_simp⟩) hS ?_
  refine wpAnyH_take (i := 7) (v := .slice pp gs.length pcap) rfl (by kernel_rfl) (by kernel_rfl) (by kernel_rfl) (fun _ _ _ h => h) (Or.inl ⟨by kernel_rfl, fun w' hS' => by obtain ⟨q2, q0, q1⟩ := hS'; go_simp⟩) hS ?_
  refine wpAnyH_take (i := 8) (v := .func (.func 97) #[] #[.pointer (some ⟨w.heap.size + 1, 0, none⟩), .pointer (some ⟨w.heap.size, 0, none⟩)]) rfl (by kernel_rfl) (by kernel_rfl) (by kernel_rfl) (fun _ _ _ h => h) (Or.inl ⟨by kernel_rfl, fun w' hS' => by clear hS'; go_simp⟩) hS ?_
  have HBase : Hid (∀ (j c : Nat) (W : World), (turned bell n)[j]? = some c → Below X.drew.heap.size X.drew W → Calls Try.prog 97 #[.int .i64 (j : Int), .pointer (some ⟨w.heap.size + 1, 0, none⟩), .pointer (some ⟨w.heap.size, 0, none⟩)] W fun e w' => e = .returned (.int .i64 (c : Int)) ∧ Below W.heap.size W w') := fun j c W hj hW => by
    obtain ⟨hj1, rfl⟩ := turned_at hj
    have hs : X.drew.heap.size = w.heap.size + 2 := HSX.out
    exact still1_ok bell n j _ _ g1 W h1 h12 hb hj1 ((hW.cell (p := ⟨w.heap.size + 1, 0, none⟩) (by show w.heap.size + 1 < _; omega)).trans q3) ((hW.cell (p := ⟨w.heap.size, 0, none⟩) (by show w.heap.size < _; omega)).trans q2) ((hW.cell (p := ⟨g1, 0, none⟩) (by show g1 < _; omega)).trans q10)
  have HN := hide (newChainT_ok n w.heap.size (w.heap.size + 1) (turned bell n) (.slice pp gs.length pcap) gs X.drew h1 h12 (HP.out.below (below_dr HBX.out) (Nat.le_refl _)) (by omega) HFX.out (turned_len bell n) (fun b hb' => by have := (turned_mem hb).1 hb'; omega) (fun b _ => by rcases Nat.lt_or_ge b n with h | h; exact Or.inr ((turned_mem hb).2 h); exact Or.inl h) HBase.out)
  refine wpAnyH_ready (rs := [9]) (by kernel_rfl) (by simp) ?_
  refine AllReadyH.cons rfl (fun K hK => ?_) AllReadyH.nil
  go_simp
  refine HN.out.mono ?_
  rintro e w5 ⟨g5, C5, st5, rfl, hC5, hb5⟩
  have hb5' : Below X.heap.size X w5 := undrew hb5
  have hlt2 : w.heap.size < X.heap.size := by have := HSX.out; omega
  have r2 : w5.cell? ⟨w.heap.size, 0, none⟩ = some (.pointer (some ⟨g1, 0, none⟩)) := (hb5'.cell (p := ⟨w.heap.size, 0, none⟩) hlt2).trans q2
  have r10 : w5.cell? ⟨g1, 0, none⟩ = some (.int .i64 (n : Int)) := (hb5'.cell (p := ⟨g1, 0, none⟩) (by show g1 < _; omega)).trans q10
  have r11 : w5.cell? ⟨g1, 1, none⟩ = some (.slice pp gs.length pcap) := (hb5'.cell (p := ⟨g1, 1, none⟩) (by show g1 < _; omega)).trans q11
  refine hK.out _ _ ⟨r2, r10, r11⟩ (fun hS => ?_)
  clear hK
  refine wpAnyH_take (i := 10) (v := .slice (some ⟨g5, 0, none⟩) n n) rfl (by kernel_rfl) (by kernel_rfl) (by kernel_rfl) (fun _ _ _ h => h) (Or.inl ⟨by kernel_rfl, fun w' hS' => by clear hS'; go_simp⟩) hS ?_
  refine wpAnyH_done (by kernel_rfl) ?_ _
  have HB5 : Hid (Below w.heap.size w w5) := HBX.out.trans (hb5'.mono HBX.out.size)
  have hl := hC5.len
  obtain ⟨l0, c5, rfl⟩ : ∃ l0 c5, C5 = l0 :: c5 := by
    cases C5 with
    | nil => simp at hl; omega
    | cons a t => exact ⟨a, t, rfl⟩
  have hbase0 : l0.base = bell := by
    have h0 : (turned bell n)[0]? = some l0.base := by rw [← hC5.bases]; rfl
    rw [(turned_at h0).2, Nat.add_zero, Nat.mod_eq_of_lt hb]
  have hst : ∀ x, Prd c5 x ↔ Gen (fun y => y ∈ gs) x ∧ x.act bell = bell := fun x => by
    rw [stab_prd hC5.whole x, hC5.gen x, hbase0]
  by_cases hn1 : n = 1
  · subst hn1
    have e5 : c5 = [] := List.length_eq_zero_iff.1 (by simpa using hl)
    subst e5
    have HST : Hid (∀ x, Gen (fun y => y ∈ ([] : List Pm)) x ↔ Gen (fun y => y ∈ gs) x ∧ x.act bell = bell) := fun x => by
      rw [← hst x]
      exact ⟨fun h => gen_none h, fun h => by rw [show x = 1 from h]; exact Gen.one⟩
    clear hst hC5 hbase0 hl hb5 hb5'
    go_wp2_with fail
    refine (generate_ok 1 (.slice none 0 0) [] w5 h1 h12 (Or.inl ⟨rfl, none, 0, rfl⟩) (by simp) (fun x hx => by cases hx)).mono ?_
    rintro e w9 ⟨v9, rfl, hG9, hb9⟩
    have HG9 := hide hG9
    have HB9 : Hid (Below w.heap.size w w9) := HB5.out.trans (hb9.mono HB5.out.size)
    clear hG9 hb9
    go_wp2
    go_ret2
    exact ⟨_, [], rfl, HG9.out, HST.out, HB9.out⟩
  · obtain ⟨l1, c6, rfl⟩ : ∃ l1 c6, c5 = l1 :: c6 := by
      cases c5 with
      | nil => simp at hl; omega
      | cons a t => exact ⟨a, t, rfl⟩
    have HST : Hid (∀ x, Gen (fun y => y ∈ l1.gens) x ↔ Gen (fun y => y ∈ gs) x ∧ x.act bell = bell) := fun x => by
      rw [← hst x]
      exact (hC5.whole.2.1.2.2 x).symm
    have lk := hC5.chain.link 1 (rawOf l1) rfl
    have hc3 : w5.cell? ⟨g5, 7, none⟩ = some (st5 1).vg := lk.c3
    have hPk : Packs w5 (st5 1).vg l1.gens := packs_own lk.gens
    have hgb := gens_bound (hC5.nd l1 (by simp))
    have h1212 : (12 : Nat) ^ 12 = 8916100448256 := by decide
    have HGB : Hid (l1.gens.length ≤ 8916100448256) := by show _ ≤ _; omega
    have HFX2 : Hid (∀ s, s ∈ l1.gens → Fixes (fun b => n ≤ b) s) := fun s hs b hb' => prd_fix hC5.whole.2.1 ((hC5.whole.2.1.2.2 s).2 (Gen.of hs)) b (Or.inl hb')
    obtain ⟨pg, cg, eg⟩ := hPk.form
    rw [eg] at hc3 hPk
    have HPk := hide hPk
    have hn2 : (1 : Int) < (n : Int) := by omega
    clear hst hC5 hbase0 hl hb5 hb5' lk hPk hgb h1212 eg
    go_wp2_with fail
    refine (generate_ok n (.slice pg l1.gens.length cg) l1.gens w5 h1 h12 HPk.out HGB.out HFX2.out).mono ?_
    rintro e w9 ⟨v9, rfl, hG9, hb9⟩
    have HG9 := hide hG9
    have HB9 : Hid (Below w.heap.size w w9) := HB5.out.trans (hb9.mono HB5.out.size)
    clear hG9 hb9
    go_wp2
    go_ret2
    exact ⟨_, l1.gens, rfl, HG9.out, HST.out, HB9.out⟩
end Go.Proofs.Ytimfoggjocajiaa

/- Contract: a coset table's mark. -/
namespace Go.Proofs.Ytimfoggjocajiaa
open Go.RowKit

theorem crow_back (n : Nat) (x : Pm) (v : Value) (w : World) (h1 : 1 ≤ n) (h12 : n ≤ 12) (hf : Fixes (fun b => n ≤ b) x) (h : Ints w v (cut n x)) :
    Calls Try.prog 115 #[v] w fun e w' => ∃ u, e = .returned (.tuple #[u, .int .i64 0]) ∧ w'.ownsRow w.heap.size 3 1 u n ((cut n x⁻¹).map (Value.int .i64)) ∧ Below w.heap.size w w' := by
  have hcl := cut_length h12 x
  have hcr := cut_row h12 hf
  refine (back_own v (cut n x) w h hcr (by omega) (by omega)).mono ?_
  rintro e w' ⟨u, zs, rfl, ho, hu, hb⟩
  have hz : zs = cut n x⁻¹ := by
    have h3 := isRow_undoes hcr hu
    have hl : zs.length = n := by rw [hu.1, hcl]
    have h4 := pad_undoes (by omega) hcr hu
    rw [pad_cut h12 hf] at h4
    rw [← h4, cut_pad h12 hl h3]
  rw [hz, hcl] at ho
  exact ⟨u, rfl, ho, hb⟩

theorem crow_times (n : Nat) (x y : Pm) (v v2 : Value) (w : World) (h1 : 1 ≤ n) (h12 : n ≤ 12) (hx : Fixes (fun b => n ≤ b) x) (hy : Fixes (fun b => n ≤ b) y) (h : Ints w v (cut n x)) (h2 : Ints w v2 (cut n y)) :
    Calls Try.prog 113 #[v, v2] w fun e w' => ∃ u, e = .returned (.tuple #[u, .int .i64 0]) ∧ w'.ownsRow w.heap.size 3 1 u n ((cut n (x * y)).map (Value.int .i64)) ∧ Below w.heap.size w w' := by
  have hcl := cut_length h12 x
  have hcl2 := cut_length h12 y
  have hcr := cut_row h12 hx
  have hcr2 := cut_row h12 hy
  refine (times_own v v2 (cut n x) (cut n y) w h h2 hcr hcr2 (by omega) (by omega) (by omega)).mono ?_
  rintro e w' ⟨u, rfl, ho, hb⟩
  rw [by_cut h12 hx hcr2 hcl2, pad_cut h12 hy, hcl] at ho
  exact ⟨u, rfl, ho, hb⟩

theorem crow_rank (n : Nat) (x : Pm) (v : Value) (w : World) (h1 : 1 ≤ n) (h12 : n ≤ 12) (hf : Fixes (fun b => n ≤ b) x) (h : Ints w v (cut n x)) :
    Calls Try.prog 117 #[v] w fun e w' => e = .returned (.tuple #[.int .i64 ((rkP n x : Nat) : Int), .int .i64 0]) ∧ Below w.heap.size w w' := by
  have hcl := cut_length h12 x
  have := rank_ok v (cut n x) w h (cut_row h12 hf) (by omega) (by omega)
  rwa [hcl] at this

/-- Which bell has been chosen among the first j. -/
structure FromOk (fs : Int → Option Value) (y : Pm) (k j f : Nat) : Prop where
  is : f = k ∨ (fs (f : Int)).isSome = true
  own : y.act f ≤ y.act k
  least : ∀ b, b < j → (fs (b : Int)).isSome = true → y.act f ≤ y.act b

theorem FromOk.start (fs : Int → Option Value) (y : Pm) (k : Nat) : FromOk fs y k 0 k := ⟨Or.inl rfl, Nat.le_refl _, fun b hb => by omega⟩

theorem FromOk.take {fs : Int → Option Value} {y : Pm} {k j f : Nat} (h : FromOk fs y k j f) (hs : (fs (j : Int)).isSome = true) (hl : y.act j < y.act f) : FromOk fs y k (j + 1) j :=
  ⟨Or.inr hs, by have := h.own; omega, fun b hb hb' => by
    by_cases e : b = j
    · rw [e]; exact Nat.le_refl _
    · have := h.least b (by omega) hb'; omega⟩

theorem FromOk.pass {fs : Int → Option Value} {y : Pm} {k j f : Nat} (h : FromOk fs y k j f) (hl : (fs (j : Int)).isSome = false ∨ y.act f ≤ y.act j) : FromOk fs y k (j + 1) f :=
  ⟨h.is, h.own, fun b hb hb' => by
    by_cases e : b = j
    · subst e
      rcases hl with hl | hl
      · rw [hl] at hb'; cases hb'
      · exact hl
    · exact h.least b (by omega) hb'⟩

set_option maxRecDepth 20000 in
set_option maxHeartbeats 8000000 in
theorem mark_ok (n m0 b k0 T : Nat) (vb vr : Value) (H : Pm → Prop) (fs : Nat → Int → Option Value) (x : Pm) (w : World) (h1 : 1 ≤ n) (h12 : n ≤ 12) (hH : Sub H) (hHf : ∀ h, H h → Fixes (fun b => n ≤ b) h) (hB : BrAt w vb n m0 H b fs k0) (hT : T < w.heap.size) (hc1 : w.cell? ⟨T, 1, none⟩ = some vb) (hx : Fixes (fun b => n ≤ b) x) (hI : Ints w vr (cut n x)) :
    Calls Try.prog 78 #[.pointer (some ⟨T, 0, none⟩), vr] w fun e w' => e = .returned (.int .i64 ((mkN H n x : Nat) : Int)) ∧ Below w.heap.size w w' := by
  have HB := hide hB
  have HH := hide hH
  have HHF := hide hHf
  have HXF := hide hx
  have hvb := hB.val
  subst hvb
  have HBk := hide (crow_back n x vr w h1 h12 hx hI)
  have hbl := hB.lt
  clear hB hH hHf hI
  go_enter Try.func78, Try.ntmps78
  go_wp2_with fail
  refine HBk.out.mono ?_
  rintro ex w1 ⟨u1, rfl, hown1, hb1⟩
  have hc1' := (hb1.cell (p := ⟨T, 1, none⟩) hT).trans hc1
  have HMS := hide (MinTo.start HH.out x)
  have HFI := hide ((fixes_sub (fun b => n ≤ b)).inv hx)
  have HO1 := hide hown1
  have HB1 := hide hb1
  clear hown1 hb1 HBk hc1 hx
  go_wp2
  go_loopw [5, 25] (fun sl si wr => ∃ (k : Nat) (u : Value) (y : Pm), k ≤ n ∧ sl = u ∧ si = .int .i64 k ∧ Hid (MinTo H k x y) ∧ Hid (Fixes (fun b => n ≤ b) y) ∧ wr.ownsRow w.heap.size 3 1 u n ((cut n y).map (Value.int .i64)) ∧ Below w.heap.size w wr) (fun _ si _ => n - (intOf si).toNat)
  case atStart => exact ⟨0, _, _, Nat.zero_le _, rfl, rfl, HMS, HFI, HO1.out, HB1.out⟩
  case round =>
    clear HO1 HB1 HMS HFI
    obtain ⟨k, u, y, hk, rfl, rfl, hM, hyf, hown, hbw⟩ := hrel
    obtain ⟨ug, uc, eu, hu1, hu2, hu3, hu4⟩ := owns_form hown h1
    by_cases hkn : k < n
    · have hcm := (hbw.cell (p := ⟨b, k, none⟩) hbl).trans (HB.out.row k hkn)
      obtain ⟨wo, hwo⟩ : ∃ wo, wo = wr := ⟨_, rfl⟩
      subst hwo
      subst eu
      have HO := hide hown
      have HBW := hide hbw
      have HYC : Hid (∀ W, Below wo.heap.size wo W → ∀ j, j < n → W.cell? ⟨ug, j, none⟩ = some (.int .i64 ((y.act j : Nat) : Int))) := fun W hW j hj => by
        have h9 := (owns_cell hown hj).1
        rw [cut_get y h12 hj] at h9
        exact (hW.cell (p := ⟨ug, j, none⟩) hu2).trans h9
      have HMP : Hid (∀ W, Below wo.heap.size wo W → IMap W (m0 + k) k0 (fs k)) := fun W hW => ((HB.out.later hbw).later hW).maps k hkn
      clear hown hbw
      go_wp2
      go_loopw [9, 33] (fun sf sj wr => ∃ (j f : Nat), j ≤ n ∧ f < n ∧ sf = .int .i64 f ∧ sj = .int .i64 j ∧ Hid (FromOk (fs k) y k j f) ∧ Below wo.heap.size wo wr) (fun _ sj _ => n - (intOf sj).toNat)
      case atStart => exact ⟨0, k, Nat.zero_le _, hkn, rfl, rfl, FromOk.start (fs k) y k, Below.refl _ _⟩
      case round =>
        obtain ⟨j, f, hj, hfn, rfl, rfl, hF, hbi⟩ := hrel
        have hbs := hbi.size
        by_cases hjn : j < n
        · have hcj := HYC.out wr hbi j hjn
          have hcf := HYC.out wr hbi f hfn
          have hlk := (HMP.out wr hbi).look_ok Try.underlying145 (Try.zero23 wr) (a := (j : Int)) (by omega) (by omega)
          have hDN : Hid (∀ q, Below wo.heap.size wo (wr.drewN q)) := fun q => hbi.trans ((below_dN wr q).mono hbs)
          cases hs : (fs k (j : Int)).isSome with
          | false =>
            have HF2 := hide (hF.out.pass (Or.inl hs))
            have hv : (fs k (j : Int)).getD (.slice none 0 0) = .slice none 0 0 := by
              cases hq : fs k (j : Int) with
              | none => rfl
              | some q => rw [hq] at hs; cases hs
            rw [hs, hv] at hlk
            clear hs hF hv hbi
            go_wp2
            go_quiet (fail)
            go_wp2
            go_roundw
            case rel =>
              have hfin : ∃ (j' f' : Nat), j' ≤ n ∧ f' < n ∧ Value.int .i64 (f : Int) = .int .i64 (f' : Int) ∧ Value.int .i64 ((j : Int) + 1) = .int .i64 (j' : Int) ∧ Hid (FromOk (fs k) y k j' f') ∧ Below wo.heap.size wo (wr.drewN nq) := ⟨j + 1, f, hjn, hfn, rfl, by go_num, HF2, hDN.out _⟩
              first
                | exact hfin
                | ((repeat apply Exists.intro); exact ⟨hfin, rfl⟩)
            case measure => simp [intOf]; omega
          | true =>
            obtain ⟨q, hq⟩ : ∃ q, fs k (j : Int) = some q := Option.isSome_iff_exists.1 hs
            have hv : (fs k (j : Int)).getD (.slice none 0 0) = q := by rw [hq]; rfl
            rw [hs, hv] at hlk
            by_cases hl : y.act j < y.act f
            · have HF2 := hide (hF.out.take hs hl)
              have hd : decide (((y.act j : Nat) : Int) < ((y.act f : Nat) : Int)) = true := decide_eq_true (by omega)
              have hdI : ((y.act j : Nat) : Int) < ((y.act f : Nat) : Int) := by omega
              clear hs hF hv hbi hq hl
              generalize y.act j = aj at *
              generalize y.act f = af at *
              go_wp2
              go_quiet (fail)
              go_wp2
              go_roundw
              case rel =>
                have hfin : ∃ (j' f' : Nat), j' ≤ n ∧ f' < n ∧ Value.int .i64 (j : Int) = .int .i64 (f' : Int) ∧ Value.int .i64 ((j : Int) + 1) = .int .i64 (j' : Int) ∧ Hid (FromOk (fs k) y k j' f') ∧ Below wo.heap.size wo (wr.drewN nq) := ⟨j + 1, j, hjn, hjn, rfl, by go_num, HF2, hDN.out _⟩
                first
                  | exact hfin
                  | ((repeat apply Exists.intro); exact ⟨hfin, rfl⟩)
              case measure => simp [intOf]; omega
            · have HF2 := hide (hF.out.pass (Or.inr (by omega)))
              have hd : decide (((y.act j : Nat) : Int) < ((y.act f : Nat) : Int)) = false := decide_eq_false (by omega)
              have hdI : ¬ ((y.act j : Nat) : Int) < ((y.act f : Nat) : Int) := by omega
              clear hs hF hv hbi hq hl
              generalize y.act j = aj at *
              generalize y.act f = af at *
              go_wp2
              go_quiet (fail)
              go_wp2
              go_roundw
              case rel =>
                have hfin : ∃ (j' f' : Nat), j' ≤ n ∧ f' < n ∧ Value.int .i64 (f : Int) = .int .i64 (f' : Int) ∧ Value.int .i64 ((j : Int) + 1) = .int .i64 (j' : Int) ∧ Hid (FromOk (fs k) y k j' f') ∧ Below wo.heap.size wo (wr.drewN nq) := ⟨j + 1, f, hjn, hfn, rfl, by go_num, HF2, hDN.out _⟩
                first
                  | exact hfin
                  | ((repeat apply Exists.intro); exact ⟨hfin, rfl⟩)
              case measure => simp [intOf]; omega
        · obtain rfl : n = j := by omega
          have hB2 : Below w.heap.size w wr := HBW.out.trans (hbi.mono HBW.out.size)
          have HLST : Hid (∀ d, Low H k d → y.act f ≤ y.act (d.act k)) := fun d hd => by
            by_cases e : d.act k = k
            · rw [e]; exact hF.out.own
            · obtain ⟨q, hq⟩ := HB.out.full k hkn d hd e
              exact hF.out.least _ (fix_lt (HHF.out d hd.1) hkn) (by rw [hq]; rfl)
          by_cases hfk : f = k
          · have HM2 : Hid (MinTo H (k + 1) x y) := hM.out.stay (fun d hd => by have := HLST.out d hd; rw [hfk] at this; exact this)
            have HO2 := hide (owns_below HO.out hbi (Nat.le_refl _))
            have HB2 := hide hB2
            have hfkb : ((f : Int) != (k : Int)) = false := by rw [hfk]; simp
            have hfkI : (f : Int) = (k : Int) := by omega
            clear hfk hF hbi hB2 hfkI
            go_wp2
            go_roundw
            case rel =>
              have hfin : ∃ (k' : Nat) (u : Value) (y : Pm), k' ≤ n ∧ Value.slice (some ⟨ug, 0, none⟩) n uc = u ∧ Value.int .i64 ((k : Int) + 1) = .int .i64 (k' : Int) ∧ Hid (MinTo H k' x y) ∧ Hid (Fixes (fun b => n ≤ b) y) ∧ wr.ownsRow w.heap.size 3 1 u n ((cut n y).map (Value.int .i64)) ∧ Below w.heap.size w wr := ⟨k + 1, _, y, hkn, rfl, by go_num, HM2, hyf, HO2.out, HB2.out⟩
              first
                | exact hfin
                | ((repeat apply Exists.intro); exact ⟨hfin, rfl⟩)
            case measure => simp [intOf]; omega
          · have hsm : (fs k (f : Int)).isSome = true := hF.out.is.resolve_left hfk
            obtain ⟨q, hq⟩ : ∃ q, fs k (f : Int) = some q := Option.isSome_iff_exists.1 hsm
            obtain ⟨c, hc, hcf, hcn, hcI⟩ := HB.out.sound k hkn _ q hq
            have hcf' : f = c.act k := by omega
            have hlk := (HMP.out wr hbi).look Try.underlying145 (Try.zero23 wr) (a := (f : Int)) (by omega) (by omega)
            rw [hq] at hlk
            have hlk : (Instr.lookup 145 (.map (some (m0 + k))) (.int .i64 (f : Int)) false).run Try.prog wr = .ok q wr := hlk
            have HM2 : Hid (MinTo H (k + 1) x (y * c)) := hM.out.step HH.out hc (fun d hd => by rw [← hcf']; exact HLST.out d hd)
            have HF2 : Hid (Fixes (fun b => n ≤ b) (y * c)) := (fixes_sub _).mul hyf.out (HHF.out c hc.1)
            have HTm := hide (crow_times n y c (.slice (some ⟨ug, 0, none⟩) n uc) q wr h1 h12 hyf.out (HHF.out c hc.1) (Ints.own (owns_below HO.out hbi (Nat.le_refl _))) (hcI.below hB2))
            have HB2 := hide hB2
            have hfkb : ((f : Int) != (k : Int)) = true := by rw [bne_iff_ne]; omega
            have hfkI : ¬ (f : Int) = (k : Int) := by omega
            clear hsm hq hc hcf hcn hcI hcf' hF hfk hbi hB2 HLST
            go_wp2_with fail
            refine HTm.out.mono ?_
            rintro ex w9 ⟨u9, rfl, hown9, hb9⟩
            have HB9 := hide (HB2.out.trans (hb9.mono HB2.out.size))
            have HO9 := hide (owns_base hown9 HB2.out.size)
            clear hown9 hb9 HTm hlk
            go_wp2
            go_roundw
            case rel =>
              have hfin : ∃ (k' : Nat) (u : Value) (y : Pm), k' ≤ n ∧ u9 = u ∧ Value.int .i64 ((k : Int) + 1) = .int .i64 (k' : Int) ∧ Hid (MinTo H k' x y) ∧ Hid (Fixes (fun b => n ≤ b) y) ∧ w9.ownsRow w.heap.size 3 1 u n ((cut n y).map (Value.int .i64)) ∧ Below w.heap.size w w9 := ⟨k + 1, _, y * c, hkn, rfl, by go_num, HM2, HF2, HO9.out, HB9.out⟩
              first
                | exact hfin
                | ((repeat apply Exists.intro); exact ⟨hfin, rfl⟩)
            case measure => simp [intOf]; omega
    · obtain rfl : n = k := by omega
      subst eu
      have hrk : rkP n y = mkN H n x := mkN_of HH.out HHF.out hM.out.of
      have HRk := hide (crow_rank n y _ wr h1 h12 hyf.out (Ints.own hown))
      rw [hrk] at HRk
      have HB2 := hide hbw
      clear hrk hown hbw hM
      go_wp2_with fail
      refine HRk.out.mono ?_
      rintro ex w9 ⟨rfl, hb9⟩
      have HB9 := hide (HB2.out.trans (hb9.mono HB2.out.size))
      clear hb9
      go_wp2
      go_ret
      exact ⟨rfl, HB9.out⟩

end Go.Proofs.Ytimfoggjocajiaa

/- Contracts: extent.led over the rows of a group; slices.Sort, which writes one block alone. -/
namespace Go.Proofs.Ytimfoggjocajiaa
open Go.RowKit Go.Shelf Go.Lib Go.Sort

/-- Rows of a group, in order. -/
structure Rws (n : Nat) (G : Pm → Prop) (X : List Pm) : Prop where
  one : 1 ≤ n
  twelve : n ≤ 12
  sub : Sub G
  fix : ∀ x, G x → Fixes (fun b => n ≤ b) x
  nodup : X.Nodup
  mem : ∀ x, x ∈ X ↔ G x
  sorted : X.Pairwise (fun a b => 0 ≤ lcmp b.l a.l)
  few : X.length ≤ 1000

theorem Rws.pos {n : Nat} {G : Pm → Prop} {X : List Pm} (h : Rws n G X) : 1 ≤ X.length := List.length_pos_of_mem ((h.mem 1).2 h.sub.one)

theorem Rws.cls {n : Nat} {G : Pm → Prop} {X : List Pm} (h : Rws n G X) {c : Pm} (hc : G c) : Cls X c := fun p hp => (h.mem _).2 (h.sub.mul ((h.mem p).1 hp) hc)

theorem Rws.mono {n : Nat} {G : Pm → Prop} {X : List Pm} (h : Rws n G X) (a b : Nat) (hab : a < b) (hb : b < (X.map (cut n)).length) : lcmp ((X.map (cut n)).getD a []) ((X.map (cut n)).getD b []) < 0 := by
  have h1 := cut_rising h.twelve (fun x hx => h.fix x ((h.mem x).1 hx)) h.nodup h.sorted
  have h2 := List.pairwise_iff_getElem.1 h1 a b (by omega) hb hab
  rw [blw_lcmp] at h2
  rw [show (X.map (cut n)).getD a [] = (X.map (cut n))[a]'(by omega) from by rw [List.getD, List.getElem?_eq_getElem (by omega)]; rfl, show (X.map (cut n)).getD b [] = (X.map (cut n))[b] from by rw [List.getD, List.getElem?_eq_getElem hb]; rfl]
  exact of_decide_eq_true h2

theorem Rws.at {n : Nat} {X : List Pm} {i : Nat} {p : Pm} (h : X[i]? = some p) : (X.map (cut n)).getD i [] = cut n p := by rw [List.getD, List.getElem?_map, h]; rfl

set_option maxRecDepth 20000 in
set_option maxHeartbeats 4000000 in
theorem led_any (n : Nat) (G : Pm → Prop) (X : List Pm) (c : Pm) (v1 v2 : Value) (w : World) (hR : Rws n G X) (hc : G c) (hX : IntsAll w v1 (X.map (cut n))) (hI : Ints w v2 (cut n c)) :
    Calls Try.prog 121 #[v1, v2] w fun e w' => ∃ u, e = .returned u ∧ w'.ownsRow w.heap.size 3 1 u X.length ((mv X c).map (Value.int .i64)) ∧ Below w.heap.size w w' := by
  obtain ⟨i0, hi, hz0, hz1, hz2⟩ := info_parts Try.info3
  have h1 := hR.one
  have h12 := hR.twelve
  have hpos := hR.pos
  have hfew := hR.few
  obtain ⟨b, off, cap, hve, hbl, hc1, hc2, hcell⟩ := hX.cell (by rw [List.length_map]; exact hpos)
  rw [List.length_map] at hve hc1 hcell
  subst hve
  obtain ⟨cp, cc, ec⟩ := hI.form
  rw [cut_length h12] at ec
  subst ec
  have HX := hide hX
  have HI := hide hI
  have HCE := hide hcell
  have HR := hide hR
  have HC := hide hc
  clear hX hI hcell hR hc
  generalize hF : X.length = N at *
  have HF := hide hF
  clear hF
  go_enter Try.func121, Try.ntmps121
  go_wp2_with (at_make; refine wpList_make_full _ rfl _ _ 23 rfl w.heap.size 3 i0 (.int .i64 0) 1 Try.underlying23 hi hz0 hz1 _ _ _ _ N rfl rfl (by omega) (by omega) ?b2 ?b3 (Nat.le_refl _) ?_)
  case b2 => rw [hz2]; omega
  case b3 => unfold maxLen; omega
  intro w0 hown0 hgrow0
  rw [made_ints] at hown0
  have HO0 := hide hown0
  have hB0 : Below w.heap.size w w0 := (Below.refl _ _).grown hgrow0 (Nat.le_refl _) (fun k h => by cases h)
  clear hown0 hgrow0
  go_wp2
  go_loopw [15] (fun i wr => ∃ (k : Nat) (zs : List Int), k ≤ N ∧ i = .int .i64 k ∧ Hid (wr.ownsRow w.heap.size 3 1 (.slice (some ⟨w.heap.size, 0, none⟩) N N) N (zs.map (Value.int .i64))) ∧ Hid (zs.length = N ∧ ∀ j, j < k → zs.getD j 0 = (mv X c).getD j 0) ∧ Below w.heap.size w wr) (fun i _ => N - (intOf i).toNat)
  case atStart => exact ⟨0, _, by omega, rfl, HO0, ⟨by simp, fun j hj => absurd hj (by omega)⟩, hB0⟩
  case round =>
    clear HO0 hB0
    obtain ⟨k, zs, hk, rfl, hO, hZ, hbw⟩ := hrel
    have hbs := hbw.size
    by_cases hlt : k < N
    · obtain ⟨p, hp⟩ : ∃ p, X[k]? = some p := ⟨_, List.getElem?_eq_getElem (by rw [HF.out]; exact hlt)⟩
      obtain ⟨px, q, hcx, hix⟩ := HCE.out k hlt
      rw [Rws.at hp, cut_length h12] at hcx hix
      have gx : wr.cell? ⟨b, off + k, none⟩ = some (.slice px n q) := (hbw.cell (p := ⟨b, off + k, none⟩) (by exact hbl)).trans hcx
      have hpG := (HR.out.mem p).1 (List.mem_of_getElem? hp)
      have HT := hide (crow_times n p c (.slice px n q) (.slice cp n cc) wr h1 h12 (HR.out.fix p hpG) (HR.out.fix c HC.out) (hix.out.below hbw) (HI.out.below hbw))
      have hpc : p * c ∈ X := HR.out.cls HC.out p (List.mem_of_getElem? hp)
      have HPC := hide hpc
      have HMV : Hid ((mv X c).getD k 0 = ((ix X (p * c) : Nat) : Int)) := by show _ = _; rw [List.getD, mv_get hp]; rfl
      clear hcx hix hpG hp hpc
      go_wp2_with fail
      refine HT.out.mono ?_
      rintro e w1 ⟨tv, rfl, htv, hb1⟩
      have hB1 := hbw.trans (hb1.mono hbs)
      have hrl := ix_lt HPC.out
      have HB := hide (bsf_ok (.slice (some ⟨b, off, none⟩) N cap) tv (X.map (cut n)) (cut n (p * c)) (ix X (p * c)) n w1 (HX.out.below hB1) (Ints.own htv) (by rw [List.length_map]; exact hrl) (Rws.at (ix_get HPC.out)) (fun a ha => by
        have ha' : a < X.length := by rw [List.length_map] at ha; exact ha
        rw [Rws.at (List.getElem?_eq_getElem ha'), cut_length h12]) h1 (by rw [List.length_map, HF.out]; omega) (fun a b' hab hb' => HR.out.mono a b' hab hb'))
      have HO1 := hide (owns_below hO.out hb1 (Nat.le_refl _))
      obtain ⟨tp, tc, rfl⟩ := owns_slice htv
      rw [HF.out] at hrl
      have hS := HO1.out
      obtain ⟨y, hy, hcy, hfy⟩ := owns_cellAt hS hlt
      have hset := fun u => owns_set_int (m := k) hS u
      have HSet := hide hset
      generalize hrk : ix X (p * c) = r at *
      clear hb1 hbw hO HT htv hset hS hy hrk
      go_wp2_with fail
      refine HB.out.mono ?_
      rintro e w' ⟨rfl, rfl⟩
      have HZ : Hid ((zs.set k (r : Int)).length = N ∧ ∀ j, j < k + 1 → (zs.set k (r : Int)).getD j 0 = (mv X c).getD j 0) := by
        refine ⟨by rw [List.length_set]; exact hZ.out.1, fun j hj => ?_⟩
        rw [getD_set (by have := hZ.out.1; omega)]
        split
        · rename_i e; rw [← e, HMV.out]
        · exact hZ.out.2 j (by omega)
      clear hZ
      go_wp2
      go_roundw
      case rel => exact ⟨k + 1, _, by omega, by go_num, HSet.out _, HZ, hB1.setCell (Nat.le_refl _) _⟩
      case measure => simp [intOf]; omega
    · have HE : Hid (zs = mv X c) := by
        refine ext_getD (by rw [hZ.out.1, mv_length, HF.out]) (fun j hj => ?_)
        exact hZ.out.2 j (by have := hZ.out.1; omega)
      have HO : Hid (wr.ownsRow w.heap.size 3 1 (.slice (some ⟨w.heap.size, 0, none⟩) N N) N ((mv X c).map (Value.int .i64))) := by rw [← HE.out]; exact hO.out
      clear hO hZ HE
      go_wp2
      go_ret
      exact ⟨_, rfl, HO.out, hbw⟩

theorem sortI_in (base : Nat) (v : Value) (zs : List Int) (w : World) (ho : w.ownsRow base 3 1 v zs.length (zs.map (Value.int .i64))) (h1 : 1 ≤ zs.length) (h2 : zs.length ≤ 1000) :
    Calls Try.prog 122 #[v] w fun e w' => e = .returned (.tuple #[]) ∧ w'.ownsRow base 3 1 v zs.length ((zs.mergeSort (fun x y => decide (x ≤ y))).map (Value.int .i64)) ∧ w.grownBy w' v.ownBlock := by
  have hown := ho
  rcases ho.2 with ⟨_, h0⟩ | ⟨g, cap, cur, hu, hgb, hh, hc1, hc2, hcs, hct⟩
  · omega
  have hg := (Array.getElem?_eq_some_iff.1 hh).1
  subst hu
  have hH : Holds (Value.int .i64) w g 0 zs.toArray := by
    intro j hj
    have hj' : j < zs.length := by simpa using hj
    refine ⟨?_, by simp [World.frozen?, hh]⟩
    have h9 := hown.cells (g := g) rfl j (.int .i64 zs[j]) (by rw [List.getElem?_map, List.getElem?_eq_getElem hj']; rfl)
    rw [Addr.add_lit] at h9
    rw [h9, getElem!_pos zs.toArray j hj]
    simp
  have hcon : Calls Try.prog (rnO.f 189) #[.slice (some ⟨g, 0, none⟩) zs.length cap] w fun e w' => e = .returned (.tuple #[]) ∧ ∃ n os, w' = grow (putRow (Value.int .i64) (Sort.ahead w n) g 0 (zs.mergeSort fun x y => decide (x ≤ y)).toArray) os :=
    calls_of_every_depth fun D => AnyS.slices_Sort_int_in laysO D g 0 cap zs w hH hg (by omega)
  refine Calls.mono (show Calls Try.prog 122 _ _ _ from hcon) ?_
  rintro e w' ⟨rfl, n, os, rfl⟩
  have hml : (zs.mergeSort fun x y => decide (x ≤ y)).length = zs.length := List.length_mergeSort _
  generalize zs.mergeSort (fun x y => decide (x ≤ y)) = ms at *
  have hrow : (grow (putRow (Value.int .i64) (Sort.ahead w n) g 0 ms.toArray) os).heap[g]? = some (.cells (putCells (Value.int .i64) 0 ms.toArray cur) 3) := by
    unfold grow putRow mapBlock Sort.ahead
    simp only
    rw [Array.getElem?_append_left (by simpa using hg), Array.getElem?_modify, if_pos rfl, hh]
    rfl
  refine ⟨rfl, ⟨by rw [List.length_map, hml]; omega, Or.inr ⟨g, cap, putCells (Value.int .i64) 0 ms.toArray cur, rfl, hgb, hrow, hc1, hc2, ?_, ?_⟩⟩, ?_⟩
  · rw [← hcs]; simp [putCells]
  · have := puti_take ms.toArray cur (by simp; rw [hml, hcs]; omega)
    rw [Nat.mul_one, ← hml]
    simpa using this
  · refine ⟨rfl, rfl, rfl, ?_, fun b hb hne => ?_⟩
    · unfold grow putRow mapBlock Sort.ahead
      simp
    · unfold grow putRow mapBlock Sort.ahead
      simp only
      rw [Array.getElem?_append_left (by simp; omega), Array.getElem?_modify, if_neg (by intro e; exact hne (by rw [e]; rfl))]

end Go.Proofs.Ytimfoggjocajiaa

/- Lists of lists that grow beside each other, and a line that is written; where they lie. -/
namespace Go.Proofs.Ytimfoggjocajiaa
open Go.RowKit

/-- Two slices lie in blocks of their own. -/
def Apt (u v : Value) : Prop := ∀ g, u.ownBlock = some g → v.ownBlock ≠ some g

theorem Apt.symm {u v : Value} (h : Apt u v) : Apt v u := fun g h1 h2 => h g h2 h1

theorem apt_none (v : Value) : Apt (.slice none 0 0) v := fun g h => by cases h

theorem apt_new {w : World} {base e n : Nat} {u v : Value} {xs : List Value} (h : w.ownsRow base e 1 v n xs) (hu : ∀ g, u.ownBlock = some g → w.heap.size ≤ g) : Apt u v := fun g h1 h2 => by
  have := (h.lt g h2).2
  have := hu g h1
  omega

theorem LL.of_blocks {w w' : World} {B : Nat} {v : Value} {vs : List Value} {xss : List (List Int)} (h : LL w B v vs xss) (h1 : ∀ g, v.ownBlock = some g → w'.heap[g]? = w.heap[g]?) (h2 : ∀ u, u ∈ vs → ∀ g, u.ownBlock = some g → w'.heap[g]? = w.heap[g]?) : LL w' B v vs xss := by
  refine ⟨owns_of_block h.row h1, ?_⟩
  have := h.all
  clear h h1
  induction vs generalizing xss with
  | nil => cases xss with
    | nil => trivial
    | cons x xs => exact this.elim
  | cons u us ih => cases xss with
    | nil => exact this.elim
    | cons x xs => exact ⟨owns_of_block this.1 (h2 u List.mem_cons_self), ih (fun u hu => h2 u (List.mem_cons_of_mem _ hu)) this.2⟩

theorem LL.inner {w : World} {B : Nat} {v : Value} {vs : List Value} {xss : List (List Int)} (h : LL w B v vs xss) {u : Value} (hu : u ∈ vs) : ∃ (X : List Int), w.ownsRow B 3 1 u X.length (X.map (Value.int .i64)) := by
  have := h.all
  clear h
  induction vs generalizing xss with
  | nil => cases hu
  | cons y us ih => cases xss with
    | nil => exact this.elim
    | cons x xs =>
      rcases List.mem_cons.1 hu with e | e
      · rw [e]; exact ⟨x, this.1⟩
      · exact ih e this.2

/-- A block of one type is none of another. -/
theorem owns_ty {w : World} {base base' e e' n n' : Nat} {u v : Value} {xs ys : List Value} (h : w.ownsRow base e 1 u n xs) (h' : w.ownsRow base' e' 1 v n' ys) (hne : e ≠ e') : Apt u v := fun g h1 h2 => by
  obtain ⟨c1, k1⟩ := owns_obj h h1
  obtain ⟨c2, k2⟩ := owns_obj h' h2
  rw [k1] at k2
  injection k2 with k2
  injection k2 with _ k3
  exact hne k3

theorem LL.kept_by {w w' : World} {B : Nat} {v : Value} {vs : List Value} {xss : List (List Int)} (h : LL w B v vs xss) {g0 : Option Nat} (hg : w.grownBy w' g0) (h1 : ∀ g, v.ownBlock = some g → some g ≠ g0) (h2 : ∀ u, u ∈ vs → ∀ g, u.ownBlock = some g → some g ≠ g0) : LL w' B v vs xss :=
  h.of_blocks (fun g hb => hg.block g (h.row.lt g hb).2 (h1 g hb)) (fun u hu g hb => by
    obtain ⟨X, hX⟩ := h.inner hu
    exact hg.block g (hX.lt g hb).2 (h2 u hu g hb))

/-- A list that grows by one list. -/
theorem LL.grow {w w' : World} {B : Nat} {v v' u : Value} {vs : List Value} {xss : List (List Int)} {X : List Int} (h : LL w B v vs xss) (hu : w.ownsRow B 3 1 u X.length (X.map (Value.int .i64)))
    (hown : w'.ownsRow B 23 1 v' (vs.length + 1) (vs ++ [u])) (hg : w.grownBy w' v.ownBlock) : LL w' B v' (vs ++ [u]) (xss ++ [X]) :=
  ⟨by rw [List.length_append]; exact hown, OwnAll.snoc (owns_kept_ty hu h.row hg) (h.all.mono (fun _ _ _ h' => owns_kept_ty h' h.row hg))⟩

/-- Three lists of lists that grow beside each other. -/
structure Tri (B : Nat) (w : World) (v1 v2 v3 : Value) (s1 s2 s3 : List Value) (A1 A2 A3 : List (List Int)) : Prop where
  l1 : LL w B v1 s1 A1
  l2 : LL w B v2 s2 A2
  l3 : LL w B v3 s3 A3
  a12 : Apt v1 v2
  a13 : Apt v1 v3
  a23 : Apt v2 v3

section
variable {B : Nat} {w w' : World} {v1 v2 v3 v' u : Value} {s1 s2 s3 : List Value} {A1 A2 A3 : List (List Int)} {X : List Int}

theorem Tri.later (h : Tri B w v1 v2 v3 s1 s2 s3 A1 A2 A3) (hb : Below w.heap.size w w') : Tri B w' v1 v2 v3 s1 s2 s3 A1 A2 A3 :=
  ⟨h.l1.below hb, h.l2.below hb, h.l3.below hb, h.a12, h.a13, h.a23⟩

theorem Tri.set (h : Tri B w v1 v2 v3 s1 s2 s3 A1 A2 A3) {T j : Nat} (hT : T < B) (x : Value) : Tri B (w.setCell ⟨T, j, none⟩ x) v1 v2 v3 s1 s2 s3 A1 A2 A3 :=
  ⟨h.l1.set hT, h.l2.set hT, h.l3.set hT, h.a12, h.a13, h.a23⟩

theorem Tri.put (h : Tri B w v1 v2 v3 s1 s2 s3 A1 A2 A3) {m k : Nat} {f : Int → Option Value} (hm : IMap w m k f) (hg : w.grownBy w' (some m)) : Tri B w' v1 v2 v3 s1 s2 s3 A1 A2 A3 :=
  ⟨⟨owns_map_kept h.l1.row hm hg, h.l1.all.mono (fun _ _ _ h' => owns_map_kept h' hm hg)⟩, ⟨owns_map_kept h.l2.row hm hg, h.l2.all.mono (fun _ _ _ h' => owns_map_kept h' hm hg)⟩, ⟨owns_map_kept h.l3.row hm hg, h.l3.all.mono (fun _ _ _ h' => owns_map_kept h' hm hg)⟩, h.a12, h.a13, h.a23⟩

theorem LL.beside {v : Value} {vs : List Value} {xss : List (List Int)} (h : LL w B v vs xss) {y : Value} {ys : List Value} {yss : List (List Int)} (hy : LL w B y ys yss) (ha : Apt v y) (hg : w.grownBy w' y.ownBlock) : LL w' B v vs xss :=
  h.kept_by hg (fun g h1 e => ha g h1 e.symm) (fun u hu g h1 e => by
    obtain ⟨X, hX⟩ := h.inner hu
    exact owns_ty hX hy.row (by decide) g h1 e.symm)

theorem Tri.add1 (h : Tri B w v1 v2 v3 s1 s2 s3 A1 A2 A3) (hu : w.ownsRow B 3 1 u X.length (X.map (Value.int .i64))) (hown : w'.ownsRow B 23 1 v' (s1.length + 1) (s1 ++ [u])) (hg : w.grownBy w' v1.ownBlock)
    (hp : v'.ownBlock = v1.ownBlock ∨ (v'.ownBlock = some w.heap.size ∧ w.grownBy w' none)) : Tri B w' v' v2 v3 (s1 ++ [u]) s2 s3 (A1 ++ [X]) A2 A3 := by
  have key : ∀ (y : Value) (ys : List Value) (yss : List (List Int)), LL w B y ys yss → Apt v1 y → Apt v' y := fun y ys yss hy ha => by
    rcases hp with hp | ⟨hp, _⟩
    · exact fun g h1 => ha g (hp.symm.trans h1)
    · exact apt_new hy.row (fun g h1 => by rw [hp] at h1; have := Option.some.inj h1; omega)
  exact ⟨h.l1.grow hu hown hg, h.l2.beside h.l1 h.a12.symm hg, h.l3.beside h.l1 h.a13.symm hg, key _ _ _ h.l2 h.a12, key _ _ _ h.l3 h.a13, h.a23⟩

theorem Tri.turn (h : Tri B w v1 v2 v3 s1 s2 s3 A1 A2 A3) : Tri B w v2 v3 v1 s2 s3 s1 A2 A3 A1 := ⟨h.l2, h.l3, h.l1, h.a23, h.a12.symm, h.a13.symm⟩

theorem Tri.add2 (h : Tri B w v1 v2 v3 s1 s2 s3 A1 A2 A3) (hu : w.ownsRow B 3 1 u X.length (X.map (Value.int .i64))) (hown : w'.ownsRow B 23 1 v' (s2.length + 1) (s2 ++ [u])) (hg : w.grownBy w' v2.ownBlock)
    (hp : v'.ownBlock = v2.ownBlock ∨ (v'.ownBlock = some w.heap.size ∧ w.grownBy w' none)) : Tri B w' v1 v' v3 s1 (s2 ++ [u]) s3 A1 (A2 ++ [X]) A3 :=
  (h.turn.add1 hu hown hg hp).turn.turn

theorem Tri.add3 (h : Tri B w v1 v2 v3 s1 s2 s3 A1 A2 A3) (hu : w.ownsRow B 3 1 u X.length (X.map (Value.int .i64))) (hown : w'.ownsRow B 23 1 v' (s3.length + 1) (s3 ++ [u])) (hg : w.grownBy w' v3.ownBlock)
    (hp : v'.ownBlock = v3.ownBlock ∨ (v'.ownBlock = some w.heap.size ∧ w.grownBy w' none)) : Tri B w' v1 v2 v' s1 s2 (s3 ++ [u]) A1 A2 (A3 ++ [X]) :=
  (h.turn.turn.add1 hu hown hg hp).turn

/-- .. and a line that is written beside them. -/
structure Quad (B : Nat) (w : World) (v1 v2 v3 : Value) (s1 s2 s3 : List Value) (A1 A2 A3 : List (List Int)) (vl : Value) (L : List Int) : Prop where
  tri : Tri B w v1 v2 v3 s1 s2 s3 A1 A2 A3
  line : w.ownsRow B 3 1 vl L.length (L.map (Value.int .i64))
  apt : ∀ u, u ∈ s1 ++ s2 ++ s3 → Apt u vl

variable {vl : Value} {L : List Int}

theorem Quad.later (h : Quad B w v1 v2 v3 s1 s2 s3 A1 A2 A3 vl L) (hb : Below w.heap.size w w') : Quad B w' v1 v2 v3 s1 s2 s3 A1 A2 A3 vl L :=
  ⟨h.tri.later hb, owns_below h.line hb (Nat.le_refl _), h.apt⟩

theorem Quad.set (h : Quad B w v1 v2 v3 s1 s2 s3 A1 A2 A3 vl L) {T j : Nat} (hT : T < B) (x : Value) : Quad B (w.setCell ⟨T, j, none⟩ x) v1 v2 v3 s1 s2 s3 A1 A2 A3 vl L :=
  ⟨h.tri.set hT x, ownsRow_setCell_below h.line (by exact hT) _, h.apt⟩

theorem Quad.put (h : Quad B w v1 v2 v3 s1 s2 s3 A1 A2 A3 vl L) {m k : Nat} {f : Int → Option Value} (hm : IMap w m k f) (hg : w.grownBy w' (some m)) : Quad B w' v1 v2 v3 s1 s2 s3 A1 A2 A3 vl L :=
  ⟨h.tri.put hm hg, owns_map_kept h.line hm hg, h.apt⟩

theorem Quad.add1 (h : Quad B w v1 v2 v3 s1 s2 s3 A1 A2 A3 vl L) (hu : w.ownsRow B 3 1 u X.length (X.map (Value.int .i64))) (hua : Apt u vl) (hown : w'.ownsRow B 23 1 v' (s1.length + 1) (s1 ++ [u])) (hg : w.grownBy w' v1.ownBlock)
    (hp : v'.ownBlock = v1.ownBlock ∨ (v'.ownBlock = some w.heap.size ∧ w.grownBy w' none)) : Quad B w' v' v2 v3 (s1 ++ [u]) s2 s3 (A1 ++ [X]) A2 A3 vl L :=
  ⟨h.tri.add1 hu hown hg hp, owns_kept_ty h.line h.tri.l1.row hg, fun y hy => by
    rcases List.mem_append.1 hy with hy | hy
    · rcases List.mem_append.1 hy with hy | hy
      · rcases List.mem_append.1 hy with hy | hy
        · exact h.apt y (by simp [hy])
        · rw [List.mem_singleton.1 hy]; exact hua
      · exact h.apt y (by simp [hy])
    · exact h.apt y (by simp [hy])⟩

theorem Quad.add2 (h : Quad B w v1 v2 v3 s1 s2 s3 A1 A2 A3 vl L) (hu : w.ownsRow B 3 1 u X.length (X.map (Value.int .i64))) (hua : Apt u vl) (hown : w'.ownsRow B 23 1 v' (s2.length + 1) (s2 ++ [u])) (hg : w.grownBy w' v2.ownBlock)
    (hp : v'.ownBlock = v2.ownBlock ∨ (v'.ownBlock = some w.heap.size ∧ w.grownBy w' none)) : Quad B w' v1 v' v3 s1 (s2 ++ [u]) s3 A1 (A2 ++ [X]) A3 vl L :=
  ⟨h.tri.add2 hu hown hg hp, owns_kept_ty h.line h.tri.l2.row hg, fun y hy => by
    rcases List.mem_append.1 hy with hy | hy
    · rcases List.mem_append.1 hy with hy | hy
      · exact h.apt y (by simp [hy])
      · rcases List.mem_append.1 hy with hy | hy
        · exact h.apt y (by simp [hy])
        · rw [List.mem_singleton.1 hy]; exact hua
    · exact h.apt y (by simp [hy])⟩

/-- The line is in no other's way. -/
theorem LL.beside_line {v : Value} {vs : List Value} {xss : List (List Int)} (h : LL w B v vs xss) {n : Nat} {ys : List Value} (hl : w.ownsRow B 3 1 vl n ys) (ha : ∀ u, u ∈ vs → Apt u vl) (h1 : ∀ g, some g ≠ vl.ownBlock → g < w.heap.size → w'.heap[g]? = w.heap[g]?) : LL w' B v vs xss :=
  h.of_blocks (fun g hb => h1 g (fun e => owns_ty h.row hl (by decide) g hb e.symm) (h.row.lt g hb).2) (fun u hu g hb => by
    obtain ⟨X, hX⟩ := h.inner hu
    exact h1 g (fun e => ha u hu g hb e.symm) (hX.lt g hb).2)

theorem Tri.beside_line (h : Tri B w v1 v2 v3 s1 s2 s3 A1 A2 A3) {n : Nat} {ys : List Value} (hl : w.ownsRow B 3 1 vl n ys) (ha : ∀ u, u ∈ s1 ++ s2 ++ s3 → Apt u vl) (h1 : ∀ g, some g ≠ vl.ownBlock → g < w.heap.size → w'.heap[g]? = w.heap[g]?) : Tri B w' v1 v2 v3 s1 s2 s3 A1 A2 A3 :=
  ⟨h.l1.beside_line hl (fun u hu => ha u (by simp [hu])) h1, h.l2.beside_line hl (fun u hu => ha u (by simp [hu])) h1, h.l3.beside_line hl (fun u hu => ha u (by simp [hu])) h1, h.a12, h.a13, h.a23⟩

theorem Quad.push (h : Quad B w v1 v2 v3 s1 s2 s3 A1 A2 A3 vl L) {x : Int} (hown : w'.ownsRow B 3 1 v' (L.length + 1) ((L ++ [x]).map (Value.int .i64))) (hg : w.grownBy w' vl.ownBlock)
    (hp : v'.ownBlock = vl.ownBlock ∨ (v'.ownBlock = some w.heap.size ∧ w.grownBy w' none)) : Quad B w' v1 v2 v3 s1 s2 s3 A1 A2 A3 v' (L ++ [x]) := by
  refine ⟨h.tri.beside_line h.line h.apt (fun g h1 h2 => hg.block g h2 h1), by rw [List.length_append]; exact hown, fun u hu => ?_⟩
  rcases hp with hp | ⟨hp, _⟩
  · exact fun g h1 h2 => h.apt u hu g h1 (hp.symm.trans h2)
  · refine Apt.symm (fun g h1 h2 => ?_)
    rw [hp] at h1
    have e := Option.some.inj h1
    have hlt : g < w.heap.size := by
      rcases List.mem_append.1 hu with hu | hu
      · rcases List.mem_append.1 hu with hu | hu
        · obtain ⟨Y, hY⟩ := h.tri.l1.inner hu; exact (hY.lt g h2).2
        · obtain ⟨Y, hY⟩ := h.tri.l2.inner hu; exact (hY.lt g h2).2
      · obtain ⟨Y, hY⟩ := h.tri.l3.inner hu; exact (hY.lt g h2).2
    omega

theorem Quad.write {g n c : Nat} (h : Quad B w v1 v2 v3 s1 s2 s3 A1 A2 A3 (.slice (some ⟨g, 0, none⟩) n c) L) (hn : L.length = n) (m : Nat) (x : Int) : Quad B (w.setCell ⟨g, m, none⟩ (.int .i64 x)) v1 v2 v3 s1 s2 s3 A1 A2 A3 (.slice (some ⟨g, 0, none⟩) n c) (L.set m x) := by
  have hl := h.line
  rw [hn] at hl
  refine ⟨h.tri.beside_line hl h.apt (fun b h1 _ => Below.heap_setCell _ _ _ _ (fun e => h1 (by rw [e]; rfl))), ?_, h.apt⟩
  rw [List.length_set, hn]
  exact owns_set_int hl x

end

end Go.Proofs.Ytimfoggjocajiaa

/- Plain: which part a row is of, as a map by ranks says it. -/
namespace Go.Proofs.Ytimfoggjocajiaa
open Go.RowKit

theorem cix_app (H : Pm → Prop) (T : List (Pm × List Int)) (d : Pm × List Int) (x : Pm) : cix H (T ++ [d]) x = if cix H T x < T.length then cix H T x else (open Classical in if H (x * d.1⁻¹) then T.length else T.length + 1) := by
  classical
  unfold cix
  rw [List.findIdx_append]
  split
  · rfl
  · by_cases h : H (x * d.1⁻¹)
    · rw [List.findIdx_singleton, if_pos (decide_eq_true h), if_pos h]; omega
    · rw [List.findIdx_singleton, if_neg (by rw [decide_eq_true_iff]; exact h), if_neg h]; omega

theorem cix_nil (H : Pm → Prop) (x : Pm) : cix H [] x = 0 := by unfold cix; rw [List.findIdx_nil]

/-- The parts of rows, by ranks. -/
noncomputable def partV (H : Pm → Prop) (T : List (Pm × List Int)) (x : Pm) : Option Value := if cix H T x < T.length then some (.int .i64 ((cix H T x : Nat) : Int)) else none

def NumOk (H : Pm → Prop) (n : Nat) (T : List (Pm × List Int)) (F : Int → Option Value) : Prop := ∀ x, Fixes (fun b => n ≤ b) x → F ((rkP n x : Nat) : Int) = partV H T x

/-- .. while those of r's part are told. -/
def NumTo (H : Pm → Prop) (n : Nat) (T : List (Pm × List Int)) (r : Pm) (Hs : List Pm) (m : Nat) (F : Int → Option Value) : Prop :=
  ∀ x, Fixes (fun b => n ≤ b) x → (x * r⁻¹ ∈ Hs.take m → F ((rkP n x : Nat) : Int) = some (.int .i64 ((T.length : Nat) : Int))) ∧ (¬ x * r⁻¹ ∈ Hs.take m → F ((rkP n x : Nat) : Int) = partV H T x)

theorem NumTo.start {H : Pm → Prop} {n : Nat} {T : List (Pm × List Int)} {F : Int → Option Value} (h : NumOk H n T F) (r : Pm) (Hs : List Pm) : NumTo H n T r Hs 0 F :=
  fun x hx => ⟨fun hm => by simp at hm, fun _ => h x hx⟩

theorem NumTo.none (H : Pm → Prop) (n : Nat) (r : Pm) (Hs : List Pm) : NumTo H n [] r Hs 0 (fun _ => Option.none) :=
  fun x _ => ⟨fun hm => by simp at hm, fun _ => by unfold partV; rw [if_neg (by simp)]⟩

theorem NumTo.step {H : Pm → Prop} {n : Nat} {T : List (Pm × List Int)} {r c : Pm} {Hs : List Pm} {m : Nat} {F : Int → Option Value} (h : NumTo H n T r Hs m F) (h12 : n ≤ 12) (hr : Fixes (fun b => n ≤ b) r) (hcf : Fixes (fun b => n ≤ b) c) (hc : Hs[m]? = some c) :
    NumTo H n T r Hs (m + 1) (upd F ((rkP n (c * r) : Nat) : Int) (.int .i64 ((T.length : Nat) : Int))) := by
  intro x hx
  have hiff : x * r⁻¹ ∈ Hs.take (m + 1) ↔ x * r⁻¹ ∈ Hs.take m ∨ x = c * r := by
    rw [List.take_add_one, hc, List.mem_append]
    constructor
    · rintro (h1 | h1)
      · exact Or.inl h1
      · right
        have : x * r⁻¹ = c := by simpa using h1
        rw [← this, Pm.mul_assoc, Pm.inv_mul, Pm.mul_one]
    · rintro (h1 | h1)
      · exact Or.inl h1
      · right
        rw [h1, Pm.mul_assoc, Pm.mul_inv, Pm.mul_one]
        simp
  have hcr : Fixes (fun b => n ≤ b) (c * r) := (fixes_sub _).mul hcf hr
  unfold upd
  by_cases e : x = c * r
  · subst e
    exact ⟨fun _ => if_pos rfl, fun hn => absurd (hiff.2 (Or.inr rfl)) hn⟩
  · have hne : ¬ ((rkP n x : Nat) : Int) = ((rkP n (c * r) : Nat) : Int) := fun h9 => e (rkP_inj h12 hx hcr (by omega))
    rw [if_neg hne]
    exact ⟨fun hm => (h x hx).1 ((hiff.1 hm).resolve_right e), fun hn => (h x hx).2 (fun h9 => hn (hiff.2 (Or.inl h9)))⟩

theorem NumTo.done {H : Pm → Prop} (hH : Sub H) {n : Nat} {T : List (Pm × List Int)} {d : Pm × List Int} {Hs : List Pm} {F : Int → Option Value} (h : NumTo H n T d.1 Hs Hs.length F) (hHs : ∀ x, x ∈ Hs ↔ H x) (hn : ∀ e, e ∈ T → ¬ H (d.1 * e.1⁻¹)) : NumOk H n (T ++ [d]) F := by
  classical
  intro x hx
  have h1 := h x hx
  rw [List.take_length, hHs] at h1
  unfold partV
  rw [cix_app, List.length_append, List.length_singleton]
  by_cases hm : H (x * d.1⁻¹)
  · rw [h1.1 hm]
    have hx' : ¬ cix H T x < T.length := fun hc => by
      obtain ⟨e, he, hHe⟩ := cix_at hc
      refine hn e (List.mem_of_getElem? he) ?_
      have := hH.mul (hH.inv hm) hHe
      rwa [Pm.inv_prod, Pm.inv_inv, Pm.mul_assoc, Pm.inv_mul_cancel] at this
    rw [if_neg hx', if_pos hm, if_pos (by omega)]
  · rw [h1.2 hm]
    unfold partV
    by_cases hc : cix H T x < T.length
    · rw [if_pos hc, if_pos hc, if_pos (by omega)]
    · rw [if_neg hc, if_neg hc, if_neg hm, if_neg (by omega)]

theorem partV_some {H : Pm → Prop} {T : List (Pm × List Int)} {x : Pm} (h : cix H T x < T.length) : partV H T x = some (.int .i64 ((cix H T x : Nat) : Int)) := if_pos h
theorem partV_none {H : Pm → Prop} {T : List (Pm × List Int)} {x : Pm} (h : ¬ cix H T x < T.length) : partV H T x = none := if_neg h

/-- One letter: known, new. -/
theorem tryC_old {H : Pm → Prop} {L : List (Int × Pm)} {e : Pm × List Int} {T0 T : List (Pm × List Int)} {j : Nat} {ln : List Nat} {l : Int × Pm} (h : (T, ln) = tryCs H L e T0 j) (hl : L[j]? = some l) (hc : cix H T (e.1 * l.2) < T.length) : (T, ln ++ [cix H T (e.1 * l.2)]) = tryCs H L e T0 (j + 1) := by
  rw [tryCs_succ hl, ← h]
  unfold tryC
  simp only [if_pos hc]

theorem tryC_new {H : Pm → Prop} {L : List (Int × Pm)} {e : Pm × List Int} {T0 T : List (Pm × List Int)} {j : Nat} {ln : List Nat} {l : Int × Pm} (h : (T, ln) = tryCs H L e T0 j) (hl : L[j]? = some l) (hc : ¬ cix H T (e.1 * l.2) < T.length) : (T ++ [(e.1 * l.2, e.2 ++ [l.1])], ln ++ [T.length]) = tryCs H L e T0 (j + 1) := by
  have hce : cix H T (e.1 * l.2) = T.length := by have := cix_le H T (e.1 * l.2); omega
  rw [tryCs_succ hl, ← h]
  unfold tryC
  simp only [if_neg hc]
  rw [hce]

end Go.Proofs.Ytimfoggjocajiaa

/- Contracts: By, Undo, Rank of the answer over rows; what the answer's Parts has laid so far. -/
namespace Go.Proofs.Ytimfoggjocajiaa
open Go.RowKit

theorem rcut_by (n : Nat) (x y : Pm) (v v2 : Value) (w : World) (h1 : 1 ≤ n) (h12 : n ≤ 12) (hx : Fixes (fun b => n ≤ b) x) (hy : Fixes (fun b => n ≤ b) y) (h : Ints w v (cut n x)) (h2 : Ints w v2 (cut n y)) :
    Calls Try.prog 35 #[v, v2] w fun e w' => ∃ u, e = .returned u ∧ w'.ownsRow w.heap.size 3 1 u n ((cut n (x * y)).map (Value.int .i64)) ∧ Below w.heap.size w w' := by
  have hcl := cut_length h12 x
  have hcl2 := cut_length h12 y
  have hcr2 := cut_row h12 hy
  refine (rby_own v v2 (cut n x) (cut n y) w h h2 (fun j hj => by have := hcr2.at hj; rw [hcl2] at this; rw [hcl]; exact this) (by omega) (by omega)).mono ?_
  rintro e w' ⟨u, rfl, ho, hb⟩
  rw [by_cut h12 hx hcr2 hcl2, pad_cut h12 hy, hcl2] at ho
  exact ⟨u, rfl, ho, hb⟩

theorem rcut_undo (n : Nat) (x : Pm) (v : Value) (w : World) (h1 : 1 ≤ n) (h12 : n ≤ 12) (hf : Fixes (fun b => n ≤ b) x) (h : Ints w v (cut n x)) :
    Calls Try.prog 36 #[v] w fun e w' => ∃ u, e = .returned u ∧ w'.ownsRow w.heap.size 3 1 u n ((cut n x⁻¹).map (Value.int .i64)) ∧ Below w.heap.size w w' := by
  have hcl := cut_length h12 x
  have hcr := cut_row h12 hf
  refine (undo_own v (cut n x) w h hcr (by omega) (by omega)).mono ?_
  rintro e w' ⟨u, zs, rfl, ho, hu, hb⟩
  have hz : zs = cut n x⁻¹ := by
    have h3 := isRow_undoes hcr hu
    have hl : zs.length = n := by rw [hu.1, hcl]
    have h4 := pad_undoes (by omega) hcr hu
    rw [pad_cut h12 hf] at h4
    rw [← h4, cut_pad h12 hl h3]
  rw [hz, hcl] at ho
  exact ⟨u, rfl, ho, hb⟩

theorem rcut_rank (n : Nat) (x : Pm) (v : Value) (w : World) (h1 : 1 ≤ n) (h12 : n ≤ 12) (hf : Fixes (fun b => n ≤ b) x) (h : Ints w v (cut n x)) :
    Calls Try.prog 75 #[v] w fun e w' => e = .returned (.int .i64 ((rkP n x : Nat) : Int)) ∧ Below w.heap.size w w' := by
  have hcl := cut_length h12 x
  have := rrank_ok v (cut n x) w h (cut_row h12 hf) (by omega) (by omega)
  rwa [hcl] at this

/-- What the answer's Parts has laid so far. -/
structure PRel (w wr : World) (M : Nat) (v1 v2 v3 : Value) (s1 s2 s3 : List Value) (A1 A2 A3 : List (List Int)) (vl : Value) (L : List Int) (F : Int → Option Value) (cnt : Nat) : Prop where
  quad : Quad w.heap.size wr v1 v2 v3 s1 s2 s3 A1 A2 A3 vl L
  map : IMap wr M cnt F
  mge : w.heap.size ≤ M
  below : Below w.heap.size w wr

section
variable {w wr w' : World} {M cnt : Nat} {v1 v2 v3 v' u vl : Value} {s1 s2 s3 : List Value} {A1 A2 A3 : List (List Int)} {L X : List Int} {F F' : Int → Option Value}

theorem PRel.later (h : PRel w wr M v1 v2 v3 s1 s2 s3 A1 A2 A3 vl L F cnt) (hb : Below wr.heap.size wr w') : PRel w w' M v1 v2 v3 s1 s2 s3 A1 A2 A3 vl L F cnt :=
  ⟨h.quad.later hb, h.map.below hb h.map.lt, h.mge, h.below.trans (hb.mono h.below.size)⟩

theorem PRel.alloc (h : PRel w wr M v1 v2 v3 s1 s2 s3 A1 A2 A3 vl L F cnt) (o : Obj) : PRel w (wr.alloc o) M v1 v2 v3 s1 s2 s3 A1 A2 A3 vl L F cnt :=
  h.later ((Below.refl _ _).alloc (Nat.le_refl _) o)

theorem PRel.put (h : PRel w wr M v1 v2 v3 s1 s2 s3 A1 A2 A3 vl L F cnt) (hm : IMap w' M (cnt + 1) F') (hg : wr.grownBy w' (some M)) : PRel w w' M v1 v2 v3 s1 s2 s3 A1 A2 A3 vl L F' (cnt + 1) :=
  ⟨h.quad.put h.map hg, hm, h.mge, h.below.grown hg h.below.size (fun k hk => by injection hk with hk; rw [← hk]; exact h.mge)⟩

theorem PRel.add1 (h : PRel w wr M v1 v2 v3 s1 s2 s3 A1 A2 A3 vl L F cnt) (hu : wr.ownsRow w.heap.size 3 1 u X.length (X.map (Value.int .i64))) (hua : Apt u vl) (hown : w'.ownsRow w.heap.size 23 1 v' (s1.length + 1) (s1 ++ [u])) (hg : wr.grownBy w' v1.ownBlock)
    (hp : v'.ownBlock = v1.ownBlock ∨ (v'.ownBlock = some wr.heap.size ∧ wr.grownBy w' none)) : PRel w w' M v' v2 v3 (s1 ++ [u]) s2 s3 (A1 ++ [X]) A2 A3 vl L F cnt :=
  ⟨h.quad.add1 hu hua hown hg hp, map_row_kept h.quad.tri.l1.row h.map hg, h.mge, h.below.grown hg h.below.size (fun g hg' => (h.quad.tri.l1.row.lt g hg').1)⟩

theorem PRel.add2 (h : PRel w wr M v1 v2 v3 s1 s2 s3 A1 A2 A3 vl L F cnt) (hu : wr.ownsRow w.heap.size 3 1 u X.length (X.map (Value.int .i64))) (hua : Apt u vl) (hown : w'.ownsRow w.heap.size 23 1 v' (s2.length + 1) (s2 ++ [u])) (hg : wr.grownBy w' v2.ownBlock)
    (hp : v'.ownBlock = v2.ownBlock ∨ (v'.ownBlock = some wr.heap.size ∧ wr.grownBy w' none)) : PRel w w' M v1 v' v3 s1 (s2 ++ [u]) s3 A1 (A2 ++ [X]) A3 vl L F cnt :=
  ⟨h.quad.add2 hu hua hown hg hp, map_row_kept h.quad.tri.l2.row h.map hg, h.mge, h.below.grown hg h.below.size (fun g hg' => (h.quad.tri.l2.row.lt g hg').1)⟩

theorem PRel.push (h : PRel w wr M v1 v2 v3 s1 s2 s3 A1 A2 A3 vl L F cnt) {x : Int} (hown : w'.ownsRow w.heap.size 3 1 v' (L.length + 1) ((L ++ [x]).map (Value.int .i64))) (hg : wr.grownBy w' vl.ownBlock)
    (hp : v'.ownBlock = vl.ownBlock ∨ (v'.ownBlock = some wr.heap.size ∧ wr.grownBy w' none)) : PRel w w' M v1 v2 v3 s1 s2 s3 A1 A2 A3 v' (L ++ [x]) F cnt :=
  ⟨h.quad.push hown hg hp, map_row_kept h.quad.line h.map hg, h.mge, h.below.grown hg h.below.size (fun g hg' => (h.quad.line.lt g hg').1)⟩

theorem Quad.bare {B : Nat} (h : Tri B wr v1 v2 v3 s1 s2 s3 A1 A2 A3) : Quad B wr v1 v2 v3 s1 s2 s3 A1 A2 A3 (.slice none 0 0) [] :=
  ⟨h, World.ownsRow_nil _ _ _ _, fun u _ g _ h2 => by cases h2⟩

theorem PRel.fin (h : PRel w wr M v1 v2 v3 s1 s2 s3 A1 A2 A3 vl L F cnt) (hown : w'.ownsRow w.heap.size 23 1 v' (s3.length + 1) (s3 ++ [vl])) (hg : wr.grownBy w' v3.ownBlock)
    (hp : v'.ownBlock = v3.ownBlock ∨ (v'.ownBlock = some wr.heap.size ∧ wr.grownBy w' none)) : PRel w w' M v1 v2 v' s1 s2 (s3 ++ [vl]) A1 A2 (A3 ++ [L]) (.slice none 0 0) [] F cnt :=
  ⟨Quad.bare (h.quad.tri.add3 h.quad.line hown hg hp), map_row_kept h.quad.tri.l3.row h.map hg, h.mge, h.below.grown hg h.below.size (fun g hg' => (h.quad.tri.l3.row.lt g hg').1)⟩

theorem PRel.lists {B1 B2 B3 : List (List Int)} {L' : List Int} (h : PRel w wr M v1 v2 v3 s1 s2 s3 A1 A2 A3 vl L F cnt) (e1 : A1 = B1) (e2 : A2 = B2) (e3 : A3 = B3) (e4 : L = L') : PRel w wr M v1 v2 v3 s1 s2 s3 B1 B2 B3 vl L' F cnt := by
  subst e1; subst e2; subst e3; subst e4; exact h

end

/-- The first of all: rounds, and no word. -/
theorem PRel.start {w w1 : World} {n : Nat} {v0 : Value} (hown : w1.ownsRow w.heap.size 3 1 v0 n ((rnd n).map (Value.int .i64))) (h12 : n ≤ 12) (hb : Below w.heap.size w w1) :
    PRel w (((w1.alloc (.cells #[v0] 23)).alloc (.cells #[.slice none 0 0] 23)).alloc (.map #[] 0)) (w1.heap.size + 1 + 1) (.slice (some ⟨w1.heap.size, 0, none⟩) 1 1) (.slice (some ⟨w1.heap.size + 1, 0, none⟩) 1 1) (.slice none 0 0) [v0] [.slice none 0 0] [] [cut n 1] [[]] [] (.slice none 0 0) [] (fun _ => none) 0 := by
  have hs := hb.size
  have hcut : cut n 1 = rnd n := by
    have := cut_pad h12 (rnd_length n) (isRow_rnd n)
    rwa [pad_rnd h12] at this
  have e1 : (w1.alloc (.cells #[v0] 23)).heap.size = w1.heap.size + 1 := by simp
  have e2 : ((w1.alloc (.cells #[v0] 23)).alloc (.cells #[.slice none 0 0] 23)).heap.size = w1.heap.size + 1 + 1 := by simp
  have hB1 : Below w.heap.size w (w1.alloc (.cells #[v0] 23)) := hb.alloc hs _
  have hB2 := hB1.alloc (by rw [e1]; omega) (.cells #[.slice none 0 0] 23)
  have hB3 := hB2.alloc (by rw [e2]; omega) (.map #[] 0)
  have hL1 : LL (w1.alloc (.cells #[v0] 23)) w.heap.size (.slice (some ⟨w1.heap.size, 0, none⟩) 1 1) [v0] [cut n 1] := LL.one (by rw [hcut, rnd_length]; exact hown) hs
  have hL2 : LL ((w1.alloc (.cells #[v0] 23)).alloc (.cells #[.slice none 0 0] 23)) w.heap.size (.slice (some ⟨w1.heap.size + 1, 0, none⟩) 1 1) [.slice none 0 0] [[]] := by
    have := LL.one (w := w1.alloc (.cells #[v0] 23)) (base := w.heap.size) (u := .slice none 0 0) (X := []) (World.ownsRow_nil _ _ _ _) (by rw [e1]; omega)
    rwa [e1] at this
  have al : ∀ (W : World) (o : Obj), Below W.heap.size W (W.alloc o) := fun W o => (Below.refl _ _).alloc (Nat.le_refl _) o
  refine ⟨Quad.bare ⟨(hL1.below (al _ _)).below (al _ _), hL2.below (al _ _), LL.nil _ _, ?_, (apt_none _).symm, (apt_none _).symm⟩, ?_, by omega, hB3⟩
  · intro g h1 h2
    have h1' : some w1.heap.size = some g := h1
    have h2' : some (w1.heap.size + 1) = some g := h2
    have := Option.some.inj h1'
    have := Option.some.inj h2'
    omega
  · have := IMap.made ((w1.alloc (.cells #[v0] 23)).alloc (.cells #[.slice none 0 0] 23))
    rwa [e2] at this

end Go.Proofs.Ytimfoggjocajiaa
