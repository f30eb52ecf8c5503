/- Joined: BoI, Rns, LoR, BoJ, BoK, BoL, BoM, BoN. -/
import Derived.Test.YtffnfchekbafmaaGreatDoorJ1
import Derived.Test.YtffnfchekbafmaaGreatDoorJ2
import Derived.Lib.DecodeN
import Derived.Lib.SplitLaws
import Derived.Lib.AtoiAll
import Derived.Shelf.Strings.Split
import Derived.Shelf.Strings.Cut
import Derived.Shelf.Strconv.AtoiAll
import Derived.Shelf.Bytes.SlIndexAt
import Derived.Shelf.Slices.Clone
/- Contracts: slices.Index, Contains of texts; book.may. -/
namespace Go.Proofs.YtffnfchekbafmaaGreatDoor
open Go.RowKit
set_option maxRecDepth 100000
set_option linter.unusedVariables false

theorem beqs_iff (s t : ByteArray) : (s.toList == t.toList) = decide (s = t) := by
  rw [ByteArray.toList_eq, ByteArray.toList_eq]
  by_cases h : s = t
  · rw [h]; simp
  · rw [decide_eq_false h, beq_eq_false_iff_ne]
    intro e
    apply h
    cases s; cases t
    congr 1
    exact Array.ext' e

/-- Texts' cells at a block. -/
def StC9 (w : World) (g o : Nat) (xs : List ByteArray) : Prop := ∀ j x, xs[j]? = some x → w.cell? ⟨g, o + j, none⟩ = some (.string x)

set_option maxHeartbeats 2000000 in
theorem indexS_ok (g o cap : Nat) (xs : List ByteArray) (x : ByteArray) (w : World) (hc : StC9 w g o xs) (hcap : xs.length ≤ cap) (hcm : cap ≤ 9223372036854775807) :
    Calls Tryz.prog 68 #[.slice (some ⟨g, o, none⟩) xs.length cap, .string x] w fun e w' => (∃ k : Int, e = .returned (.int .i64 k) ∧ (0 ≤ k ↔ x ∈ xs)) ∧ w = w' := by
  have HC : Hid (∀ k, k < xs.length → ∃ y, xs[k]? = some y ∧ w.cell? ⟨g, o + k, none⟩ = some (.string y)) := fun k hk => ⟨_, List.getElem?_eq_getElem hk, hc k _ (List.getElem?_eq_getElem hk)⟩
  have HT : Hid (xs.take xs.length = xs) := List.take_length
  generalize hL : xs.length = L at *
  clear hc hL
  go_enter Tryz.func68, Tryz.ntmps68
  go_wp2
  go_loop [8] (fun i => ∃ k : Nat, k ≤ L ∧ i = .int .i64 (k : Int) ∧ Hid (x ∉ xs.take k)) (fun i => L - (intOf i).toNat)
  case atStart => exact ⟨0, Nat.zero_le _, rfl, by show x ∉ xs.take 0; rw [List.take_zero]; exact List.not_mem_nil⟩
  case round =>
    obtain ⟨k, hk, rfl, hn⟩ := hrel
    by_cases hlt : k < L
    · obtain ⟨y, hy, hcy⟩ := HC.out k hlt
      by_cases hxy : x = y
      · have HF : Hid (0 ≤ (k : Int) ↔ x ∈ xs) := ⟨fun _ => by rw [hxy]; exact List.mem_of_getElem? hy, fun _ => by omega⟩
        have q1 : (x.toList == y.toList) = true := by rw [beqs_iff]; exact decide_eq_true hxy
        clear hxy hy hn
        go_wp2
        go_ret
        exact ⟨⟨_, rfl, HF.out⟩, rfl⟩
      · have HN : Hid (x ∉ xs.take (k + 1)) := by
          show x ∉ xs.take (k + 1)
          rw [List.take_add_one, hy, List.mem_append]
          intro h
          rcases h with h | h
          · exact hn.out h
          · simp at h; exact hxy h
        have q1 : (x.toList == y.toList) = false := by rw [beqs_iff]; exact decide_eq_false hxy
        clear hxy hy hn
        go_wp2
        go_round
        case rel => exact ⟨k + 1, hlt, by go_num, HN⟩
        case measure => simp [intOf]; omega
    · obtain rfl : L = k := by omega
      have HF : Hid (0 ≤ (-1 : Int) ↔ x ∈ xs) := ⟨fun h => absurd h (by decide), fun h => absurd h (by have h5 := hn.out; rwa [HT.out] at h5)⟩
      clear hn
      go_wp2
      go_ret
      exact ⟨⟨_, rfl, HF.out⟩, rfl⟩

set_option maxHeartbeats 2000000 in
theorem containsS_ok (g o cap : Nat) (xs : List ByteArray) (x : ByteArray) (w : World) (hc : StC9 w g o xs) (hcap : xs.length ≤ cap) (hcm : cap ≤ 9223372036854775807) :
    Calls Tryz.prog 51 #[.slice (some ⟨g, o, none⟩) xs.length cap, .string x] w fun e w' => (∃ b : Bool, e = .returned (.bool b) ∧ (b = true ↔ x ∈ xs)) ∧ w = w' := by
  have HI := hide (indexS_ok g o cap xs x w hc hcap hcm)
  generalize xs.length = L at *
  clear hc
  go_enter Tryz.func51, Tryz.ntmps51
  go_wp2_with fail
  refine HI.out.mono ?_
  rintro e w' ⟨⟨k, rfl, hk⟩, rfl⟩
  have HB : Hid (decide (0 ≤ k) = true ↔ x ∈ xs) := ⟨fun h => hk.1 (of_decide_eq_true h), fun h => decide_eq_true (hk.2 h)⟩
  clear hk
  go_wp2
  go_ret
  exact ⟨⟨_, rfl, HB.out⟩, rfl⟩

/-- A record that may be. -/
structure MayR (d c : Int) (m : ByteArray) (ring : List ByteArray) : Prop where
  d0 : 0 ≤ d
  d1 : d ≤ 1000000
  c1 : 1 ≤ c
  c2 : c ≤ 1000000
  name : nm m = true
  some : 1 ≤ ring.length
  few : ring.length ≤ 12
  names : ∀ x, x ∈ ring → nm x = true
  apart : ring.Nodup

theorem nodup_snoc {l : List ByteArray} {x : ByteArray} (h : l.Nodup) (hx : x ∉ l) : (l ++ [x]).Nodup := by
  rw [List.nodup_append]
  refine ⟨h, by simp, fun a ha b hb e => ?_⟩
  simp at hb
  exact hx (by rw [← hb, ← e]; exact ha)

theorem not_nodup {l : List ByteArray} {k : Nat} {x : ByteArray} (hk : l[k]? = some x) (hm : x ∈ l.take k) : ¬ l.Nodup := by
  intro h
  have e : l = l.take k ++ l.drop k := (List.take_append_drop k l).symm
  rw [e, List.nodup_append] at h
  have hd : x ∈ l.drop k := by
    apply List.mem_of_getElem? (i := 0)
    rw [List.getElem?_drop, Nat.add_zero]; exact hk
  exact h.2.2 x hm x hd rfl

set_option maxHeartbeats 8000000 in
theorem may_ok (d c : Int) (m : ByteArray) (v : Value) (ring : List ByteArray) (w : World) (hv : RgAt w v ring) (hm : m.size ≤ 1000000) (hr : ∀ x, x ∈ ring → x.size ≤ 1000000) (h1 : 1 ≤ ring.length) :
    Calls Tryz.prog 35 #[.agg #[.int .i64 d, .int .i64 c, .string m, v]] w fun e w' => (∃ k : Int, e = .returned (.int .i64 k) ∧ (k = 0 ↔ MayR d c m ring)) ∧ Below w.heap.size w w' := by
  obtain ⟨g, o, cap, ev, hg, hc1, hc2, hcell⟩ := hv.mem
  subst ev
  obtain ⟨W, hW⟩ : ∃ W, W = w.alloc (.cells #[.int .i64 d, .int .i64 c, .string m, .slice (some ⟨g, o, none⟩) ring.length cap] 44) := ⟨_, rfl⟩
  have hbW : Below w.heap.size w W := by rw [hW]; exact (Below.refl _ _).alloc (Nat.le_refl _) _
  have hh : W.heap[w.heap.size]? = some (.cells #[.int .i64 d, .int .i64 c, .string m, .slice (some ⟨g, o, none⟩) ring.length cap] 44) := by rw [hW]; exact heap_alloc_new w _
  have hsW : w.heap.size < W.heap.size := (Array.getElem?_eq_some_iff.1 hh).1
  have HV : Hid (∀ V, Below W.heap.size W V → V.cell? ⟨w.heap.size, 3, none⟩ = some (.slice (some ⟨g, o, none⟩) ring.length cap) ∧ StC9 V g o ring ∧ Below w.heap.size w V) := fun V hV =>
    ⟨(hV.cell (p := ⟨w.heap.size, 3, none⟩) hsW).trans (by simp [World.cell?, hh]), fun k x hk => (hV.cell (p := ⟨g, o + k, none⟩) (show g < W.heap.size by omega)).trans ((hbW.cell (p := ⟨g, o + k, none⟩) hg).trans (hcell k x hk)), hbW.trans (hV.mono hbW.size)⟩
  have HNm : Hid (∀ V, Calls Tryz.prog 50 #[.string m] V fun e w' => e = .returned (.bool (nm m)) ∧ Below V.heap.size V w') := fun V => name_any m V (by omega)
  have HW := hide hW
  clear hh hcell hv
  by_cases hdc : 0 ≤ d ∧ d ≤ 1000000 ∧ 1 ≤ c ∧ c ≤ 1000000
  · obtain ⟨b1, b2, b3, b4⟩ := hdc
    have a1 : ¬ d < 0 := by omega
    have a2 : ¬ 1000000 < d := by omega
    have a3 : ¬ c < 1 := by omega
    have a4 : ¬ 1000000 < c := by omega
    by_cases hn : nm m = true
    · rw [hn] at HNm
      by_cases hl : ring.length ≤ 12
      · have HX : Hid (∀ k, k < ring.length → ∃ x, ring[k]? = some x ∧ x.size ≤ 1000000) := fun k hk => ⟨_, List.getElem?_eq_getElem hk, hr _ (List.getElem_mem hk)⟩
        have HOk : Hid ((∀ x, x ∈ ring.take ring.length → nm x = true) ∧ (ring.take ring.length).Nodup → MayR d c m ring) := fun h => by rw [List.take_length] at h; exact ⟨b1, b2, b3, b4, hn, h1, hl, h.1, h.2⟩
        have HTl : Hid (∀ k, k ≤ ring.length → (ring.take k).length = k) := fun k hk => by rw [List.length_take]; omega
        have HMR : Hid (MayR d c m ring → (∀ x, x ∈ ring → nm x = true) ∧ ring.Nodup) := fun h => ⟨h.names, h.apart⟩
        generalize hPM : MayR d c m ring = PM at *
        generalize hL : ring.length = L at *
        have c1 : ¬ ((L : Int) < 1) := by omega
        have c2 : ¬ ((12 : Int) < (L : Int)) := by omega
        have HBW := hide hbW
        clear hr hPM hL hW hbW hn
        go_enter Tryz.func35, Tryz.ntmps35
        go_wp2_with fail
        refine (HNm.out _).mono ?_
        rintro e W1 ⟨rfl, hb⟩
        have HB1 : Hid (Below W.heap.size W W1) := by show Below _ _ _; rw [HW.out]; exact hb
        clear hb HNm HW
        obtain ⟨q3, hst, hbel⟩ := HV.out W1 HB1.out
        clear hst hbel
        go_wp2
        go_loopw [40] (fun i wr => ∃ k : Nat, k ≤ L ∧ i = .int .i64 (k : Int) ∧ Hid (Below W.heap.size W wr) ∧ Hid ((∀ x, x ∈ ring.take k → nm x = true) ∧ (ring.take k).Nodup)) (fun i _ => L - (intOf i).toNat)
        case atStart => exact ⟨0, Nat.zero_le _, rfl, HB1, by show _ ∧ _; rw [List.take_zero]; exact ⟨fun x hx => absurd hx List.not_mem_nil, List.nodup_nil⟩⟩
        case round =>
          obtain ⟨k, hk, rfl, HBr, hA⟩ := hrel
          obtain ⟨r3, hst, hbel⟩ := HV.out wr HBr.out
          by_cases hlt : k < L
          · obtain ⟨x, hxe, hxs⟩ := HX.out k hlt
            have p1 := hst k x hxe
            have HNx : Hid (∀ V, Calls Tryz.prog 50 #[.string x] V fun e w' => e = .returned (.bool (nm x)) ∧ Below V.heap.size V w') := fun V => name_any x V (by omega)
            have HCt : Hid (∀ V, Below W.heap.size W V → Calls Tryz.prog 51 #[.slice (some ⟨g, o, none⟩) k cap, .string x] V fun e w' => (∃ b : Bool, e = .returned (.bool b) ∧ (b = true ↔ x ∈ ring.take k)) ∧ V = w') := fun V hV => by
              have h5 := containsS_ok g o cap (ring.take k) x V (fun j y hj => (HV.out V hV).2.1 j y (by rw [List.getElem?_take] at hj; split at hj; exact hj; cases hj)) (by rw [HTl.out k hk]; omega) hc2
              rw [HTl.out k hk] at h5
              exact h5
            have HXm : Hid (x ∈ ring) := List.mem_of_getElem? hxe
            have HXn : Hid (x ∈ ring.take k → ¬ ring.Nodup) := fun h => not_nodup hxe h
            have HTs : Hid (ring.take (k + 1) = ring.take k ++ [x]) := by show _ = _; rw [List.take_add_one, hxe]; rfl
            have HA := hide hA.out
            have hkc : k ≤ cap := by omega
            clear hst hbel hxe hxs hA
            by_cases hnx : nm x = true
            · rw [hnx] at HNx
              have HNX := hide hnx
              by_cases hmx : x ∈ ring.take k
              · have HF : Hid ((8 : Int) = 0 ↔ PM) := ⟨fun h => absurd h (by decide), fun h => absurd (HMR.out h).2 (HXn.out hmx)⟩
                have HM := hide hmx
                clear hmx hnx HXn HXm HTs HOk HMR HX
                go_wp2_with fail
                refine (HNx.out _).mono ?_
                rintro e W2 ⟨rfl, hb⟩
                have HB2 := hide (HBr.out.trans (hb.mono HBr.out.size))
                clear hb HNx r3 p1
                obtain ⟨s3, hst, hbel⟩ := HV.out W2 HB2.out
                clear hst hbel
                go_wp2_with fail
                refine (HCt.out W2 HB2.out).mono ?_
                rintro e W3 ⟨⟨b, rfl, hb⟩, rfl⟩
                obtain rfl : b = true := hb.2 HM.out
                clear hb
                have HFB := hide (HV.out W2 HB2.out).2.2
                go_wp2
                go_ret
                exact ⟨⟨_, rfl, HF.out⟩, HFB.out⟩
              · have HM := hide hmx
                have HN : Hid ((∀ x, x ∈ ring.take (k + 1) → nm x = true) ∧ (ring.take (k + 1)).Nodup) := by
                  show _ ∧ _
                  rw [HTs.out]
                  refine ⟨fun y hy => ?_, nodup_snoc HA.out.2 hmx⟩
                  rcases List.mem_append.1 hy with h | h
                  · exact HA.out.1 y h
                  · simp at h; rw [h]; exact HNX.out
                clear hmx hnx HXn HXm HTs
                go_wp2_with fail
                refine (HNx.out _).mono ?_
                rintro e W2 ⟨rfl, hb⟩
                have HB2 := hide (HBr.out.trans (hb.mono HBr.out.size))
                clear hb HNx r3 p1
                obtain ⟨s3, hst, hbel⟩ := HV.out W2 HB2.out
                clear hst hbel
                go_wp2_with fail
                refine (HCt.out W2 HB2.out).mono ?_
                rintro e W3 ⟨⟨b, rfl, hb⟩, rfl⟩
                obtain rfl : b = false := by
                  cases b with
                  | false => rfl
                  | true => exact absurd (hb.1 rfl) HM.out
                clear hb
                go_wp2
                go_roundw
                case rel => exact ⟨k + 1, hlt, by go_num, HB2, HN⟩
                case measure => simp [intOf]; omega
            · have hnf : nm x = false := by simpa using hnx
              rw [hnf] at HNx
              have HF : Hid ((7 : Int) = 0 ↔ PM) := ⟨fun h => absurd h (by decide), fun h => absurd ((HMR.out h).1 x HXm.out) hnx⟩
              clear hnx hnf HXn HXm HTs HOk HMR HX
              go_wp2_with fail
              refine (HNx.out _).mono ?_
              rintro e W2 ⟨rfl, hb⟩
              have HB2 := hide (HBr.out.trans (hb.mono HBr.out.size))
              have HFB := hide (HV.out W2 HB2.out).2.2
              clear hb HNx r3 p1
              go_wp2
              go_ret
              exact ⟨⟨_, rfl, HF.out⟩, HFB.out⟩
          · obtain rfl : k = L := by omega
            have HF : Hid PM := HOk.out hA.out
            have HFB := hide hbel
            clear hst hbel hA
            go_wp2
            go_ret
            exact ⟨⟨_, rfl, ⟨fun _ => HF.out, fun _ => rfl⟩⟩, HFB.out⟩
      · have HF : Hid ((1 : Int) = 0 ↔ MayR d c m ring) := ⟨fun h => absurd h (by decide), fun h => absurd h.few hl⟩
        generalize hPM : MayR d c m ring = PM at *
        generalize ring.length = L at *
        have c1 : ¬ ((L : Int) < 1) := by omega
        have c2 : ((12 : Int) < (L : Int)) := by omega
        clear hr hPM hW hbW hn hl
        go_enter Tryz.func35, Tryz.ntmps35
        go_wp2_with fail
        refine (HNm.out _).mono ?_
        rintro e W1 ⟨rfl, hb⟩
        have HB1 : Hid (Below W.heap.size W W1) := by show Below _ _ _; rw [HW.out]; exact hb
        clear hb HNm HW
        obtain ⟨q3, hst, hbel⟩ := HV.out W1 HB1.out
        have HFB := hide hbel
        clear hst hbel
        go_wp2
        go_ret
        exact ⟨⟨_, rfl, HF.out⟩, HFB.out⟩
    · have hnf : nm m = false := by simpa using hn
      rw [hnf] at HNm
      have HF : Hid ((7 : Int) = 0 ↔ MayR d c m ring) := ⟨fun h => absurd h (by decide), fun h => absurd h.name hn⟩
      generalize hPM : MayR d c m ring = PM at *
      generalize ring.length = L at *
      clear hr hPM hW hbW hn hnf
      go_enter Tryz.func35, Tryz.ntmps35
      go_wp2_with fail
      refine (HNm.out _).mono ?_
      rintro e W1 ⟨rfl, hb⟩
      have HB1 : Hid (Below W.heap.size W W1) := by show Below _ _ _; rw [HW.out]; exact hb
      clear hb HNm HW
      have HFB := hide (HV.out W1 HB1.out).2.2
      go_wp2
      go_ret
      exact ⟨⟨_, rfl, HF.out⟩, HFB.out⟩
  · have HF : Hid ((12 : Int) = 0 ↔ MayR d c m ring) := ⟨fun h => absurd h (by decide), fun h => absurd ⟨h.d0, h.d1, h.c1, h.c2⟩ hdc⟩
    have HB : Hid (Below w.heap.size w (w.alloc (.cells #[.int .i64 d, .int .i64 c, .string m, .slice (some ⟨g, o, none⟩) ring.length cap] 44))) := by rw [hW] at hbW; exact hbW
    generalize hPM : MayR d c m ring = PM at *
    generalize ring.length = L at *
    clear hbW hr hW HW HV HNm hPM
    by_cases a1 : d < 0
    · go_enter Tryz.func35, Tryz.ntmps35
      go_wp2
      go_ret
      exact ⟨⟨_, rfl, HF.out⟩, HB.out⟩
    · by_cases a2 : 1000000 < d
      · go_enter Tryz.func35, Tryz.ntmps35
        go_wp2
        go_ret
        exact ⟨⟨_, rfl, HF.out⟩, HB.out⟩
      · by_cases a3 : c < 1
        · go_enter Tryz.func35, Tryz.ntmps35
          go_wp2
          go_ret
          exact ⟨⟨_, rfl, HF.out⟩, HB.out⟩
        · have a4 : 1000000 < c := by omega
          go_enter Tryz.func35, Tryz.ntmps35
          go_wp2
          go_ret
          exact ⟨⟨_, rfl, HF.out⟩, HB.out⟩

end Go.Proofs.YtffnfchekbafmaaGreatDoor

/- Plain: the runes of a text as the answer reads them: -1 for a byte that is none. -/
namespace Go.Proofs.YtffnfchekbafmaaGreatDoor
open Go.RowKit Go.Lib

theorem get_piece (s : ByteArray) (p k : Nat) : (s.extract p s.size).get! k = s.get! (p + k) := by
  cases s with
  | mk d =>
    show ((ByteArray.mk d).extract p d.size).data[k]! = d[p + k]!
    rw [ByteArray.data_extract]
    by_cases h : p + k < d.size
    · rw [getElem!_pos d (p + k) h, getElem!_pos _ k (by simp; omega), Array.getElem_extract]
    · rw [getElem!_neg d (p + k) h, getElem!_neg _ k (by simp; omega)]

theorem decode_piece (s : ByteArray) (p : Nat) : Utf8.decode (s.extract p s.size) 0 = Utf8.decode s p := by
  rw [decode_at, decode_at]
  simp only [get_piece, ByteArray.size_extract, Nat.add_zero, Nat.zero_add, Nat.sub_zero, Nat.min_self]

theorem piece_piece (s : ByteArray) (p k : Nat) : (s.extract p s.size).extract k (s.extract p s.size).size = s.extract (p + k) s.size := by
  apply ByteArray.ext
  simp only [ByteArray.data_extract, ByteArray.size_extract, Nat.min_self]
  rw [Array.extract_extract]
  congr 1
  omega

/-- A rune as the answer tells it. -/
def ar (d : Nat × Nat) : Int := if d = (65533, 1) then -1 else (d.1 : Int)

theorem ar_bad {d : Nat × Nat} (h : d = (65533, 1)) : ar d = -1 := if_pos h
theorem ar_ok {d : Nat × Nat} {c k : Nat} (h : d = (c, k)) (hk : c ≠ 65533 ∨ k ≠ 1) : ar d = c := by
  subst h; unfold ar; rw [if_neg]; intro e; simp only [Prod.mk.injEq] at e; omega

set_option maxRecDepth 100000 in
set_option maxHeartbeats 4000000 in
theorem dec_lone (n b0 b1 b2 b3 : Nat) (h : (128 ≤ b0 ∧ b0 < 194) ∨ (245 ≤ b0 ∧ b0 < 256)) : decodeN n b0 b1 b2 b3 = (65533, 1) := by
  unfold decodeN
  repeat' split
  all_goals first | rfl | (exfalso; omega)

set_option maxRecDepth 100000 in
set_option maxHeartbeats 4000000 in
theorem dec_two (n b0 b1 b2 b3 : Nat) (h : 194 ≤ b0 ∧ b0 < 224) (h1 : b1 < 256) :
    decodeN n b0 b1 b2 b3 = if n < 2 ∨ (b1 < 128 ∨ 192 ≤ b1) then (65533, 1) else ((b0 - 192) * 64 + (b1 - 128), 2) := by
  unfold decodeN
  repeat' split
  all_goals first | rfl | (exfalso; omega) | (apply Prod.ext <;> simp only <;> omega)

set_option maxRecDepth 100000 in
set_option maxHeartbeats 8000000 in
theorem dec_three (n b0 b1 b2 b3 : Nat) (h : 224 ≤ b0 ∧ b0 < 240) (h1 : b1 < 256) (h2 : b2 < 256) (c : Nat) (hc : 128 ≤ b1 → 128 ≤ b2 → c = (b0 - 224) * 4096 + (b1 - 128) * 64 + (b2 - 128)) :
    decodeN n b0 b1 b2 b3 = if n < 3 ∨ (b1 < 128 ∨ 192 ≤ b1) ∨ (b2 < 128 ∨ 192 ≤ b2) ∨ (c < 2048 ∨ 1114111 < c ∨ (55296 ≤ c ∧ c < 57344)) then (65533, 1) else (c, 3) := by
  unfold decodeN
  repeat' split
  all_goals first | rfl | (exfalso; omega) | (apply Prod.ext <;> simp only <;> omega)

set_option maxRecDepth 100000 in
set_option maxHeartbeats 8000000 in
theorem dec_four (n b0 b1 b2 b3 : Nat) (h : 240 ≤ b0 ∧ b0 < 245) (h1 : b1 < 256) (h2 : b2 < 256) (h3 : b3 < 256) (c : Nat) (hc : 128 ≤ b1 → 128 ≤ b2 → 128 ≤ b3 → c = (b0 - 240) * 262144 + (b1 - 128) * 4096 + (b2 - 128) * 64 + (b3 - 128)) :
    decodeN n b0 b1 b2 b3 = if n < 4 ∨ (b1 < 128 ∨ 192 ≤ b1) ∨ (b2 < 128 ∨ 192 ≤ b2) ∨ (b3 < 128 ∨ 192 ≤ b3) ∨ (c < 65536 ∨ 1114111 < c ∨ (55296 ≤ c ∧ c < 57344)) then (65533, 1) else (c, 4) := by
  unfold decodeN
  repeat' split
  all_goals first | rfl | (exfalso; omega) | (apply Prod.ext <;> simp only <;> omega)

set_option maxRecDepth 100000 in
set_option maxHeartbeats 4000000 in
theorem dec_width (n b0 b1 b2 b3 : Nat) (hn : 1 ≤ n) : (decodeN n b0 b1 b2 b3).2 ≤ n ∧ 1 ≤ (decodeN n b0 b1 b2 b3).2 := by
  unfold decodeN
  repeat' split
  all_goals (simp only; omega)

theorem decode_width (s : ByteArray) (p : Nat) (h : p < s.size) : p + (Utf8.decode s p).2 ≤ s.size ∧ 1 ≤ (Utf8.decode s p).2 := by
  rw [decode_at]
  have := dec_width (s.size - p) (s.get! p).toNat (s.get! (p + 1)).toNat (s.get! (p + 2)).toNat (s.get! (p + 3)).toNat (by omega)
  omega

def arns (s : ByteArray) : Nat → Nat → List Int
  | 0, _ => []
  | f + 1, pos => if pos < s.size then ar (Utf8.decode s pos) :: arns s f (pos + (Utf8.decode s pos).2) else []

def arunes (s : ByteArray) : List Int := arns s s.size 0

theorem arns_length (s : ByteArray) : ∀ f pos, (arns s f pos).length = (rns s f pos).length
  | 0, _ => rfl
  | f + 1, pos => by
    have ih := arns_length s f (pos + (Utf8.decode s pos).2)
    unfold arns rns
    split
    · simp only [List.length_cons]; omega
    · rfl

theorem arunes_length (s : ByteArray) : (arunes s).length = (runesOf s).length := arns_length s _ _

/-- Rune by rune: the same, or -1 where the program has 65533. -/
theorem arns_at (s : ByteArray) : ∀ f pos j, j < (rns s f pos).length → (arns s f pos).getD j 0 = (((rns s f pos).getD j 0 : Nat) : Int) ∨ ((arns s f pos).getD j 0 = -1 ∧ (rns s f pos).getD j 0 = 65533)
  | 0, _, j, h => by simp [rns] at h
  | f + 1, pos, j, h => by
    unfold arns rns at *
    by_cases hp : pos < s.size
    · rw [if_pos hp] at h
      rw [if_pos hp, if_pos hp]
      match j with
      | 0 =>
        show ar (Utf8.decode s pos) = _ ∨ (ar (Utf8.decode s pos) = -1 ∧ (Utf8.decode s pos).1 = 65533)
        by_cases e : Utf8.decode s pos = (65533, 1)
        · exact Or.inr ⟨ar_bad e, by rw [e]⟩
        · exact Or.inl (by unfold ar; rw [if_neg e]; rfl)
      | j + 1 =>
        have := arns_at s f (pos + (Utf8.decode s pos).2) j (by simpa using h)
        simpa only [List.getD_cons_succ] using this
    · rw [if_neg hp] at h; simp at h

theorem arunes_at (s : ByteArray) (j : Nat) (h : j < (runesOf s).length) : (arunes s).getD j 0 = (((runesOf s).getD j 0 : Nat) : Int) ∨ ((arunes s).getD j 0 = -1 ∧ (runesOf s).getD j 0 = 65533) := arns_at s _ _ j h

/-- Runes up to a place, and the rest. -/
def ARunesTo (s : ByteArray) (pre : List Int) (pos : Nat) : Prop := ∃ f, s.size - pos ≤ f ∧ arunes s = pre ++ arns s f pos

theorem arunesTo_start (s : ByteArray) : ARunesTo s [] 0 := ⟨s.size, by omega, rfl⟩

theorem ARunesTo.next {s : ByteArray} {pre : List Int} {pos : Nat} (h : ARunesTo s pre pos) (hp : pos < s.size) : ARunesTo s (pre ++ [ar (Utf8.decode s pos)]) (pos + (Utf8.decode s pos).2) := by
  obtain ⟨f, hf, e⟩ := h
  have hw := (decode_width s pos hp).2
  match f, hf, e with
  | 0, hf, _ => omega
  | f + 1, hf, e =>
    refine ⟨f, by omega, ?_⟩
    rw [e, arns, if_pos hp, List.append_assoc, List.singleton_append]

theorem ARunesTo.done {s : ByteArray} {pre : List Int} {pos : Nat} (h : ARunesTo s pre pos) (hp : ¬ pos < s.size) : arunes s = pre := by
  obtain ⟨f, hf, e⟩ := h
  rw [e]
  cases f with
  | zero => simp [arns]
  | succ f => rw [arns, if_neg hp, List.append_nil]

theorem ARunesTo.len {s : ByteArray} {pre : List Int} {pos : Nat} (h : ARunesTo s pre pos) : pre.length ≤ s.size := by
  obtain ⟨f, hf, e⟩ := h
  have h1 := arunes_length s
  have h2 := runesOf_length s
  rw [e, List.length_append] at h1
  omega

end Go.Proofs.YtffnfchekbafmaaGreatDoor

/- Plain: low bytes of a text are runes of it; how long a name can be. -/
namespace Go.Proofs.YtffnfchekbafmaaGreatDoor
open Go.RowKit Go.Lib
set_option maxRecDepth 20000
set_option linter.unusedVariables false

theorem bt_get2 (s : ByteArray) {k : Nat} (h : k < s.size) : bt s k = (s.get! k).toNat := by
  rw [← bt_get h]
  cases s with
  | mk d => show (d[k]'h).toNat = (d[k]!).toNat; rw [getElem!_pos d k h]

set_option maxHeartbeats 8000000 in
theorem dec_cont (n b0 b1 b2 b3 : Nat) (hn : 1 ≤ n) (h0 : b0 < 256) : ((decodeN n b0 b1 b2 b3).2 = 1 ∧ (b0 < 128 → (decodeN n b0 b1 b2 b3).1 = b0)) ∨ ((decodeN n b0 b1 b2 b3).2 = 2 ∧ 128 ≤ b0 ∧ 128 ≤ b1) ∨ ((decodeN n b0 b1 b2 b3).2 = 3 ∧ 128 ≤ b0 ∧ 128 ≤ b1 ∧ 128 ≤ b2) ∨ ((decodeN n b0 b1 b2 b3).2 = 4 ∧ 128 ≤ b0 ∧ 128 ≤ b1 ∧ 128 ≤ b2 ∧ 128 ≤ b3) := by
  unfold decodeN
  repeat' split
  all_goals (first | (simp; done) | (simp; omega) | (dsimp only; omega))

/-- A low byte is a rune of its text. -/
theorem low_rune (s : ByteArray) : ∀ f pos, s.size - pos ≤ f → ∀ k, pos ≤ k → k < s.size → bt s k < 128 → bt s k ∈ rns s f pos
  | 0, pos, h, k, h1, h2, _ => by omega
  | f + 1, pos, h, k, h1, h2, h3 => by
    have hp : pos < s.size := by omega
    have hd := decode_at s pos
    have hl := (s.get! pos).toNat_lt
    have hc := dec_cont (s.size - pos) (s.get! pos).toNat (s.get! (pos + 1)).toNat (s.get! (pos + 2)).toNat (s.get! (pos + 3)).toNat (by omega) (by omega)
    rw [← hd] at hc
    unfold rns
    rw [if_pos hp]
    have hbt : ∀ j, pos + j < s.size → bt s (pos + j) = (s.get! (pos + j)).toNat := fun j hj => bt_get2 s hj
    rcases Nat.lt_or_ge k (pos + (Utf8.decode s pos).2) with hk | hk
    · rcases hc with ⟨e, h4⟩ | ⟨e, h4⟩ | ⟨e, h4⟩ | ⟨e, h4⟩
      · have : k = pos := by omega
        subst this
        have h5 := hbt 0 (by omega)
        rw [Nat.add_zero] at h5
        rw [← h5] at h4
        rw [h4 h3]
        exact List.mem_cons_self
      all_goals
        exfalso
        obtain ⟨j, rfl⟩ : ∃ j, k = pos + j := ⟨k - pos, by omega⟩
        rw [hbt j h2] at h3
        have hj : j = 0 ∨ j = 1 ∨ j = 2 ∨ j = 3 := by omega
        rcases hj with rfl | rfl | rfl | rfl <;> (try rw [Nat.add_zero] at h3) <;> omega
    · have hw := (decode_width s pos hp).1
      exact List.mem_cons_of_mem _ (low_rune s f _ (by omega) k hk h2 h3)

theorem rns_size (s : ByteArray) : ∀ f pos, s.size - pos ≤ f → s.size - pos ≤ 4 * (rns s f pos).length
  | 0, pos, h => by omega
  | f + 1, pos, h => by
    unfold rns
    by_cases hp : pos < s.size
    · rw [if_pos hp]
      have hw := decode_width s pos hp
      have hd := decode_at s pos
      have hl := (s.get! pos).toNat_lt
      have hc := dec_cont (s.size - pos) (s.get! pos).toNat (s.get! (pos + 1)).toNat (s.get! (pos + 2)).toNat (s.get! (pos + 3)).toNat (by omega) (by omega)
      rw [← hd] at hc
      have ih := rns_size s f (pos + (Utf8.decode s pos).2) (by omega)
      rw [List.length_cons]
      omega
    · rw [if_neg hp]; simp; omega

theorem nm_size {s : ByteArray} (h : nm s = true) : s.size ≤ 80 := by
  unfold nm at h
  rw [Bool.and_eq_true] at h
  have := of_decide_eq_true h.2
  have h2 := rns_size s s.size 0 (by omega)
  have e : rns s s.size 0 = runesOf s := rfl
  rw [e] at h2
  omega

end Go.Proofs.YtffnfchekbafmaaGreatDoor

/- Plain: what is joined is parted again; names and decimal numbers hold no sign that ends them. -/
namespace Go.Proofs.YtffnfchekbafmaaGreatDoor
open Go.RowKit Go.Lib
set_option maxRecDepth 20000
set_option linter.unusedVariables false

theorem nm_sign {s : ByteArray} (h : nm s = true) {c : UInt8} (hc : c.toNat < 128) (ho : ofn c.toNat = false) : ∀ b ∈ s.data.toList, b ≠ c := by
  intro b hb e
  subst e
  obtain ⟨k, hk⟩ := List.getElem?_of_mem hb
  have hlt : k < s.size := by have := (List.getElem?_eq_some_iff.1 hk).1; rwa [Array.length_toList] at this
  have hbt : bt s k = b.toNat := by unfold bt; rw [hk]; rfl
  have hm := low_rune s s.size 0 (by omega) k (by omega) hlt (by rw [hbt]; exact hc)
  rw [hbt] at hm
  unfold nm at h
  rw [Bool.and_eq_true] at h
  have h5 := List.all_eq_true.1 h.1 b.toNat hm
  rw [ho] at h5
  exact absurd h5 (by decide)

theorem dec_sign (u : Nat) {c : UInt8} (hc : c.toNat < 48 ∨ 57 < c.toNat) : ∀ b ∈ decDigits u, b ≠ c := fun b hb e => by
  have := dec_digs u b hb
  rw [e] at this
  omega

theorem ix_miss (c : UInt8) : ∀ (s : List UInt8), (∀ b ∈ s, b ≠ c) → Go.Lib.index s [c] = -1
  | [], _ => rfl
  | b :: l, h => by
    have h1 : b ≠ c := h b (by simp)
    have h2 := ix_miss c l (fun x hx => h x (by simp [hx]))
    unfold Go.Lib.index
    rw [if_neg (by simp [List.isPrefixOf]; exact fun e => h1 e.symm), h2]
    rfl

theorem ix_hit (c : UInt8) (r : List UInt8) : ∀ (a : List UInt8), (∀ b ∈ a, b ≠ c) → Go.Lib.index (a ++ c :: r) [c] = a.length
  | [], _ => by simp [Go.Lib.index, List.isPrefixOf]
  | b :: l, h => by
    have h1 : b ≠ c := h b (by simp)
    have h2 := ix_hit c r l (fun x hx => h x (by simp [hx]))
    rw [List.cons_append]
    unfold Go.Lib.index
    rw [if_neg (by simp [List.isPrefixOf]; exact fun e => h1 e.symm), h2, if_neg (by simp)]
    simp

theorem spl_hit (c : UInt8) (k : Nat) (a r : List UInt8) (h : ∀ b ∈ a, b ≠ c) : splitK [c] 0 (k + 1) (a ++ c :: r) = a :: splitK [c] 0 k r := by
  rw [splitK, ix_hit c r a h, if_neg (by simp)]
  simp

theorem spl_miss (c : UInt8) (k : Nat) (a : List UInt8) (h : ∀ b ∈ a, b ≠ c) : splitK [c] 0 k a = [a] := by
  cases k with
  | zero => rfl
  | succ k => rw [splitK, ix_miss c a h, if_pos (by decide)]

/-- Joined from the front. -/
def jnF (c : UInt8) : List UInt8 → List (List UInt8) → List UInt8
  | x, [] => x
  | x, y :: r => x ++ c :: jnF c y r

theorem jnT_app (c : UInt8) : ∀ (r : List (List UInt8)) (x p : List UInt8), jnT c (p ++ x) r = p ++ jnT c x r
  | [], x, p => rfl
  | y :: r, x, p => by
    show jnT c (((p ++ x) ++ [c]) ++ y) r = p ++ jnT c ((x ++ [c]) ++ y) r
    rw [← jnT_app c r, ← List.append_assoc, ← List.append_assoc]

theorem jnF_eq (c : UInt8) : ∀ (r : List (List UInt8)) (x : List UInt8), jnT c x r = jnF c x r
  | [], x => rfl
  | y :: r, x => by
    show jnT c ((x ++ [c]) ++ y) r = x ++ c :: jnF c y r
    rw [jnT_app c r y, jnF_eq c r y, List.append_assoc]
    rfl

theorem spl_join (c : UInt8) : ∀ (r : List (List UInt8)) (x : List UInt8) (k : Nat), r.length ≤ k → (∀ y, y ∈ x :: r → ∀ b ∈ y, b ≠ c) → splitK [c] 0 k (jnF c x r) = x :: r
  | [], x, k, _, h => spl_miss c k x (h x (by simp))
  | y :: r, x, k, hk, h => by
    obtain ⟨k, rfl⟩ : ∃ m, k = m + 1 := ⟨k - 1, by simp at hk; omega⟩
    show splitK [c] 0 (k + 1) (x ++ c :: jnF c y r) = _
    rw [spl_hit c k x _ (h x (by simp)), spl_join c r y k (by simpa using hk) (fun z hz => h z (List.mem_cons_of_mem _ hz))]

theorem jnF_long (c : UInt8) : ∀ (r : List (List UInt8)) (x : List UInt8), r.length ≤ (jnF c x r).length
  | [], x => Nat.zero_le _
  | y :: r, x => by
    have := jnF_long c r y
    show (r.length + 1) ≤ (x ++ c :: jnF c y r).length
    rw [List.length_append, List.length_cons]
    omega

theorem cut_hit (c : UInt8) (a r : List UInt8) (h : ∀ b ∈ a, b ≠ c) : Lib.cut (a ++ c :: r) [c] = (a, r, true) := by
  unfold Lib.cut
  rw [ix_hit c r a h, if_pos (by omega)]
  simp

theorem prs_dig : ∀ (l : List UInt8) (a : Nat), (∀ b ∈ l, 48 ≤ b.toNat ∧ b.toNat ≤ 57) → (l.foldl (fun a b => a * 10 + (b.toNat - 48)) a) ≤ 1000000 → parseUint10 a l = .ok (l.foldl (fun a b => a * 10 + (b.toNat - 48)) a)
  | [], a, _, _ => rfl
  | b :: l, a, h, hv => by
    have hb := h b (by simp)
    have hm : ∀ (l : List UInt8) (a : Nat), a ≤ l.foldl (fun a b => a * 10 + (b.toNat - 48)) a := fun l => by
      induction l with
      | nil => intro a; exact Nat.le_refl _
      | cons c l ih => intro a; have := ih (a * 10 + (c.toNat - 48)); show a ≤ l.foldl _ (a * 10 + (c.toNat - 48)); omega
    have hv2 : l.foldl (fun a b => a * 10 + (b.toNat - 48)) (a * 10 + (b.toNat - 48)) ≤ 1000000 := hv
    have := hm l (a * 10 + (b.toNat - 48))
    rw [parseUint10, if_pos hb, if_neg (by omega), if_neg (by omega)]
    exact prs_dig l _ (fun x hx => h x (by simp [hx])) hv2

theorem dec_ne (u : Nat) : decDigits u ≠ [] := fun h => by
  rw [decDigits] at h
  split at h
  · cases h
  · simp at h

theorem atoi_dec (u : Nat) (hu : u ≤ 1000000) : atoiAll (decDigits u) = .ok (u : Int) := by
  have h1 := dec_digs u
  have h2 := decV_dec u
  have h3 := prs_dig (decDigits u) 0 h1 (by show decV (decDigits u) ≤ _; rw [h2]; exact hu)
  have h4 := dec_ne u
  match hd : decDigits u, h1, h3, h4 with
  | c :: r, h1, h3, _ =>
    have hb := h1 c (by simp)
    have e1 : ¬ (c.toNat = 43 ∨ c.toNat = 45) := by omega
    have e2 : ¬ c.toNat = 45 := by omega
    have e3 : (c :: r).foldl (fun a b => a * 10 + (b.toNat - 48)) 0 = u := by rw [← hd]; exact h2
    rw [e3] at h3
    simp only [atoiAll, if_neg e1, parseMag, if_neg (List.cons_ne_nil c r), h3]
    have hw : ¬ 9223372036854775808 ≤ u := by omega
    simp [e2, hw]

end Go.Proofs.YtffnfchekbafmaaGreatDoor

/- strings.Cut, strings.SplitN, strconv.Atoi, bytes.IndexByte, slices.Clone of texts: off the library's shelf. -/
namespace Go.Proofs.YtffnfchekbafmaaGreatDoor
open Go.RowKit Go.Shelf
set_option maxRecDepth 100000
set_option linter.unusedVariables false

def rnBk : Go.Shelf.Ren := ⟨fun | 129 => 84 | 138 => 43 | 143 => 44 | 145 => 17 | 147 => 18 | 171 => 66 | 172 => 19 | 187 => 16 | 195 => 60 | 197 => 61 | 205 => 65 | 217 => 56 | 218 => 62 | 219 => 41 | 220 => 31 | 221 => 32 | 224 => 58 | 225 => 57 | 243 => 76 | 244 => 33 | 245 => 34 | 246 => 78 | 247 => 45 | 255 => 30 | 260 => 73 | 266 => 71 | 267 => 59 | 268 => 42 | 279 => 46 | 280 => 47 | 281 => 48 | 282 => 49 | 283 => 79 | 284 => 80 | 285 => 81 | 286 => 82 | 287 => 63 | 314 => 72 | 316 => 64 | 317 => 83 | 318 => 85 | 319 => 86 | 320 => 87 | 321 => 74 | 322 => 75 | 337 => 88 | 338 => 89 | n => n,
  fun | 0 => 0 | 2 => 2 | 3 => 3 | 4 => 4 | 5 => 5 | 9 => 9 | 20 => 20 | 21 => 21 | 31 => 42 | 37 => 22 | 46 => 100 | 51 => 81 | 53 => 103 | 59 => 52 | 75 => 56 | 76 => 57 | 80 => 50 | 85 => 87 | 105 => 101 | 119 => 121 | 127 => 117 | 138 => 123 | 139 => 124 | 143 => 118 | 145 => 120 | 146 => 114 | 167 => 86 | 168 => 89 | 171 => 126 | 173 => 129 | 175 => 104 | 210 => 108 | 212 => 132 | 213 => 133 | 232 => 136 | 233 => 137 | n => n, fun | 1 => 0 | 3 => 3 | 4 => 4 | 15 => 1 | 16 => 2 | 17 => 5 | 18 => 6 | 19 => 7 | n => n⟩

theorem blCut : Go.Proofs.Lays.n145 Tryz.prog rnBk where
  mixed := by kernel_rfl
  f145 := by kernel_rfl
  f217 := by kernel_rfl
  f219 := by kernel_rfl
  f220 := by kernel_rfl
  f224 := by kernel_rfl
  f225 := by kernel_rfl
  f266 := by kernel_rfl
  f267 := by kernel_rfl
  f314 := by kernel_rfl
  t3 := by kernel_rfl
  a3 := fun w => by kernel_rfl
  z3 := fun w => by kernel_rfl
  v3 := fun w => by kernel_rfl
  t4 := by kernel_rfl
  a4 := fun w => by kernel_rfl
  z4 := fun w => by kernel_rfl
  v4 := fun w => by kernel_rfl
  t5 := by kernel_rfl
  a5 := fun w => by kernel_rfl
  z5 := fun w => by kernel_rfl
  v5 := fun w => by kernel_rfl
  t9 := by kernel_rfl
  a9 := fun w => by kernel_rfl
  z9 := fun w => by kernel_rfl
  v9 := fun w => by kernel_rfl
  t46 := by kernel_rfl
  a46 := fun w => by kernel_rfl
  z46 := fun w => by kernel_rfl
  v46 := fun w => by kernel_rfl
  t51 := by kernel_rfl
  a51 := fun w => by kernel_rfl
  z51 := fun w => by kernel_rfl
  v51 := fun w => by kernel_rfl
  t59 := by kernel_rfl
  a59 := fun w => by kernel_rfl
  z59 := fun w => by kernel_rfl
  v59 := fun w => by kernel_rfl
  t146 := by kernel_rfl
  a146 := fun w => by kernel_rfl
  z146 := fun w => by kernel_rfl
  v146 := fun w => by kernel_rfl
  g1 := by kernel_rfl

theorem blSpl : Go.Proofs.Lays.n147 Tryz.prog rnBk where
  mixed := by kernel_rfl
  f138 := by kernel_rfl
  f143 := by kernel_rfl
  f147 := by kernel_rfl
  f195 := by kernel_rfl
  f197 := by kernel_rfl
  f217 := by kernel_rfl
  f218 := by kernel_rfl
  f219 := by kernel_rfl
  f221 := by kernel_rfl
  f224 := by kernel_rfl
  f225 := by kernel_rfl
  f260 := by kernel_rfl
  f266 := by kernel_rfl
  f267 := by kernel_rfl
  f268 := by kernel_rfl
  f314 := by kernel_rfl
  t0 := by kernel_rfl
  a0 := fun w => by kernel_rfl
  z0 := fun w => by kernel_rfl
  v0 := fun w => by kernel_rfl
  t3 := by kernel_rfl
  a3 := fun w => by kernel_rfl
  z3 := fun w => by kernel_rfl
  v3 := fun w => by kernel_rfl
  t4 := by kernel_rfl
  a4 := fun w => by kernel_rfl
  z4 := fun w => by kernel_rfl
  v4 := fun w => by kernel_rfl
  t5 := by kernel_rfl
  a5 := fun w => by kernel_rfl
  z5 := fun w => by kernel_rfl
  v5 := fun w => by kernel_rfl
  t9 := by kernel_rfl
  a9 := fun w => by kernel_rfl
  z9 := fun w => by kernel_rfl
  v9 := fun w => by kernel_rfl
  t21 := by kernel_rfl
  a21 := fun w => by kernel_rfl
  z21 := fun w => by kernel_rfl
  v21 := fun w => by kernel_rfl
  t31 := by kernel_rfl
  a31 := fun w => by kernel_rfl
  z31 := fun w => by kernel_rfl
  v31 := fun w => by kernel_rfl
  t46 := by kernel_rfl
  a46 := fun w => by kernel_rfl
  z46 := fun w => by kernel_rfl
  v46 := fun w => by kernel_rfl
  t51 := by kernel_rfl
  a51 := fun w => by kernel_rfl
  z51 := fun w => by kernel_rfl
  v51 := fun w => by kernel_rfl
  t105 := by kernel_rfl
  a105 := fun w => by kernel_rfl
  z105 := fun w => by kernel_rfl
  v105 := fun w => by kernel_rfl
  t119 := by kernel_rfl
  a119 := fun w => by kernel_rfl
  z119 := fun w => by kernel_rfl
  t138 := by kernel_rfl
  a138 := fun w => by kernel_rfl
  z138 := fun w => by kernel_rfl
  v138 := fun w => by kernel_rfl
  t139 := by kernel_rfl
  a139 := fun w => by kernel_rfl
  z139 := fun w => by kernel_rfl
  v139 := fun w => by kernel_rfl
  t146 := by kernel_rfl
  a146 := fun w => by kernel_rfl
  z146 := fun w => by kernel_rfl
  v146 := fun w => by kernel_rfl
  g1 := by kernel_rfl
  g3 := by kernel_rfl
  g4 := by kernel_rfl

theorem blAto : Go.Proofs.LaysC.n172 Tryz.prog rnBk where
  mixed := by kernel_rfl
  f129 := by kernel_rfl
  f171 := by kernel_rfl
  f172 := by kernel_rfl
  f205 := by kernel_rfl
  f243 := by kernel_rfl
  f244 := by kernel_rfl
  f245 := by kernel_rfl
  f246 := by kernel_rfl
  f247 := by kernel_rfl
  f279 := by kernel_rfl
  f280 := by kernel_rfl
  f281 := by kernel_rfl
  f282 := by kernel_rfl
  f283 := by kernel_rfl
  f284 := by kernel_rfl
  f285 := by kernel_rfl
  f286 := by kernel_rfl
  f287 := by kernel_rfl
  f316 := by kernel_rfl
  f317 := by kernel_rfl
  f318 := by kernel_rfl
  f319 := by kernel_rfl
  f320 := by kernel_rfl
  f321 := by kernel_rfl
  f322 := by kernel_rfl
  f337 := by kernel_rfl
  f338 := by kernel_rfl
  t0 := by kernel_rfl
  a0 := fun w => by kernel_rfl
  z0 := fun w => by kernel_rfl
  v0 := fun w => by kernel_rfl
  t2 := by kernel_rfl
  a2 := fun w => by kernel_rfl
  z2 := fun w => by kernel_rfl
  v2 := fun w => by kernel_rfl
  t3 := by kernel_rfl
  a3 := fun w => by kernel_rfl
  z3 := fun w => by kernel_rfl
  v3 := fun w => by kernel_rfl
  t4 := by kernel_rfl
  a4 := fun w => by kernel_rfl
  z4 := fun w => by kernel_rfl
  v4 := fun w => by kernel_rfl
  t5 := by kernel_rfl
  a5 := fun w => by kernel_rfl
  z5 := fun w => by kernel_rfl
  v5 := fun w => by kernel_rfl
  t9 := by kernel_rfl
  a9 := fun w => by kernel_rfl
  z9 := fun w => by kernel_rfl
  v9 := fun w => by kernel_rfl
  t20 := by kernel_rfl
  a20 := fun w => by kernel_rfl
  z20 := fun w => by kernel_rfl
  v20 := fun w => by kernel_rfl
  t21 := by kernel_rfl
  a21 := fun w => by kernel_rfl
  z21 := fun w => by kernel_rfl
  v21 := fun w => by kernel_rfl
  t37 := by kernel_rfl
  a37 := fun w => by kernel_rfl
  z37 := fun w => by kernel_rfl
  v37 := fun w => by kernel_rfl
  t46 := by kernel_rfl
  a46 := fun w => by kernel_rfl
  z46 := fun w => by kernel_rfl
  v46 := fun w => by kernel_rfl
  t51 := by kernel_rfl
  a51 := fun w => by kernel_rfl
  z51 := fun w => by kernel_rfl
  v51 := fun w => by kernel_rfl
  t53 := by kernel_rfl
  a53 := fun w => by kernel_rfl
  z53 := fun w => by kernel_rfl
  v53 := fun w => by kernel_rfl
  t75 := by kernel_rfl
  a75 := fun w => by kernel_rfl
  z75 := fun w => by kernel_rfl
  v75 := fun w => by kernel_rfl
  t76 := by kernel_rfl
  a76 := fun w => by kernel_rfl
  z76 := fun w => by kernel_rfl
  v76 := fun w => by kernel_rfl
  t85 := by kernel_rfl
  a85 := fun w => by kernel_rfl
  z85 := fun w => by kernel_rfl
  v85 := fun w => by kernel_rfl
  t127 := by kernel_rfl
  a127 := fun w => by kernel_rfl
  z127 := fun w => by kernel_rfl
  v127 := fun w => by kernel_rfl
  t143 := by kernel_rfl
  a143 := fun w => by kernel_rfl
  z143 := fun w => by kernel_rfl
  v143 := fun w => by kernel_rfl
  t145 := by kernel_rfl
  a145 := fun w => by kernel_rfl
  z145 := fun w => by kernel_rfl
  v145 := fun w => by kernel_rfl
  t167 := by kernel_rfl
  a167 := fun w => by kernel_rfl
  z167 := fun w => by kernel_rfl
  v167 := fun w => by kernel_rfl
  t168 := by kernel_rfl
  a168 := fun w => by kernel_rfl
  z168 := fun w => by kernel_rfl
  v168 := fun w => by kernel_rfl
  t171 := by kernel_rfl
  a171 := fun w => by kernel_rfl
  z171 := fun w => by kernel_rfl
  v171 := fun w => by kernel_rfl
  t173 := by kernel_rfl
  a173 := fun w => by kernel_rfl
  z173 := fun w => by kernel_rfl
  v173 := fun w => by kernel_rfl
  t175 := by kernel_rfl
  a175 := fun w => by kernel_rfl
  z175 := fun w => by kernel_rfl
  v175 := fun w => by kernel_rfl
  t210 := by kernel_rfl
  a210 := fun w => by kernel_rfl
  z210 := fun w => by kernel_rfl
  v210 := fun w => by kernel_rfl
  t212 := by kernel_rfl
  a212 := fun w => by kernel_rfl
  z212 := fun w => by kernel_rfl
  v212 := fun w => by kernel_rfl
  t213 := by kernel_rfl
  a213 := fun w => by kernel_rfl
  z213 := fun w => by kernel_rfl
  t232 := by kernel_rfl
  a232 := fun w => by kernel_rfl
  z232 := fun w => by kernel_rfl
  v232 := fun w => by kernel_rfl
  t233 := by kernel_rfl
  a233 := fun w => by kernel_rfl
  z233 := fun w => by kernel_rfl
  v233 := fun w => by kernel_rfl
  g15 := by kernel_rfl
  g16 := by kernel_rfl
  g17 := by kernel_rfl
  g18 := by kernel_rfl
  g19 := by kernel_rfl
  t80 := by kernel_rfl
  a80 := fun w => by kernel_rfl
  z80 := fun w => by kernel_rfl
  v80 := fun w => by kernel_rfl
  i0 := by kernel_rfl
  i2 := by kernel_rfl
  i3 := by kernel_rfl
  i4 := by kernel_rfl
  i5 := by kernel_rfl
  i9 := by kernel_rfl
  i20 := by kernel_rfl
  i21 := by kernel_rfl
  i37 := by kernel_rfl
  i46 := by kernel_rfl
  i51 := by kernel_rfl
  i53 := by kernel_rfl
  i75 := by kernel_rfl
  i76 := by kernel_rfl
  i80 := by kernel_rfl
  i85 := by kernel_rfl
  i127 := by kernel_rfl
  i143 := by kernel_rfl
  i145 := by kernel_rfl
  i167 := by kernel_rfl
  i168 := by kernel_rfl
  i171 := by kernel_rfl
  i173 := by kernel_rfl
  i175 := by kernel_rfl
  i210 := by kernel_rfl
  i212 := by kernel_rfl
  i232 := by kernel_rfl
  i233 := by kernel_rfl
  m15 := by kernel_rfl
  m16 := by kernel_rfl
  m17 := by kernel_rfl
  m18 := by kernel_rfl
  m19 := by kernel_rfl
  c0 := by kernel_rfl
  c2 := by kernel_rfl
  c3 := by kernel_rfl
  c4 := by kernel_rfl
  c5 := by kernel_rfl
  c9 := by kernel_rfl
  c20 := by kernel_rfl
  c21 := by kernel_rfl
  c37 := by kernel_rfl
  c46 := by kernel_rfl
  c51 := by kernel_rfl
  c53 := by kernel_rfl
  c75 := by kernel_rfl
  c76 := by kernel_rfl
  c80 := by kernel_rfl
  c85 := by kernel_rfl
  c127 := by kernel_rfl
  c143 := by kernel_rfl
  c145 := by kernel_rfl
  c167 := by kernel_rfl
  c168 := by kernel_rfl
  c171 := by kernel_rfl
  c173 := by kernel_rfl
  c175 := by kernel_rfl
  c210 := by kernel_rfl
  c212 := by kernel_rfl
  c213 := by kernel_rfl
  c232 := by kernel_rfl
  c233 := by kernel_rfl

theorem blIxb : Go.Proofs.Lays.n187 Tryz.prog rnBk where
  mixed := by kernel_rfl
  f187 := by kernel_rfl
  f255 := by kernel_rfl
  t3 := by kernel_rfl
  a3 := fun w => by kernel_rfl
  z3 := fun w => by kernel_rfl
  v3 := fun w => by kernel_rfl
  t5 := by kernel_rfl
  a5 := fun w => by kernel_rfl
  z5 := fun w => by kernel_rfl
  v5 := fun w => by kernel_rfl
  t37 := by kernel_rfl
  a37 := fun w => by kernel_rfl
  z37 := fun w => by kernel_rfl
  v37 := fun w => by kernel_rfl


def rnCls : Go.Shelf.Ren := ⟨fun x => match x with | 16 => 52 | y => y, fun x => match x with | 24 => 42 | 9 => 9 | 4 => 4 | 0 => 0 | y => y, fun x => x⟩

theorem blCls : Go.Proofs.Lays2.n16 Tryz.prog rnCls where
  mixed := by kernel_rfl
  f16 := by kernel_rfl
  t4 := by kernel_rfl
  a4 := fun w => by kernel_rfl
  z4 := fun w => by kernel_rfl
  v4 := fun w => by kernel_rfl
  t9 := by kernel_rfl
  a9 := fun w => by kernel_rfl
  z9 := fun w => by kernel_rfl
  v9 := fun w => by kernel_rfl
  t24 := by kernel_rfl
  a24 := fun w => by kernel_rfl
  z24 := fun w => by kernel_rfl
  v24 := fun w => by kernel_rfl
  i9 := by kernel_rfl

end Go.Proofs.YtffnfchekbafmaaGreatDoor

/- Contracts: Cut, SplitN, Atoi, Clone of texts as the book calls them. -/
namespace Go.Proofs.YtffnfchekbafmaaGreatDoor
open Go.RowKit Go.Lib
set_option maxRecDepth 100000
set_option linter.unusedVariables false

/-- What is asked of package variables of the library. -/
structure Glk (w : World) : Prop where
  mx : ∃ m, w.cell? ⟨0, 0, none⟩ = some (.int .i64 m)
  sy : ∃ ev, w.cell? ⟨1, 0, none⟩ = some ev ∧ (ev = .nilIface ∨ ∃ te pe, ev = .iface te pe)
  rg : ∃ ev, w.cell? ⟨2, 0, none⟩ = some ev ∧ (ev = .nilIface ∨ ∃ te pe, ev = .iface te pe)
  tab : Tab10 w

theorem Glk.below {w w' : World} (h : Glk w) (hb : Below w.heap.size w w') : Glk w' := by
  obtain ⟨m, hm⟩ := h.mx
  obtain ⟨e1, hv1, k1⟩ := h.sy
  obtain ⟨e2, hv2, k2⟩ := h.rg
  exact ⟨⟨m, by rw [hb.cell (World.block_lt_of_cell? _ _ hm)]; exact hm⟩, ⟨e1, by rw [hb.cell (World.block_lt_of_cell? _ _ hv1)]; exact hv1, k1⟩, ⟨e2, by rw [hb.cell (World.block_lt_of_cell? _ _ hv2)]; exact hv2, k2⟩, h.tab.below hb⟩

/-- Texts in a block of texts. -/
structure RgS (w : World) (v : Value) (ring : List ByteArray) : Prop where
  mem : ∃ g o cap cur fr, v = .slice (some ⟨g, o, none⟩) ring.length cap ∧ w.heap[g]? = some (.cells cur 9 fr) ∧ ring.length ≤ cap ∧ cap ≤ 9223372036854775807 ∧ ∀ j x, ring[j]? = some x → cur[o + j]? = some (.string x)

/-- Blocks of texts stay as they are. -/
def StrK (w w' : World) : Prop := ∀ (b : Nat) (cur : Array Value) (fr : Nat × Nat), w.heap[b]? = some (.cells cur 9 fr) → w'.heap[b]? = some (.cells cur 9 fr)

theorem StrK.refl (w : World) : StrK w w := fun _ _ _ h => h
theorem StrK.trans {a b c : World} (h : StrK a b) (k : StrK b c) : StrK a c := fun x cur fr e => k x cur fr (h x cur fr e)
theorem StrK.of {w w' : World} (h : Below w.heap.size w w') : StrK w w' := fun b cur fr e => (h.block b (Array.getElem?_eq_some_iff.1 e).1).trans e

theorem setCell_at (w : World) (a : Addr) (y : Value) (b : Nat) (h : b ≠ a.block) : (w.setCell a y).heap[b]? = w.heap[b]? := by
  simp only [World.setCell]
  rw [Array.getElem?_modify, if_neg (fun e => h e.symm)]

theorem StrK.set {w : World} {a : Addr} {cur : Array Value} {t : TypeId} {fr : Nat × Nat} (h : w.heap[a.block]? = some (.cells cur t fr)) (ht : t ≠ 9) (y : Value) : StrK w (w.setCell a y) := fun b cur' fr' e => by
  rw [setCell_at w a y b (fun hb => by
    rw [hb, h] at e
    injection e with e
    injection e with _ e2
    exact ht e2)]
  exact e

theorem RgS.rg {w : World} {v : Value} {ring : List ByteArray} (h : RgS w v ring) : RgAt w v ring := by
  obtain ⟨g, o, cap, cur, fr, e, h1, h2, h3, h4⟩ := h.mem
  exact ⟨g, o, cap, e, (Array.getElem?_eq_some_iff.1 h1).1, h2, h3, fun j x hj => by rw [World.cell?, h1]; exact h4 j x hj⟩

theorem RgS.keep {w w' : World} {v : Value} {ring : List ByteArray} (h : RgS w v ring) (k : StrK w w') : RgS w' v ring := by
  obtain ⟨g, o, cap, cur, fr, e, h1, h2, h3, h4⟩ := h.mem
  exact ⟨g, o, cap, cur, fr, e, k _ _ _ h1, h2, h3, h4⟩

theorem infoStrB : (Tryz.prog.info? 9).map (fun i => (i.zero, i.size, i.bytes)) = some (some (.string ByteArray.empty), 1, 16) := by kernel_rfl

theorem cutK_ok (s : ByteArray) (w : World) (hg : Glk w) (hs : s.size ≤ 1000000) :
    Calls Tryz.prog 17 #[.string s, .string ⟨#[35]⟩] w fun e w' => ∃ b c, e = .returned (.tuple #[.string ⟨(Lib.cut s.data.toList [35]).1.toArray⟩, .string b, .bool c]) ∧ Below w.heap.size w w' := by
  obtain ⟨m, hm⟩ := hg.mx
  have h := Any.strings_Cut (P := Tryz.prog) (ρ := rnBk) blCut s ⟨#[35]⟩ m w (by omega) hm
  refine Calls.mono (show Calls Tryz.prog 17 _ _ _ from h) ?_
  rintro e w' ⟨rfl, n, rfl⟩
  exact ⟨_, _, rfl, ⟨rfl, rfl, rfl, Nat.le_refl _, fun _ _ => rfl⟩⟩

/-- Parted at a sign, at most so many parts. -/
def spN (c : UInt8) (n : Nat) (s : ByteArray) : List ByteArray := Lib.splitB ⟨#[c]⟩ 0 (min n (s.size + 1) - 1) s

theorem spN_data (c : UInt8) (n : Nat) (s : ByteArray) : (spN c n s).map (fun x => x.data.toList) = splitK [c] 0 (min n (s.size + 1) - 1) s.data.toList := Lib.splitB_data ⟨#[c]⟩ 0 _ s

theorem spN_len (c : UInt8) {n : Nat} (hn : 1 ≤ n) (s : ByteArray) : (spN c n s).length ≤ min n (s.size + 1) := by
  have := Lib.splitB_length_le ⟨#[c]⟩ 0 (min n (s.size + 1) - 1) s
  unfold spN
  omega

theorem splitB_pos (sep : ByteArray) (k : Nat) (s : ByteArray) : 1 ≤ (Lib.splitB sep 0 k s).length := by
  cases k with
  | zero => simp [Lib.splitB]
  | succ k => unfold Lib.splitB; split <;> simp

theorem splitB_sizes (sep : ByteArray) : ∀ (k : Nat) (s x : ByteArray), x ∈ Lib.splitB sep 0 k s → x.size ≤ s.size
  | 0, s, x, h => by simp [Lib.splitB] at h; rw [h]; exact Nat.le_refl _
  | k + 1, s, x, h => by
    unfold Lib.splitB at h
    split at h
    · simp at h; rw [h]; exact Nat.le_refl _
    · rcases List.mem_cons.1 h with rfl | h
      · rw [ByteArray.size_extract]; omega
      · have := splitB_sizes sep k _ x h
        rw [ByteArray.size_extract] at this
        omega

theorem splN_ok (c : UInt8) (n : Nat) (s : ByteArray) (w : World) (hg : Glk w) (hs : s.size ≤ 1000000) (hn : 1 ≤ n) (hn2 : n ≤ 1000) :
    Calls Tryz.prog 18 #[.string s, .string ⟨#[c]⟩, .int .i64 (n : Int)] w fun e w' => ∃ v, e = .returned v ∧ RgS w' v (spN c n s) ∧ Below w.heap.size w w' := by
  obtain ⟨m, hm⟩ := hg.mx
  have h := Any.strings_SplitN (P := Tryz.prog) (ρ := rnBk) blSpl infoStrB s ⟨#[c]⟩ n m w (by omega) hm (by show 1 ≤ 1; omega) hn (by omega)
  refine Calls.mono (show Calls Tryz.prog 18 _ _ _ from h) ?_
  rintro e w' ⟨rfl, rfl⟩
  have hl := spN_len c hn s
  have hh := heap_alloc_new w (.cells (Lib.cellsOf (Lib.splitB ⟨#[c]⟩ 0 (min n (s.size + 1) - 1) s) (min n (s.size + 1))) 9)
  refine ⟨_, rfl, ⟨_, _, _, _, _, rfl, hh, hl, by omega, fun j x hj => ?_⟩, (Below.refl _ _).alloc (Nat.le_refl _) _⟩
  have e1 : (Lib.cellsOf (spN c n s) (min n (s.size + 1)))[j]? = some (.string x) := by
    unfold Lib.cellsOf
    have hjl : j < (spN c n s).length := (List.getElem?_eq_some_iff.1 hj).1
    rw [List.getElem?_toArray, List.getElem?_append_left (by rw [List.length_map]; exact hjl), List.getElem?_map, hj]
    rfl
  rw [Nat.zero_add]
  exact e1

theorem atoK_ok (s : ByteArray) (w : World) (hg : Glk w) (hs : s.size ≤ 1000000) :
    Calls Tryz.prog 19 #[.string s] w fun e w' => ∃ (z : Int) (ev : Value), e = .returned (.tuple #[.int .i64 z, ev]) ∧ (∀ u, atoiAll s.data.toList = .ok u → z = u) ∧ Below w.heap.size w w' := by
  match ha : atoiAll s.data.toList with
  | .ok u =>
    have h := Any.strconv_Atoi_ok (P := Tryz.prog) (ρ := rnBk) blAto s (by omega) _ ha w
    refine Calls.mono (show Calls Tryz.prog 19 _ _ _ from h) ?_
    rintro e w' ⟨rfl, hw⟩
    refine ⟨_, _, rfl, fun u' h' => by injection h', ?_⟩
    rcases hw with rfl | ⟨t, rfl⟩
    · exact Below.refl _ _
    · exact Lib.bytesWorld_below _ _ _
  | .syntax =>
    obtain ⟨ev, hev, h2⟩ := hg.sy
    have h := Any.strconv_Atoi_syntax (P := Tryz.prog) (ρ := rnBk) blAto s (by omega) ha ev w hev h2
    refine Calls.mono (show Calls Tryz.prog 19 _ _ _ from h) ?_
    rintro e w' ⟨N, rfl, _, _, hb⟩
    exact ⟨_, _, rfl, fun u' h' => (by cases h'), hb⟩
  | .range =>
    obtain ⟨ev, hev, h2⟩ := hg.rg
    have h := Any.strconv_Atoi_range (P := Tryz.prog) (ρ := rnBk) blAto s (by omega) ha ev w hev h2
    refine Calls.mono (show Calls Tryz.prog 19 _ _ _ from h) ?_
    rintro e w' ⟨N, rfl, _, _, hb⟩
    exact ⟨_, _, rfl, fun u' h' => (by cases h'), hb⟩

theorem cloneS_ok (v : Value) (ring : List ByteArray) (w : World) (hv : RgAt w v ring) (h1 : 1 ≤ ring.length) (h2 : ring.length ≤ 1000) :
    Calls Tryz.prog 52 #[v] w fun e w' => ∃ v', e = .returned v' ∧ RgS w' v' ring ∧ Below w.heap.size w w' := by
  obtain ⟨g, o, cap, ev, hg, hc1, hc2, hcell⟩ := hv.mem
  subst ev
  have h := Any.slices_Clone_string (P := Tryz.prog) (ρ := rnCls) blCls g o ring.length cap ring w (Nat.le_refl _) (by omega) (fun j hj => hcell j _ (by rw [List.getD_eq_getElem?_getD, List.getElem?_eq_getElem hj]; rfl))
  refine Calls.mono (show Calls Tryz.prog 52 _ _ _ from h) ?_
  rintro e w' ⟨v', rfl, ho, hne, hb⟩
  refine ⟨v', rfl, ?_, hb⟩
  rcases ho.2 with ⟨_, h0⟩ | ⟨g', cap', cur, rfl, hb', hh, hc, hcm, hcz, htk⟩
  · omega
  · refine ⟨g', 0, cap', cur, _, rfl, hh, hc, by unfold maxLen at hcm; omega, fun j x hj => ?_⟩
    have hjl : j < ring.length := (List.getElem?_eq_some_iff.1 hj).1
    rw [Nat.zero_add]
    have h5 : (cur.toList.take (ring.length * 1))[j]? = some (.string x) := by rw [htk, List.take_length, List.getElem?_map, hj]; rfl
    rw [List.getElem?_take, if_pos (by omega), Array.getElem?_toList] at h5
    exact h5

end Go.Proofs.YtffnfchekbafmaaGreatDoor

/- Contracts: (peal).record, enter, fault. -/
namespace Go.Proofs.YtffnfchekbafmaaGreatDoor
open Go.RowKit Go.Lib
set_option maxRecDepth 100000
set_option linter.unusedVariables false

theorem alloc_sz (w : World) (o : Obj) : (w.alloc o).heap.size = w.heap.size + 1 := by
  show (w.heap.push o).size = _
  rw [Array.size_push]

theorem alloc3 (w : World) (a b c : Obj) : Below w.heap.size w (((w.alloc a).alloc b).alloc c) ∧ (((w.alloc a).alloc b).alloc c).heap[w.heap.size + 1]? = some b ∧ (((w.alloc a).alloc b).alloc c).heap[w.heap.size + 1 + 1]? = some c ∧ (((w.alloc a).alloc b).alloc c).heap.size = w.heap.size + 3 := by
  have s1 := alloc_sz w a
  have s2 := alloc_sz (w.alloc a) b
  have s3 := alloc_sz ((w.alloc a).alloc b) c
  have n2 := heap_alloc_new (w.alloc a) b
  have n3 := heap_alloc_new ((w.alloc a).alloc b) c
  rw [s1] at n2 s2
  rw [s2] at n3 s3
  refine ⟨(((Below.refl _ _).alloc (Nat.le_refl _) _).alloc (by omega) _).alloc (by omega) _, ?_, n3, s3⟩
  exact (heap_alloc_old ((w.alloc a).alloc b) c (by omega)).trans n2

/-- Four cells of a block, none frozen. -/
theorem cells4 {w : World} {b : Nat} {t : TypeId} {x0 x1 x2 x3 : Value} (h : w.heap[b]? = some (.cells #[x0, x1, x2, x3] t)) :
    (w.cell? ⟨b, 0, none⟩ = some x0 ∧ w.cell? ⟨b, 1, none⟩ = some x1 ∧ w.cell? ⟨b, 2, none⟩ = some x2 ∧ w.cell? ⟨b, 3, none⟩ = some x3) ∧ (w.frozen? ⟨b, 0, none⟩ = false ∧ w.frozen? ⟨b, 1, none⟩ = false ∧ w.frozen? ⟨b, 2, none⟩ = false ∧ w.frozen? ⟨b, 3, none⟩ = false) := by
  simp [World.cell?, World.frozen?, h]

theorem set4_0 {w : World} {b : Nat} {t : TypeId} {x0 x1 x2 x3 : Value} (h : w.heap[b]? = some (.cells #[x0, x1, x2, x3] t)) (y : Value) : (w.setCell ⟨b, 0, none⟩ y).heap[b]? = some (.cells #[y, x1, x2, x3] t) := by
  simp [World.setCell, Array.getElem?_modify, h]
theorem set4_1 {w : World} {b : Nat} {t : TypeId} {x0 x1 x2 x3 : Value} (h : w.heap[b]? = some (.cells #[x0, x1, x2, x3] t)) (y : Value) : (w.setCell ⟨b, 1, none⟩ y).heap[b]? = some (.cells #[x0, y, x2, x3] t) := by
  simp [World.setCell, Array.getElem?_modify, h]
theorem set4_2 {w : World} {b : Nat} {t : TypeId} {x0 x1 x2 x3 : Value} (h : w.heap[b]? = some (.cells #[x0, x1, x2, x3] t)) (y : Value) : (w.setCell ⟨b, 2, none⟩ y).heap[b]? = some (.cells #[x0, x1, y, x3] t) := by
  simp [World.setCell, Array.getElem?_modify, h]
theorem set4_3 {w : World} {b : Nat} {t : TypeId} {x0 x1 x2 x3 : Value} (h : w.heap[b]? = some (.cells #[x0, x1, x2, x3] t)) (y : Value) : (w.setCell ⟨b, 3, none⟩ y).heap[b]? = some (.cells #[x0, x1, x2, y] t) := by
  simp [World.setCell, Array.getElem?_modify, h]

theorem set4_all {w : World} {b : Nat} {t : TypeId} {x0 x1 x2 x3 : Value} (h : w.heap[b]? = some (.cells #[x0, x1, x2, x3] t)) (y0 y1 y2 y3 : Value) : ((((w.setCell ⟨b, 0, none⟩ y0).setCell ⟨b, 1, none⟩ y1).setCell ⟨b, 2, none⟩ y2).setCell ⟨b, 3, none⟩ y3).heap[b]? = some (.cells #[y0, y1, y2, y3] t) := by
  simp [World.setCell, Array.getElem?_modify, h]

set_option maxHeartbeats 4000000 in
theorem record_ok (d c : Int) (m : ByteArray) (v : Value) (ring : List ByteArray) (w : World) (hv : RgAt w v ring) (h1 : 1 ≤ ring.length) (h2 : ring.length ≤ 1000) :
    Calls Tryz.prog 36 #[.agg #[.int .i64 d, .int .i64 c, .string m, v]] w fun e w' => ∃ v', e = .returned (.agg #[.int .i64 d, .int .i64 c, .string m, v']) ∧ RgS w' v' ring ∧ Below w.heap.size w w' := by
  obtain ⟨g, o, cap, ev, hg, hc1, hc2, hcell⟩ := hv.mem
  subst ev
  obtain ⟨W, hW⟩ : ∃ W, W = (((w.alloc (.cells #[.int .i64 d, .int .i64 c, .string m, .slice (some ⟨g, o, none⟩) ring.length cap] 75)).alloc (.cells #[.int .i64 0, .int .i64 0, .string { data := #[] }, .slice none 0 0] 44)).alloc (.cells #[.int .i64 d, .int .i64 c, .string m, .slice (some ⟨g, o, none⟩) ring.length cap] 44)) := ⟨_, rfl⟩
  obtain ⟨hbW, hW1, hW2, hWs⟩ := alloc3 w (.cells #[.int .i64 d, .int .i64 c, .string m, .slice (some ⟨g, o, none⟩) ring.length cap] 75) (.cells #[.int .i64 0, .int .i64 0, .string { data := #[] }, .slice none 0 0] 44) (.cells #[.int .i64 d, .int .i64 c, .string m, .slice (some ⟨g, o, none⟩) ring.length cap] 44)
  rw [← hW] at hbW hW1 hW2 hWs
  have HC := hide (cloneS_ok _ ring W (hv.below hbW) h1 h2)
  generalize hL : ring.length = L at *
  have HL := hide hL
  have HW := hide hW
  have HBW := hide hbW
  clear hW hbW hv hcell hL
  go_enter Tryz.func36, Tryz.ntmps36
  go_wp2_with fail
  refine (HW.out ▸ HC.out).mono ?_
  rintro e W1 ⟨v', rfl, hr', hb1⟩
  rw [← HW.out] at hb1
  have e1 : W1.heap[w.heap.size + 1]? = some (.cells #[.int .i64 0, .int .i64 0, .string { data := #[] }, .slice none 0 0] 44) := (hb1.block _ (by omega)).trans hW1
  have e2 : W1.heap[w.heap.size + 1 + 1]? = some (.cells #[.int .i64 d, .int .i64 c, .string m, .slice (some ⟨g, o, none⟩) L cap] 44) := (hb1.block _ (by omega)).trans hW2
  have HR2 : Hid (RgS W1 v' ring) := hr'
  obtain ⟨g', o', cap', cur', fr', ev', _, hc1', hc2', _⟩ := hr'.mem
  rw [HL.out] at ev'
  subst ev'
  obtain ⟨⟨k0, k1, k2, k3⟩, f0, f1, f2, f3⟩ := cells4 e2
  obtain ⟨⟨j0, j1, j2, j3⟩, i0, i1, i2, i3⟩ := cells4 e1
  have HB1 : Hid (Below w.heap.size w W1) := HBW.out.trans (hb1.mono HBW.out.size)
  have HE2 := hide e2
  have HE1 : Hid (∀ V, (W1.setCell ⟨w.heap.size + 1 + 1, 3, none⟩ V).heap[w.heap.size + 1]? = some (.cells #[.int .i64 0, .int .i64 0, .string { data := #[] }, .slice none 0 0] 44)) := fun V => (setCell_at W1 ⟨w.heap.size + 1 + 1, 3, none⟩ V (w.heap.size + 1) (by show w.heap.size + 1 ≠ w.heap.size + 1 + 1; omega)).trans e1
  clear e1 e2 hr' hb1 HC hW1 hW2 hc1'
  go_wp2
  refine bodyPost_ret (results_cell_row (p := 2) (ty := 44) rfl _ _ (w.heap.size + 1) 44 _ _ _ rfl (set4_all (HE1.out _) _ _ _ _) Tryz.underlying44 rfl (by kernel_rfl)) rfl ?_
  refine ⟨_, rfl, ?_, ?_⟩
  · have k1 := StrK.set (a := ⟨w.heap.size + 1 + 1, 3, none⟩) HE2.out (by decide) (.slice (some ⟨g', o', none⟩) L cap')
    have z1 := HE1.out (.slice (some ⟨g', o', none⟩) L cap')
    have k2 := StrK.set (a := ⟨w.heap.size + 1, 0, none⟩) z1 (by decide) (.int .i64 d)
    have z2 := set4_0 z1 (.int .i64 d)
    have k3 := StrK.set (a := ⟨w.heap.size + 1, 1, none⟩) z2 (by decide) (.int .i64 c)
    have z3 := set4_1 z2 (.int .i64 c)
    have k4 := StrK.set (a := ⟨w.heap.size + 1, 2, none⟩) z3 (by decide) (.string m)
    have z4 := set4_2 z3 (.string m)
    have k5 := StrK.set (a := ⟨w.heap.size + 1, 3, none⟩) z4 (by decide) (.slice (some ⟨g', o', none⟩) L cap')
    exact ((((HR2.out.keep k1).keep k2).keep k3).keep k4).keep k5
  · exact ((((HB1.out.setCell (p := ⟨w.heap.size + 1 + 1, 3, none⟩) (by show w.heap.size ≤ w.heap.size + 1 + 1; omega) _).setCell (p := ⟨w.heap.size + 1, 0, none⟩) (by show w.heap.size ≤ w.heap.size + 1; omega) _).setCell (p := ⟨w.heap.size + 1, 1, none⟩) (by show w.heap.size ≤ w.heap.size + 1; omega) _).setCell (p := ⟨w.heap.size + 1, 2, none⟩) (by show w.heap.size ≤ w.heap.size + 1; omega) _).setCell (p := ⟨w.heap.size + 1, 3, none⟩) (by show w.heap.size ≤ w.heap.size + 1; omega) _

end Go.Proofs.YtffnfchekbafmaaGreatDoor

/- Contracts: book.enter, book.fault. -/
namespace Go.Proofs.YtffnfchekbafmaaGreatDoor
open Go.RowKit Go.Lib
set_option maxRecDepth 100000
set_option linter.unusedVariables false

theorem alloc2 (w : World) (a b : Obj) : Below w.heap.size w ((w.alloc a).alloc b) ∧ ((w.alloc a).alloc b).heap[w.heap.size]? = some a ∧ ((w.alloc a).alloc b).heap[w.heap.size + 1]? = some b ∧ ((w.alloc a).alloc b).heap.size = w.heap.size + 2 := by
  have s1 := alloc_sz w a
  have s2 := alloc_sz (w.alloc a) b
  have n1 := heap_alloc_new w a
  have n2 := heap_alloc_new (w.alloc a) b
  rw [s1] at n2 s2
  exact ⟨((Below.refl _ _).alloc (Nat.le_refl _) _).alloc (by omega) _, (heap_alloc_old (w.alloc a) b (by omega)).trans n1, n2, s2⟩

set_option maxHeartbeats 4000000 in
theorem enter_ok (d c : Int) (m : ByteArray) (v : Value) (ring : List ByteArray) (w : World) (hv : RgAt w v ring) (hm : m.size ≤ 1000000) (hr : ∀ x, x ∈ ring → x.size ≤ 1000000) (h1 : 1 ≤ ring.length) :
    Calls Tryz.prog 20 #[.agg #[.int .i64 d, .int .i64 c, .string m, v]] w fun e w' => ((MayR d c m ring ∧ ∃ v', e = .returned (.iface 75 (.agg #[.int .i64 d, .int .i64 c, .string m, v'])) ∧ RgS w' v' ring) ∨ (¬ MayR d c m ring ∧ ∃ k : Int, k ≠ 0 ∧ e = .returned (.iface 77 (.agg #[.int .i64 d, .int .i64 c, .string m, v, .int .i64 k])))) ∧ Below w.heap.size w w' := by
  obtain ⟨W, hW⟩ : ∃ W, W = ((w.alloc (.cells #[.int .i64 d, .int .i64 c, .string m, v] 44)).alloc (.cells #[.int .i64 d, .int .i64 c, .string m, v] 75)) := ⟨_, rfl⟩
  obtain ⟨hbW, hW1, hW2, hWs⟩ := alloc2 w (.cells #[.int .i64 d, .int .i64 c, .string m, v] 44) (.cells #[.int .i64 d, .int .i64 c, .string m, v] 75)
  rw [← hW] at hbW hW1 hW2 hWs
  have HM := hide (may_ok d c m v ring W (hv.below hbW) hm hr h1)
  have HR : Hid (MayR d c m ring → ∀ V, Below W.heap.size W V → Calls Tryz.prog 36 #[.agg #[.int .i64 d, .int .i64 c, .string m, v]] V fun e w' => ∃ v', e = .returned (.agg #[.int .i64 d, .int .i64 c, .string m, v']) ∧ RgS w' v' ring ∧ Below V.heap.size V w') := fun h V hV => record_ok d c m v ring V ((hv.below hbW).below hV) h1 (by have := h.few; omega)
  obtain ⟨g, o, cap, ev, _⟩ := hv.mem
  subst ev
  generalize hPM : MayR d c m ring = PM at *
  generalize ring.length = L at *
  have HW := hide hW
  have HBW := hide hbW
  have HH := hide hW2
  clear hW hbW hv hW1 hW2 hPM hr
  go_enter Tryz.func20, Tryz.ntmps20
  go_wp2_with fail
  refine (HW.out ▸ HM.out).mono ?_
  rintro e W1 ⟨⟨k, rfl, hk⟩, hb1⟩
  rw [← HW.out] at hb1
  have HB1 : Hid (Below w.heap.size w W1) := HBW.out.trans (hb1.mono HBW.out.size)
  have e2 : W1.heap[w.heap.size + 1]? = some (.cells #[.int .i64 d, .int .i64 c, .string m, .slice (some ⟨g, o, none⟩) L cap] 75) := (hb1.block _ (by omega)).trans HH.out
  obtain ⟨⟨k0, k1, k2, k3⟩, -, -, -, -⟩ := cells4 e2
  have HX := hide hb1
  have HKK := hide hk
  clear hb1 e2 HM hk
  by_cases h0 : k = 0
  · subst h0
    have HPM : Hid PM := HKK.out.1 rfl
    clear HKK
    go_wp2_with fail
    refine (HR.out HPM.out W1 HX.out).mono ?_
    rintro e W2 ⟨v', rfl, hr', hb2⟩
    have HF : Hid (Below w.heap.size w W2) := HB1.out.trans (hb2.mono HB1.out.size)
    have HR' := hide hr'
    obtain ⟨g', o', cap', cur', fr', ev', -⟩ := hr'.mem
    generalize ring.length = L' at *
    subst ev'
    clear hb2 hr'
    go_wp2
    go_ret
    exact ⟨Or.inl ⟨HPM.out, _, rfl, HR'.out⟩, HF.out⟩
  · have HN : Hid (¬ PM) := fun h => h0 (HKK.out.2 h)
    have HK0 := hide h0
    have hk : (k == 0) = false := by simpa using h0
    clear HKK h0 HR
    go_wp2
    go_ret
    exact ⟨Or.inr ⟨HN.out, _, HK0.out, rfl⟩, HB1.out⟩

/-- A peal's methods, as an interface finds them. -/
@[go_sem] theorem meth_line (k : Nat) (v : Value) (w : World) : (method (k + 1) 75 v "campanile/book.line").run Tryz.prog w = .ok (107, v) w := by kernel_rfl

@[go_sem] theorem as_peal (v : Value) (w : World) : (Instr.typeAssert (.iface 75 v) 39 77 true).run Tryz.prog w = .ok (.tuple #[.agg #[.int .i64 0, .int .i64 0, .string ⟨#[]⟩, .slice none 0 0, .int .i64 0], .bool false]) w := by kernel_rfl
@[go_sem] theorem as_refused (v : Value) (w : World) : (Instr.typeAssert (.iface 77 v) 39 77 true).run Tryz.prog w = .ok (.tuple #[v, .bool true]) w := by kernel_rfl

set_option maxHeartbeats 4000000 in
theorem fault_peal (x0 x1 x2 x3 : Value) (w : World) : Calls Tryz.prog 21 #[.iface 75 (.agg #[x0, x1, x2, x3])] w fun e w' => e = .returned (.int .i64 0) ∧ Below w.heap.size w w' := by
  go_enter Tryz.func21, Tryz.ntmps21
  go_wp2
  go_ret
  exact ⟨rfl, (Below.refl _ _).alloc (Nat.le_refl _) _⟩

set_option maxHeartbeats 4000000 in
theorem fault_refused (d c : Int) (m : ByteArray) (p : Option Addr) (n cap : Nat) (k : Int) (w : World) : Calls Tryz.prog 21 #[.iface 77 (.agg #[.int .i64 d, .int .i64 c, .string m, .slice p n cap, .int .i64 k])] w fun e w' => e = .returned (.int .i64 k) ∧ Below w.heap.size w w' := by
  go_enter Tryz.func21, Tryz.ntmps21
  go_wp2
  go_ret
  exact ⟨rfl, (Below.refl _ _).alloc (Nat.le_refl _) _⟩

end Go.Proofs.YtffnfchekbafmaaGreatDoor
