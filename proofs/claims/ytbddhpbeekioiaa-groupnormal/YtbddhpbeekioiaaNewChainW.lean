/- Contract: newChain, where the bases are in order. -/
import Derived.Test.YtbddhpbeekioiaaNewChain
namespace Go.Proofs.Ytbddhpbeekioiaa
open Go.RowKit

theorem Try.info122 : (Try.prog.info? 122).map (fun i => (i.zero, i.size, i.bytes)) = some (some (.agg #[.int .i64 0, .map none, .slice none 0 0, .slice none 0 0]), 4, 64) := by kernel_rfl

set_option maxHeartbeats 400000 in
theorem inOrder_ok (k : Int) (w : World) : Calls Try.prog 85 #[.int .i64 k] w fun e w' => e = .returned (.int .i64 k) ∧ w = w' := by
  go_enter Try.func85, Try.ntmps85
  go_wp2
  go_ret
  exact ⟨rfl, rfl⟩

/-- A chain that holds just what rows make. -/
structure Chained (w : World) (B g n : Nat) (bs : List Nat) (C : List Lk) (st : Nat → St) (gs : List Pm) : Prop where
  len : C.length = n
  bases : C.map (·.base) = bs
  whole : Whole (fun b => n ≤ b) C
  gen : ∀ x, Prd C x ↔ Gen (fun y => y ∈ gs) x
  chain : ChainAt w B g (C.map rawOf) st
  nd : ∀ l, l ∈ C → l.gens.Nodup

theorem Packs.form {w : World} {v : Value} {gs : List Pm} (h : Packs w v gs) : ∃ p cap, v = .slice p gs.length cap := by
  rcases h with ⟨rfl, p, c, rfl⟩ | ⟨b, off, cap, h1, _⟩
  · exact ⟨p, c, rfl⟩
  · exact ⟨_, cap, h1⟩

theorem chained_take {gs : List Pm} {C C' : List Lk} {q : Nat} {s : Pm} {F : Nat → Prop} (hs : gs[q]? = some s) (hW' : Whole F C') (hg : ∀ x, Prd C x ↔ Gen (fun y => y ∈ gs.take q) x) (ht : Took C C' s) : ∀ x, Prd C' x ↔ Gen (fun y => y ∈ gs.take (q + 1)) x := by
  have e : gs.take (q + 1) = gs.take q ++ [s] := by rw [List.take_add_one, hs]; rfl
  intro x
  constructor
  · refine ht.least _ (Gen.sub _) (fun y hy => ((hg y).1 hy).mono (fun z hz => ?_)) (Gen.of ?_) x
    · rw [e]; exact List.mem_append_left _ hz
    · rw [e]; simp
  · intro hx
    refine hx.least (prd_sub hW') (fun y hy => ?_)
    have hy : y ∈ gs.take (q + 1) := hy
    rw [e] at hy
    rcases List.mem_append.1 hy with hy | hy
    · exact ht.grow y ((hg y).2 (Gen.of hy))
    · rw [List.mem_singleton.1 hy]; exact ht.there

theorem below_setCells (b : Nat) (vs : List Value) (o : Nat) (w : World) {B : Nat} (hB : B ≤ b) : Below B w (w.setCells b o vs) := by
  induction vs generalizing o w with
  | nil => exact Below.refl _ _
  | cons v r ih =>
    rw [World.setCells]
    exact ((Below.refl _ _).setCell (p := ⟨b, o, none⟩) hB v).trans (ih (o + 1) _)

theorem tabF_one (j : Nat) : upd (fun _ => none) (j : Int) (pv 1) = tabF [(j, (1 : Pm))] := by
  have h := tabF_snoc (tab := []) (b := j) 1 rfl
  rw [List.nil_append] at h
  rw [← h]
  congr 1
  funext a
  unfold tabF
  split <;> rfl

theorem link_laid {w wr w1 w2 : World} {n j : Nat} {st : Nat → St} (hPre : PreAt wr w.heap.size w.heap.size n (((List.range j).map lk0).map rawOf) st) (hlt : j < n) (hbw : Below w.heap.size w wr) (hb01 : Below wr.heap.size wr w1) (hs1 : wr.heap.size < w1.heap.size)
    (hM2 : IMap w2 wr.heap.size (0 + 1) (upd (fun _ => none) (j : Int) (pv 1))) (hg2 : w1.grownBy w2 (some wr.heap.size)) :
    ∃ st', PreAt ((w2.alloc (.cells #[.int .i64 (j : Int)] 3)).setCells w.heap.size (j * 4) [.int .i64 (j : Int), .map (some wr.heap.size), .slice (some ⟨w2.heap.size, 0, none⟩) 1 1, .slice none 0 0]) w.heap.size w.heap.size n (((List.range (j + 1)).map lk0).map rawOf) st' ∧ Below w.heap.size w ((w2.alloc (.cells #[.int .i64 (j : Int)] 3)).setCells w.heap.size (j * 4) [.int .i64 (j : Int), .map (some wr.heap.size), .slice (some ⟨w2.heap.size, 0, none⟩) 1 1, .slice none 0 0]) := by
  have hR : (((List.range j).map lk0).map rawOf).length = j := by simp
  have hs2 := hg2.size
  have hbs := hbw.size
  have hb2 : Below wr.heap.size wr (w2.alloc (.cells #[.int .i64 (j : Int)] 3)) := (hb01.grown hg2 hb01.size (fun k h => by have := Option.some.inj h; omega)).alloc (by omega) _
  have hM3 := hM2.alloc (.cells #[.int .i64 (j : Int)] 3)
  rw [tabF_one] at hM3
  have hO : (w2.alloc (.cells #[.int .i64 (j : Int)] 3)).ownsRow w.heap.size 3 1 (.slice (some ⟨w2.heap.size, 0, none⟩) 1 1) 1 [.int .i64 (j : Int)] := owns_base (one_owned w2 (j : Int)) (by omega)
  have hst := hPre.step (base := j) (by rw [hR]; exact hlt) hb2 hM3 (by omega) (Nat.le_refl _) hO (by omega)
  rw [hR, show ((List.range j).map lk0).map rawOf ++ [rawOf (lk0 j)] = ((List.range (j + 1)).map lk0).map rawOf from by rw [List.range_succ]; simp] at hst
  exact ⟨_, hst, (hbw.trans (hb2.mono hbw.size)).trans (below_setCells _ _ _ _ (Nat.le_refl _))⟩

set_option maxRecDepth 20000 in
set_option maxHeartbeats 4000000 in
theorem newChain_ok (n : Nat) (v1 : Value) (gs : List Pm) (w : World) (h1 : 1 ≤ n) (h12 : n ≤ 12) (hP : Packs w v1 gs) (hgs : gs.length ≤ 1000000) (hF : ∀ x, x ∈ gs → Fixes (fun b => n ≤ b) x) :
    Calls Try.prog 86 #[.int .i64 n, v1, .func (.func 85) #[] #[]] w fun e w' => ∃ g C st, e = .returned (.slice (some ⟨g, 0, none⟩) n n) ∧ Chained w' w.heap.size g n (List.range n) C st gs ∧ Below w.heap.size w w' := by
  obtain ⟨i0, hi, hz0, hz1, hz2⟩ := info_parts Try.info122
  obtain ⟨pp, pcap, rfl⟩ := hP.form
  have HP := hide hP
  have HFx := hide hF
  have hmm := @run_makeMap Try.prog
  have hl1 := (1 : Pm).len
  clear hP hF
  go_enter Try.func86, Try.ntmps86
  go_wp2_with (at_make; refine wpList_make_full _ rfl _ _ 98 rfl w.heap.size 122 i0 (.agg #[.int .i64 0, .map none, .slice none 0 0, .slice none 0 0]) 4 Try.underlying98 hi hz0 hz1 _ _ _ _ n rfl rfl (by omega) (by omega) ?b2 ?b3 (Nat.le_refl _) ?_)
  case b2 => rw [hz2]; omega
  case b3 => unfold maxLen; omega
  intro w0 hown0 hgrow0
  have hPre0 : PreAt w0 w.heap.size w.heap.size n (((List.range 0).map lk0).map rawOf) (fun _ => ⟨0, .slice none 0 0, .slice none 0 0⟩) := by
    refine ⟨?_, Nat.le_refl _, fun j r h => by simp at h, fun i j h => by simp at h, fun i j h => by simp at h, fun i j h => by simp at h⟩
    rcases hown0.2 with ⟨h, _⟩ | ⟨g', cap', cur, hv, _, hh, _, _, hs, _⟩
    · cases h
    · injection hv with e1 _ e3
      injection e1 with e1
      injection e1 with e1
      subst e1; subst e3
      exact ⟨cur, hh, by rw [hs, Nat.mul_comm]⟩
  have hB0 : Below w.heap.size w w0 := (Below.refl _ _).grown hgrow0 (Nat.le_refl _) (fun k h => by cases h)
  clear hown0 hgrow0
  go_wp2
  go_loopw [16] (fun i wr => ∃ (j : Nat) (st : Nat → St), j ≤ n ∧ i = .int .i64 j ∧ PreAt wr w.heap.size w.heap.size n (((List.range j).map lk0).map rawOf) st ∧ Below w.heap.size w wr) (fun i _ => n - (intOf i).toNat)
  case atStart => exact ⟨0, _, by omega, rfl, hPre0, hB0⟩
  case round =>
    clear hPre0 hB0
    obtain ⟨j, st, hj, rfl, hPre, hbw⟩ := hrel
    by_cases hlt : j < n
    · have HPre := hide hPre
      have hbs := hbw.size
      have hsw : w.heap.size < wr.heap.size := by obtain ⟨cs, ho, _⟩ := hPre.obj; exact (Array.getElem?_eq_some_iff.1 ho).1
      have hM0 := IMap.made wr
      clear hPre
      go_wp2_with (go_at_call 85; refine (inOrder_ok _ _).mono ?_; rintro e w' ⟨rfl, rfl⟩)
      refine (prounds_ok _).mono ?_
      rintro e w1 ⟨rfl, hb1⟩
      replace hb1 := below_alloc hb1
      have hM1 := hM0.below hb1 (by omega)
      have hb01 : Below wr.heap.size wr w1 := ((Below.refl _ _).alloc (Nat.le_refl _) _).trans (hb1.mono (by omega))
      have hs1 : wr.heap.size < w1.heap.size := by have := hb1.size; simp at this; omega
      clear hM0 hb1
      have hgth : ∀ (W : World) (o : Obj), W.heap[w.heap.size]? = wr.heap[w.heap.size]? → w.heap.size < W.heap.size → (W.alloc o).there w.heap.size (j * 4) 4 := fun W o hW hlt2 => by
        obtain ⟨cs, ho, hos⟩ := HPre.out.obj
        exact there_obj ((Below.heap_alloc W o _ hlt2).trans (hW.trans ho)) hos _ _ (by omega)
      have HG := hide hgth
      have HZL : Hid (0 < maxLen) := by unfold Hid maxLen; omega
      have HJ1 : Hid (-9223372036854775808 ≤ (j : Int)) := by show _ ≤ _; omega
      have HJ2 : Hid ((j : Int) ≤ 9223372036854775807) := by show _ ≤ _; omega
      clear hgth
      go_wp2_with (refine wpList_insert rfl _ _ _ 120 rfl 92 Try.underlying120 hM1 HZL.out (j : Int) (pv 1) rfl rfl rfl HJ1.out HJ2.out ?_)
      intro w2 hM2 hg2
      have hth2 := HG.out w2 (.cells #[.int .i64 (j : Int)] 3) ((hg2.block w.heap.size (by omega) (by intro e; have := Option.some.inj e; omega)).trans (hb01.block w.heap.size hsw)) (by have := hg2.size; omega)
      obtain ⟨x0, d0⟩ := Option.isSome_iff_exists.1 (hth2 0 (by omega)).1
      obtain ⟨x1, d1⟩ := Option.isSome_iff_exists.1 (hth2 1 (by omega)).1
      obtain ⟨x2, d2⟩ := Option.isSome_iff_exists.1 (hth2 2 (by omega)).1
      obtain ⟨x3, d3⟩ := Option.isSome_iff_exists.1 (hth2 3 (by omega)).1
      have f0 := (hth2 0 (by omega)).2
      have f1 := (hth2 1 (by omega)).2
      have f2 := (hth2 2 (by omega)).2
      have f3 := (hth2 3 (by omega)).2
      rw [Nat.add_zero] at d0 f0
      have hLL := link_laid HPre.out hlt hbw hb01 hs1 hM2 hg2
      have HLL := hide hLL
      clear hLL hM2 hg2 hth2 hb01 hM1 HG HZL HJ1 HJ2
      obtain ⟨st', HST, HB3⟩ := HLL.out
      replace HST := hide HST
      replace HB3 := hide HB3
      clear HLL
      go_wp2
      go_roundw
      case rel =>
        have hfin : ∃ (j' : Nat) (st : Nat → St), j' ≤ n ∧ Value.int .i64 ((j : Int) + 1) = .int .i64 (j' : Int) ∧ PreAt ((w2.alloc (.cells #[.int .i64 (j : Int)] 3)).setCells w.heap.size (j * 4) [.int .i64 (j : Int), .map (some wr.heap.size), .slice (some ⟨w2.heap.size, 0, none⟩) 1 1, .slice none 0 0]) w.heap.size w.heap.size n (((List.range j').map lk0).map rawOf) st ∧ Below w.heap.size w ((w2.alloc (.cells #[.int .i64 (j : Int)] 3)).setCells w.heap.size (j * 4) [.int .i64 (j : Int), .map (some wr.heap.size), .slice (some ⟨w2.heap.size, 0, none⟩) 1 1, .slice none 0 0]) :=
          ⟨j + 1, _, by omega, by go_num, HST.out, HB3.out⟩
        first
          | exact hfin
          | ((repeat apply Exists.intro); exact ⟨hfin, rfl⟩)
      case measure => simp [intOf]; omega
    · obtain rfl : j = n := by omega
      have hCh := hPre.all (by simp)
      have HCh := hide hCh
      have HBw := hide hbw
      have hbs := hbw.size
      clear hPre hCh hbw
      obtain ⟨wo, hwo⟩ : ∃ wo : World, wo = wr := ⟨_, rfl⟩
      go_wp2
      go_loopw [36] (fun i wr => ∃ (q : Nat) (C : List Lk) (st : Nat → St), q ≤ gs.length ∧ i = .int .i64 q ∧ C.length = j ∧ Hid (C.map (·.base) = List.range j) ∧ Whole (fun b => j ≤ b) C ∧ Hid (∀ x, Prd C x ↔ Gen (fun y => y ∈ gs.take q) x) ∧ ChainAt wr w.heap.size w.heap.size (C.map rawOf) st ∧ Below w.heap.size w wr ∧ Hid (∀ l, l ∈ C → l.gens.Nodup)) (fun i _ => gs.length - (intOf i).toNat)
      case atStart =>
        refine ⟨0, (List.range j).map lk0, st, by omega, rfl, by simp, ?_, whole_lk0 _ _ (fun b hb => ?_), ?_, HCh.out, HBw.out, ?_⟩
        · show ((List.range j).map lk0).map (·.base) = _
          rw [List.map_map]
          exact List.map_id _
        · rcases Nat.lt_or_ge b j with h | h
          · exact Or.inr (List.mem_range.2 h)
          · exact Or.inl h
        · intro x
          rw [prd_lk0, List.take_zero]
          exact ⟨fun e => by rw [e]; exact Gen.one, gen_none⟩
        · intro l hl
          obtain ⟨b, _, rfl⟩ := List.mem_map.1 hl
          exact List.nodup_nil
      case round =>
        clear hwo
        obtain ⟨q, C, st, hq, rfl, hlen, hbas, hW, hg, hCh, hbw, hnd⟩ := hrel
        by_cases hlt : q < gs.length
        · obtain ⟨s, hs⟩ : ∃ s, gs[q]? = some s := ⟨_, List.getElem?_eq_getElem hlt⟩
          have hfs := HFx.out s (List.mem_of_getElem? hs)
          have hPk := HP.out.below hbw (Nat.le_refl _)
          obtain ⟨b, off, hpp, hrange, hb⟩ : ∃ b off, pp = some ⟨b, off, none⟩ ∧ wr.rangeAt b (off + q * 12) (s.l.map (Value.int .i8)) ∧ gs.length ≤ pcap := by
            rcases hPk with ⟨e, _⟩ | ⟨b, off, cap, hv, _, hc, _, _, hr⟩
            · rw [e] at hlt; simp at hlt
            · injection hv with e1 _ e3
              exact ⟨b, off, e1, hr q s hs, by omega⟩
          have hin : (Try.prog.info? 92).map (·.size) = some (s.l.map (Value.int .i8)).length := by rw [List.length_map, s.len]; exact Try.size92
          have hsl := s.len
          have HS := hide hs
          have HCh := hide hCh
          have HW := hide hW
          have HLen := hide hlen
          have hbs := hbw.size
          subst hpp
          clear hs hPk hCh hW hlen
          go_wp2_with (first
            | refine wpList_load_mid rfl 92 _ rfl b _ rfl _ _ hrange Try.underlying92 rfl hin ?_
            | (refine wpList_store_arr rfl _ _ rfl wr.heap.size zeros12 s.l (zeros_new wr) rfl rfl hsl ?_; intro w6 hX6 hg6)
            | refine wpList_load_arr rfl _ rfl wr.heap.size s.l hX6 rfl ?_)
          have hb6 : Below wr.heap.size wr w6 := ((Below.refl _ _).alloc (Nat.le_refl _) _).grown hg6 (by simp) (fun k h => by have := Option.some.inj h; omega)
          have hC6 := HCh.out.below hb6 (Nat.le_refl _)
          have hbl : ∀ l, l ∈ C → l.base < 12 := fun l hl => by
            have : l.base ∈ List.range j := by rw [← hbas.out]; exact List.mem_map.2 ⟨l, hl, rfl⟩
            have := List.mem_range.1 this
            omega
          have hT := take_all j 0 (by omega) w.heap.size w.heap.size [] C st s (fun b => j ≤ b) w6 rfl (by rw [HLen.out]; omega) h12 hbl hnd.out hC6 HW.out hfs
          have HT := hide hT
          have HB6 := hide hb6
          have HC6 := hide hC6
          clear hT hb6 hC6 hX6 hg6 hrange
          refine HT.out.mono ?_
          rintro e w7 ⟨v, rfl, C', st', hW7, hT7, hC7, hK7, hf7, hn7, hs7⟩
          have hg7 := chained_take HS.out hW7 hg.out hT7
          have hB7 : Below w.heap.size w w7 := (hbw.trans (HB6.out.mono hbw.size)).trans (hK7.toBelow (by have := HB6.out.size; omega) (fun b x hb hf => by have := (foot_lt HC6.out hf).2; omega))
          have HG7 := hide hg7
          clear hg7
          go_wp2
          go_roundw
          case rel =>
            have hfin : ∃ (q' : Nat) (C : List Lk) (st : Nat → St), q' ≤ gs.length ∧ Value.int .i64 ((q : Int) + 1) = .int .i64 (q' : Int) ∧ C.length = j ∧ Hid (C.map (·.base) = List.range j) ∧ Whole (fun b => j ≤ b) C ∧ Hid (∀ x, Prd C x ↔ Gen (fun y => y ∈ gs.take q') x) ∧ ChainAt w7 w.heap.size w.heap.size (C.map rawOf) st ∧ Below w.heap.size w w7 ∧ Hid (∀ l, l ∈ C → l.gens.Nodup) :=
              ⟨q + 1, C', st', by omega, by go_num, hT7.len.trans HLen.out, hT7.bases.trans hbas.out, hW7, HG7, hC7, hB7, hn7⟩
            first
              | exact hfin
              | ((repeat apply Exists.intro); exact ⟨hfin, rfl⟩)
          case measure => simp [intOf]; omega
        · have hgf : ∀ x, Prd C x ↔ Gen (fun y => y ∈ gs) x := fun x => by have := hg.out x; rw [List.take_of_length_le (by omega)] at this; exact this
          have HCd := hide (Chained.mk hlen hbas.out hW hgf hCh hnd.out)
          clear hW hCh hgf hg
          go_wp2
          go_ret
          exact ⟨_, C, st, rfl, HCd.out, hbw⟩
end Go.Proofs.Ytbddhpbeekioiaa
