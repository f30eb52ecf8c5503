/- Joined: NewChainW, RefB, RefC, RefD, GChk, Make, MakeB, Schr, Size, RankInj, PickB, Pick, I6, Raw, RwO, RowsOf, AppM. -/
import Derived.Test.YtahffpgadoiijaaGreatJ3
import Derived.Test.YtahffpgadoiijaaGreatJ1
import Derived.Deep.RegionLaw
import Derived.Deep.RegionWith
import Derived.Test.YtahffpgadoiijaaGreatJ2
import Derived.Test.YtahffpgadoiijaaGreatJ0
import Derived.Laws.OwnMore
/- Contract: newChain, where the bases are in order. -/
namespace Go.Proofs.YtahffpgadoiijaaGreat
open Go.RowKit

theorem Tryz.info99 : (Tryz.prog.info? 99).map (fun i => (i.zero, i.size, i.bytes)) = some (some (.agg #[.int .i64 0, .map none, .slice none 0 0, .slice none 0 0]), 4, 64) := by kernel_rfl

set_option maxHeartbeats 400000 in
theorem inOrder_ok (k : Int) (w : World) : Calls Tryz.prog 67 #[.int .i64 k] w fun e w' => e = .returned (.int .i64 k) ∧ w = w' := by
  go_enter Tryz.func67, Tryz.ntmps67
  go_wp2
  go_ret
  exact ⟨rfl, rfl⟩

/-- A chain that holds just what rows make. -/
structure Chained (w : World) (B g n : Nat) (bs : List Nat) (C : List Lk) (st : Nat → St) (gs : List Pm) : Prop where
  len : C.length = n
  bases : C.map (·.base) = bs
  whole : Whole (fun b => n ≤ b) C
  gen : ∀ x, Prd C x ↔ Gen (fun y => y ∈ gs) x
  chain : ChainAt w B g (C.map rawOf) st
  nd : ∀ l, l ∈ C → l.gens.Nodup

theorem Packs.form {w : World} {v : Value} {gs : List Pm} (h : Packs w v gs) : ∃ p cap, v = .slice p gs.length cap := by
  rcases h with ⟨rfl, p, c, rfl⟩ | ⟨b, off, cap, h1, _⟩
  · exact ⟨p, c, rfl⟩
  · exact ⟨_, cap, h1⟩

theorem chained_take {gs : List Pm} {C C' : List Lk} {q : Nat} {s : Pm} {F : Nat → Prop} (hs : gs[q]? = some s) (hW' : Whole F C') (hg : ∀ x, Prd C x ↔ Gen (fun y => y ∈ gs.take q) x) (ht : Took C C' s) : ∀ x, Prd C' x ↔ Gen (fun y => y ∈ gs.take (q + 1)) x := by
  have e : gs.take (q + 1) = gs.take q ++ [s] := by rw [List.take_add_one, hs]; rfl
  intro x
  constructor
  · refine ht.least _ (Gen.sub _) (fun y hy => ((hg y).1 hy).mono (fun z hz => ?_)) (Gen.of ?_) x
    · rw [e]; exact List.mem_append_left _ hz
    · rw [e]; simp
  · intro hx
    refine hx.least (prd_sub hW') (fun y hy => ?_)
    have hy : y ∈ gs.take (q + 1) := hy
    rw [e] at hy
    rcases List.mem_append.1 hy with hy | hy
    · exact ht.grow y ((hg y).2 (Gen.of hy))
    · rw [List.mem_singleton.1 hy]; exact ht.there

theorem below_setCells (b : Nat) (vs : List Value) (o : Nat) (w : World) {B : Nat} (hB : B ≤ b) : Below B w (w.setCells b o vs) := by
  induction vs generalizing o w with
  | nil => exact Below.refl _ _
  | cons v r ih =>
    rw [World.setCells]
    exact ((Below.refl _ _).setCell (p := ⟨b, o, none⟩) hB v).trans (ih (o + 1) _)

theorem tabF_one (j : Nat) : upd (fun _ => none) (j : Int) (pv 1) = tabF [(j, (1 : Pm))] := by
  have h := tabF_snoc (tab := []) (b := j) 1 rfl
  rw [List.nil_append] at h
  rw [← h]
  congr 1
  funext a
  unfold tabF
  split <;> rfl

theorem link_laid {w wr w1 w2 : World} {n j : Nat} {st : Nat → St} (hPre : PreAt wr w.heap.size w.heap.size n (((List.range j).map lk0).map rawOf) st) (hlt : j < n) (hbw : Below w.heap.size w wr) (hb01 : Below wr.heap.size wr w1) (hs1 : wr.heap.size < w1.heap.size)
    (hM2 : IMap w2 wr.heap.size (0 + 1) (upd (fun _ => none) (j : Int) (pv 1))) (hg2 : w1.grownBy w2 (some wr.heap.size)) :
    ∃ st', PreAt ((w2.alloc (.cells #[.int .i64 (j : Int)] 3)).setCells w.heap.size (j * 4) [.int .i64 (j : Int), .map (some wr.heap.size), .slice (some ⟨w2.heap.size, 0, none⟩) 1 1, .slice none 0 0]) w.heap.size w.heap.size n (((List.range (j + 1)).map lk0).map rawOf) st' ∧ Below w.heap.size w ((w2.alloc (.cells #[.int .i64 (j : Int)] 3)).setCells w.heap.size (j * 4) [.int .i64 (j : Int), .map (some wr.heap.size), .slice (some ⟨w2.heap.size, 0, none⟩) 1 1, .slice none 0 0]) := by
  have hR : (((List.range j).map lk0).map rawOf).length = j := by simp
  have hs2 := hg2.size
  have hbs := hbw.size
  have hb2 : Below wr.heap.size wr (w2.alloc (.cells #[.int .i64 (j : Int)] 3)) := (hb01.grown hg2 hb01.size (fun k h => by have := Option.some.inj h; omega)).alloc (by omega) _
  have hM3 := hM2.alloc (.cells #[.int .i64 (j : Int)] 3)
  rw [tabF_one] at hM3
  have hO : (w2.alloc (.cells #[.int .i64 (j : Int)] 3)).ownsRow w.heap.size 3 1 (.slice (some ⟨w2.heap.size, 0, none⟩) 1 1) 1 [.int .i64 (j : Int)] := owns_base (one_owned w2 (j : Int)) (by omega)
  have hst := hPre.step (base := j) (by rw [hR]; exact hlt) hb2 hM3 (by omega) (Nat.le_refl _) hO (by omega)
  rw [hR, show ((List.range j).map lk0).map rawOf ++ [rawOf (lk0 j)] = ((List.range (j + 1)).map lk0).map rawOf from by rw [List.range_succ]; simp] at hst
  exact ⟨_, hst, (hbw.trans (hb2.mono hbw.size)).trans (below_setCells _ _ _ _ (Nat.le_refl _))⟩

set_option maxRecDepth 20000 in
set_option maxHeartbeats 4000000 in
theorem newChain_ok (n : Nat) (v1 : Value) (gs : List Pm) (w : World) (h1 : 1 ≤ n) (h12 : n ≤ 12) (hP : Packs w v1 gs) (hgs : gs.length ≤ 8916100448256) (hF : ∀ x, x ∈ gs → Fixes (fun b => n ≤ b) x) :
    Calls Tryz.prog 68 #[.int .i64 n, v1, .func (.func 67) #[] #[]] w fun e w' => ∃ g C st, e = .returned (.slice (some ⟨g, 0, none⟩) n n) ∧ Chained w' w.heap.size g n (List.range n) C st gs ∧ Below w.heap.size w w' := by
  obtain ⟨i0, hi, hz0, hz1, hz2⟩ := info_parts Tryz.info99
  obtain ⟨pp, pcap, rfl⟩ := hP.form
  have HP := hide hP
  have HFx := hide hF
  have hmm := @run_makeMap Tryz.prog
  have hl1 := (1 : Pm).len
  clear hP hF
  go_enter Tryz.func68, Tryz.ntmps68
  go_wp2_with (at_make; refine wpList_make_full _ rfl _ _ 83 rfl w.heap.size 99 i0 (.agg #[.int .i64 0, .map none, .slice none 0 0, .slice none 0 0]) 4 Tryz.underlying83 hi hz0 hz1 _ _ _ _ n rfl rfl (by omega) (by omega) ?b2 ?b3 (Nat.le_refl _) ?_)
  case b2 => rw [hz2]; omega
  case b3 => unfold maxLen; omega
  intro w0 hown0 hgrow0
  have hPre0 : PreAt w0 w.heap.size w.heap.size n (((List.range 0).map lk0).map rawOf) (fun _ => ⟨0, .slice none 0 0, .slice none 0 0⟩) := by
    refine ⟨?_, Nat.le_refl _, fun j r h => by simp at h, fun i j h => by simp at h, fun i j h => by simp at h, fun i j h => by simp at h⟩
    rcases hown0.2 with ⟨h, _⟩ | ⟨g', cap', cur, hv, _, hh, _, _, hs, _⟩
    · cases h
    · injection hv with e1 _ e3
      injection e1 with e1
      injection e1 with e1
      subst e1; subst e3
      exact ⟨cur, hh, by rw [hs, Nat.mul_comm]⟩
  have hB0 : Below w.heap.size w w0 := (Below.refl _ _).grown hgrow0 (Nat.le_refl _) (fun k h => by cases h)
  clear hown0 hgrow0
  go_wp2
  go_loopw [16] (fun i wr => ∃ (j : Nat) (st : Nat → St), j ≤ n ∧ i = .int .i64 j ∧ PreAt wr w.heap.size w.heap.size n (((List.range j).map lk0).map rawOf) st ∧ Below w.heap.size w wr) (fun i _ => n - (intOf i).toNat)
  case atStart => exact ⟨0, _, by omega, rfl, hPre0, hB0⟩
  case round =>
    clear hPre0 hB0
    obtain ⟨j, st, hj, rfl, hPre, hbw⟩ := hrel
    by_cases hlt : j < n
    · have HPre := hide hPre
      have hbs := hbw.size
      have hsw : w.heap.size < wr.heap.size := by obtain ⟨cs, ho, _⟩ := hPre.obj; exact (Array.getElem?_eq_some_iff.1 ho).1
      have hM0 := IMap.made wr
      clear hPre
      go_wp2_with (go_at_call 67; refine (inOrder_ok _ _).mono ?_; rintro e w' ⟨rfl, rfl⟩)
      refine (prounds_ok _).mono ?_
      rintro e w1 ⟨rfl, hb1⟩
      replace hb1 := below_alloc hb1
      have hM1 := hM0.below hb1 (by omega)
      have hb01 : Below wr.heap.size wr w1 := ((Below.refl _ _).alloc (Nat.le_refl _) _).trans (hb1.mono (by omega))
      have hs1 : wr.heap.size < w1.heap.size := by have := hb1.size; simp at this; omega
      clear hM0 hb1
      have hgth : ∀ (W : World) (o : Obj), W.heap[w.heap.size]? = wr.heap[w.heap.size]? → w.heap.size < W.heap.size → (W.alloc o).there w.heap.size (j * 4) 4 := fun W o hW hlt2 => by
        obtain ⟨cs, ho, hos⟩ := HPre.out.obj
        exact there_obj ((Below.heap_alloc W o _ hlt2).trans (hW.trans ho)) hos _ _ (by omega)
      have HG := hide hgth
      have HZL : Hid (0 < maxLen) := by unfold Hid maxLen; omega
      have HJ1 : Hid (-9223372036854775808 ≤ (j : Int)) := by show _ ≤ _; omega
      have HJ2 : Hid ((j : Int) ≤ 9223372036854775807) := by show _ ≤ _; omega
      clear hgth
      go_wp2_with (refine wpList_insert rfl _ _ _ 97 rfl 78 Tryz.underlying97 hM1 HZL.out (j : Int) (pv 1) rfl rfl rfl HJ1.out HJ2.out ?_)
      intro w2 hM2 hg2
      have hth2 := HG.out w2 (.cells #[.int .i64 (j : Int)] 3) ((hg2.block w.heap.size (by omega) (by intro e; have := Option.some.inj e; omega)).trans (hb01.block w.heap.size hsw)) (by have := hg2.size; omega)
      obtain ⟨x0, d0⟩ := Option.isSome_iff_exists.1 (hth2 0 (by omega)).1
      obtain ⟨x1, d1⟩ := Option.isSome_iff_exists.1 (hth2 1 (by omega)).1
      obtain ⟨x2, d2⟩ := Option.isSome_iff_exists.1 (hth2 2 (by omega)).1
      obtain ⟨x3, d3⟩ := Option.isSome_iff_exists.1 (hth2 3 (by omega)).1
      have f0 := (hth2 0 (by omega)).2
      have f1 := (hth2 1 (by omega)).2
      have f2 := (hth2 2 (by omega)).2
      have f3 := (hth2 3 (by omega)).2
      rw [Nat.add_zero] at d0 f0
      have hLL := link_laid HPre.out hlt hbw hb01 hs1 hM2 hg2
      have HLL := hide hLL
      clear hLL hM2 hg2 hth2 hb01 hM1 HG HZL HJ1 HJ2
      obtain ⟨st', HST, HB3⟩ := HLL.out
      replace HST := hide HST
      replace HB3 := hide HB3
      clear HLL
      go_wp2
      go_roundw
      case rel =>
        have hfin : ∃ (j' : Nat) (st : Nat → St), j' ≤ n ∧ Value.int .i64 ((j : Int) + 1) = .int .i64 (j' : Int) ∧ PreAt ((w2.alloc (.cells #[.int .i64 (j : Int)] 3)).setCells w.heap.size (j * 4) [.int .i64 (j : Int), .map (some wr.heap.size), .slice (some ⟨w2.heap.size, 0, none⟩) 1 1, .slice none 0 0]) w.heap.size w.heap.size n (((List.range j').map lk0).map rawOf) st ∧ Below w.heap.size w ((w2.alloc (.cells #[.int .i64 (j : Int)] 3)).setCells w.heap.size (j * 4) [.int .i64 (j : Int), .map (some wr.heap.size), .slice (some ⟨w2.heap.size, 0, none⟩) 1 1, .slice none 0 0]) :=
          ⟨j + 1, _, by omega, by go_num, HST.out, HB3.out⟩
        first
          | exact hfin
          | ((repeat apply Exists.intro); exact ⟨hfin, rfl⟩)
      case measure => simp [intOf]; omega
    · obtain rfl : j = n := by omega
      have hCh := hPre.all (by simp)
      have HCh := hide hCh
      have HBw := hide hbw
      have hbs := hbw.size
      clear hPre hCh hbw
      obtain ⟨wo, hwo⟩ : ∃ wo : World, wo = wr := ⟨_, rfl⟩
      go_wp2
      go_loopw [36] (fun i wr => ∃ (q : Nat) (C : List Lk) (st : Nat → St), q ≤ gs.length ∧ i = .int .i64 q ∧ C.length = j ∧ Hid (C.map (·.base) = List.range j) ∧ Whole (fun b => j ≤ b) C ∧ Hid (∀ x, Prd C x ↔ Gen (fun y => y ∈ gs.take q) x) ∧ ChainAt wr w.heap.size w.heap.size (C.map rawOf) st ∧ Below w.heap.size w wr ∧ Hid (∀ l, l ∈ C → l.gens.Nodup)) (fun i _ => gs.length - (intOf i).toNat)
      case atStart =>
        refine ⟨0, (List.range j).map lk0, st, by omega, rfl, by simp, ?_, whole_lk0 _ _ (fun b hb => ?_), ?_, HCh.out, HBw.out, ?_⟩
        · show ((List.range j).map lk0).map (·.base) = _
          rw [List.map_map]
          exact List.map_id _
        · rcases Nat.lt_or_ge b j with h | h
          · exact Or.inr (List.mem_range.2 h)
          · exact Or.inl h
        · intro x
          rw [prd_lk0, List.take_zero]
          exact ⟨fun e => by rw [e]; exact Gen.one, gen_none⟩
        · intro l hl
          obtain ⟨b, _, rfl⟩ := List.mem_map.1 hl
          exact List.nodup_nil
      case round =>
        clear hwo
        obtain ⟨q, C, st, hq, rfl, hlen, hbas, hW, hg, hCh, hbw, hnd⟩ := hrel
        by_cases hlt : q < gs.length
        · obtain ⟨s, hs⟩ : ∃ s, gs[q]? = some s := ⟨_, List.getElem?_eq_getElem hlt⟩
          have hfs := HFx.out s (List.mem_of_getElem? hs)
          have hPk := HP.out.below hbw (Nat.le_refl _)
          obtain ⟨b, off, hpp, hrange, hb⟩ : ∃ b off, pp = some ⟨b, off, none⟩ ∧ wr.rangeAt b (off + q * 12) (s.l.map (Value.int .i8)) ∧ gs.length ≤ pcap := by
            rcases hPk with ⟨e, _⟩ | ⟨b, off, cap, hv, _, hc, _, _, hr⟩
            · rw [e] at hlt; simp at hlt
            · injection hv with e1 _ e3
              exact ⟨b, off, e1, hr q s hs, by omega⟩
          have hin : (Tryz.prog.info? 78).map (·.size) = some (s.l.map (Value.int .i8)).length := by rw [List.length_map, s.len]; exact Tryz.size78
          have hsl := s.len
          have HS := hide hs
          have HCh := hide hCh
          have HW := hide hW
          have HLen := hide hlen
          have hbs := hbw.size
          subst hpp
          clear hs hPk hCh hW hlen
          go_wp2_with (first
            | refine wpList_load_mid rfl 78 _ rfl b _ rfl _ _ hrange Tryz.underlying78 rfl hin ?_
            | (refine wpList_store_arr rfl _ _ rfl wr.heap.size zeros12 s.l (zeros_new wr) rfl rfl hsl ?_; intro w6 hX6 hg6)
            | refine wpList_load_arr rfl _ rfl wr.heap.size s.l hX6 rfl ?_)
          have hb6 : Below wr.heap.size wr w6 := ((Below.refl _ _).alloc (Nat.le_refl _) _).grown hg6 (by simp) (fun k h => by have := Option.some.inj h; omega)
          have hC6 := HCh.out.below hb6 (Nat.le_refl _)
          have hbl : ∀ l, l ∈ C → l.base < 12 := fun l hl => by
            have : l.base ∈ List.range j := by rw [← hbas.out]; exact List.mem_map.2 ⟨l, hl, rfl⟩
            have := List.mem_range.1 this
            omega
          have hT := take_all j 0 (by omega) w.heap.size w.heap.size [] C st s (fun b => j ≤ b) w6 rfl (by rw [HLen.out]; omega) h12 hbl hnd.out hC6 HW.out hfs
          have HT := hide hT
          have HB6 := hide hb6
          have HC6 := hide hC6
          clear hT hb6 hC6 hX6 hg6 hrange
          refine HT.out.mono ?_
          rintro e w7 ⟨v, rfl, C', st', hW7, hT7, hC7, hK7, hf7, hn7, hs7⟩
          have hg7 := chained_take HS.out hW7 hg.out hT7
          have hB7 : Below w.heap.size w w7 := (hbw.trans (HB6.out.mono hbw.size)).trans (hK7.toBelow (by have := HB6.out.size; omega) (fun b x hb hf => by have := (foot_lt HC6.out hf).2; omega))
          have HG7 := hide hg7
          clear hg7
          go_wp2
          go_roundw
          case rel =>
            have hfin : ∃ (q' : Nat) (C : List Lk) (st : Nat → St), q' ≤ gs.length ∧ Value.int .i64 ((q : Int) + 1) = .int .i64 (q' : Int) ∧ C.length = j ∧ Hid (C.map (·.base) = List.range j) ∧ Whole (fun b => j ≤ b) C ∧ Hid (∀ x, Prd C x ↔ Gen (fun y => y ∈ gs.take q') x) ∧ ChainAt w7 w.heap.size w.heap.size (C.map rawOf) st ∧ Below w.heap.size w w7 ∧ Hid (∀ l, l ∈ C → l.gens.Nodup) :=
              ⟨q + 1, C', st', by omega, by go_num, hT7.len.trans HLen.out, hT7.bases.trans hbas.out, hW7, HG7, hC7, hB7, hn7⟩
            first
              | exact hfin
              | ((repeat apply Exists.intro); exact ⟨hfin, rfl⟩)
          case measure => simp [intOf]; omega
        · have hgf : ∀ x, Prd C x ↔ Gen (fun y => y ∈ gs) x := fun x => by have := hg.out x; rw [List.take_of_length_le (by omega)] at this; exact this
          have HCd := hide (Chained.mk hlen hbas.out hW hgf hCh hnd.out)
          clear hW hCh hgf hg
          go_wp2
          go_ret
          exact ⟨_, C, st, rfl, HCd.out, hbw⟩
end Go.Proofs.YtahffpgadoiijaaGreat

/- Contracts of the answer's functions: BellOf, SignOf, Text, ReadRow. -/
namespace Go.Proofs.YtahffpgadoiijaaGreat
open Go.RowKit
set_option maxRecDepth 20000

theorem bl_none {b : UInt8} (h : ¬ bl b < 12) {m : Nat} (hm : m < 12) : sg m ≠ b.toNat := fun e => h (by rw [bl_of hm e]; exact hm)

theorem slice_sign (m : Nat) (hm : m < 12) (w : World) : (Instr.slice 9 (.string { data := #[49, 50, 51, 52, 53, 54, 55, 56, 57, 48, 69, 84] }) (some (.int .i64 (m : Int))) (some (.int .i64 ((m : Int) + 1))) none).run Tryz.prog w = .ok (.string (strOfNums [((sg m : Nat) : Int)])) w := by
  match m, hm with
  | 0, _ | 1, _ | 2, _ | 3, _ | 4, _ | 5, _ | 6, _ | 7, _ | 8, _ | 9, _ | 10, _ | 11, _ => rfl

theorem str_append (xs ys : List Int) : strOfNums xs ++ strOfNums ys = strOfNums (xs ++ ys) := by
  apply ByteArray.ext
  rw [ByteArray.data_append]
  simp [strOfNums]

/-- A byte of a text, as the index gives it. -/
theorem index_byte (s : ByteArray) (k : Nat) (hk : k < s.size) (w : World) : (Instr.index 9 (.string s) (.int .i64 (k : Int))).run Tryz.prog w = .ok (.int .u8 (((s[k]'hk).toNat : Nat) : Int)) w := by
  rw [run_index_string w 9 _ .i64 (k : Int) Tryz.underlying9, dif_pos ⟨by omega, by omega⟩]
  rfl

end Go.Proofs.YtahffpgadoiijaaGreat

/- Contracts of the answer's functions: Rank, At. -/
namespace Go.Proofs.YtahffpgadoiijaaGreat
open Go.RowKit
set_option maxRecDepth 20000

theorem cnt_append (x : Int) (l m : List Int) : cnt x (l ++ m) = cnt x l + cnt x m := by
  unfold cnt; rw [List.filter_append, List.length_append]

theorem cnt_rnd {n m : Nat} (h : m ≤ n) : cnt (m : Int) (rnd n) = m := by
  induction n with
  | zero => have : m = 0 := by omega
            subst this; rfl
  | succ n ih =>
    rw [rnd_snoc, cnt_append]
    by_cases e : m ≤ n
    · rw [ih e, show cnt (m : Int) [(n : Int)] = 0 from by unfold cnt; rw [List.filter_eq_nil_iff.2 (fun y hy => by have := List.mem_singleton.1 hy; subst this; simp; omega)]; rfl]; rfl
    · have e2 : m = n + 1 := by omega
      subst e2
      have h1 : cnt ((n + 1 : Nat) : Int) (rnd n) = n := by
        unfold cnt
        rw [List.filter_eq_self.2 (fun y hy => by
          obtain ⟨i, hi, rfl⟩ := List.mem_map.1 hy
          have := List.mem_range.1 hi
          simp; omega), rnd_length]
      have h2 : cnt ((n + 1 : Nat) : Int) [(n : Int)] = 1 := by
        unfold cnt
        rw [List.filter_eq_self.2 (fun y hy => by have := List.mem_singleton.1 hy; subst this; simp; omega)]; rfl
      rw [h1, h2]

theorem row_perm_rnd {a : List Int} (h : isRow a) : a.Perm (rnd a.length) :=
  perm_of_sub a (rnd a.length) h.2 (fun x hx => by have := h.1 x hx; exact List.mem_map.2 ⟨x.toNat, List.mem_range.2 (by omega), by omega⟩) (rnd_length _).symm

/-- Of a row: the lower ones ahead of a place, and behind it. -/
theorem cnt_split {a : List Int} (h : isRow a) {i m : Nat} (hi : i < a.length) (hm : a[i]?.getD 0 = (m : Int)) : cnt (m : Int) (a.take i) + cnt (m : Int) (a.drop (i + 1)) = m := by
  have hml : m < a.length := by
    have := h.at hi
    rw [show a.getD i 0 = (m : Int) from hm] at this
    omega
  have h1 : cnt (m : Int) a = m := by rw [cnt_perm (row_perm_rnd h), cnt_rnd (by omega)]
  have e : a = a.take i ++ ((m : Int) :: a.drop (i + 1)) := by
    have e2 : a[i] = (m : Int) := by rw [← hm]; simp [List.getElem?_eq_getElem hi]
    rw [← e2, ← List.drop_eq_getElem_cons hi, List.take_append_drop]
  rw [e, cnt_append] at h1
  have h2 : cnt (m : Int) ((m : Int) :: a.drop (i + 1)) = cnt (m : Int) (a.drop (i + 1)) := by
    unfold cnt; rw [List.filter_cons_of_neg (by simp)]
  rw [h2] at h1
  exact h1

theorem rankR_drop {a : List Int} {i m : Nat} (hi : i < a.length) (hm : a[i]?.getD 0 = (m : Int)) : rankR (a.drop i) = cnt (m : Int) (a.drop (i + 1)) * fct (a.length - 1 - i) + rankR (a.drop (i + 1)) := by
  have e2 : a[i] = (m : Int) := by rw [← hm]; simp [List.getElem?_eq_getElem hi]
  rw [List.drop_eq_getElem_cons hi, e2]
  show cnt (m : Int) (a.drop (i + 1)) * fct (a.drop (i + 1)).length + rankR (a.drop (i + 1)) = _
  rw [List.length_drop, show a.length - (i + 1) = a.length - 1 - i from by omega]

theorem rankR_le (a : List Int) (h : a.length ≤ 12) : rankR a ≤ 479001600 := by
  rw [← rkTo_all]; exact rkTo_le a a.length (Nat.le_refl _) h

set_option maxRecDepth 20000 in
set_option maxHeartbeats 2000000 in
theorem rrank_ok (v1 : Value) (a : List Int) (w : World) (i1 : Ints w v1 a) (r1 : isRow a) (n1 : 1 ≤ a.length) (n2 : a.length ≤ 12) :
    Calls Tryz.prog 31 #[v1] w fun e w' => e = .returned (.int .i64 (rkTo a a.length)) ∧ Below w.heap.size w w' := by
  have R1 := hide r1
  have hrl := rankR_le a n2
  rw [rkTo_all]
  rcases i1 with ⟨rfl, p, c, rfl⟩ | ⟨b1, o1, cap1, rfl, h01, hcp1, hm1, hb1, hcell1⟩
  · simp at n1
  have HC := hide hcell1
  clear r1 hcell1
  go_enter Tryz.func31, Tryz.ntmps31
  go_wp2
  go_loopw [3, 4] (fun sk si wr => ∃ i kk : Nat, i ≤ a.length ∧ si = .int .i64 i ∧ sk = .int .i64 kk ∧ Hid (kk + rankR (a.drop i) = rankR a) ∧ Below w.heap.size w wr) (fun _ si _ => a.length - (intOf si).toNat)
  case atStart => exact ⟨0, 0, by omega, rfl, rfl, by show 0 + rankR (a.drop 0) = _; rw [Nat.zero_add]; rfl, Below.refl _ _⟩
  case round =>
    obtain ⟨i, kk, hi, rfl, rfl, hkk, hbw⟩ := hrel
    by_cases hlt : i < a.length
    · obtain ⟨p, hp, hcp⟩ := cellAt HC.out hlt
      have hpr := R1.out.at hlt
      rw [show a.getD i 0 = p from hp.out] at hpr
      obtain ⟨m, rfl⟩ := Int.eq_ofNat_of_zero_le hpr.1
      have hm12 : m < 12 := by have := hpr.2; omega
      have gp : wr.cell? ⟨b1, o1 + i, none⟩ = some (.int .i64 (m : Int)) := (hbw.cell (by exact hb1)).trans hcp
      clear hpr hcp
      obtain ⟨wo, hwo⟩ : ∃ wo : World, wo = wr := ⟨_, rfl⟩
      go_wp2
      go_loopw [5, 6] (fun sl sj wr => ∃ j : Nat, j ≤ i ∧ sj = .int .i64 j ∧ sl = .int .i64 ((m : Int) - (cnt (m : Int) (a.take j) : Nat)) ∧ Below w.heap.size w wr) (fun _ sj _ => i - (intOf sj).toNat)
      case atStart => exact ⟨0, by omega, rfl, by simp [cnt], hbw⟩
      case round =>
        clear gp hwo hbw
        obtain ⟨j, hj, rfl, rfl, hbw⟩ := hrel
        have hcl := cnt_le (m : Int) (a.take j)
        have hcl2 : (a.take j).length ≤ j := List.length_take_le _ _
        by_cases hji : j < i
        · have hja : j < a.length := by omega
          obtain ⟨q, hq, hcq⟩ := cellAt HC.out hja
          obtain ⟨p2, hp2, hcp2⟩ := cellAt HC.out hlt
          have hpm : p2 = (m : Int) := hp2.out.symm.trans hp.out
          rw [hpm] at hcp2
          have g1 : wr.cell? ⟨b1, o1 + j, none⟩ = some (.int .i64 q) := (hbw.cell (by exact hb1)).trans hcq
          have g2 : wr.cell? ⟨b1, o1 + i, none⟩ = some (.int .i64 (m : Int)) := (hbw.cell (by exact hb1)).trans hcp2
          have HS : Hid (cnt (m : Int) (a.take (j + 1)) = cnt (m : Int) (a.take j) + if q < (m : Int) then 1 else 0) := by show _ = _; rw [take_snoc a j hja, hq.out]; exact cnt_snoc _ _ _
          clear hcq hcp2 hpm hp2
          by_cases hqm : q < (m : Int)
          · go_wp2
            go_region
            all_goals
              go_wp2
              go_roundw
              case rel => exact ⟨j + 1, by omega, by go_num, by rw [HS.out, if_pos hqm]; go_num, by first | exact hbw | exact hbw.drew | exact hbw.drew.drew⟩
              case measure => simp [intOf]; omega
          · go_wp2
            go_region
            all_goals
              go_wp2
              go_roundw
              case rel => exact ⟨j + 1, by omega, by go_num, by rw [HS.out, if_neg (by omega)]; go_num, by first | exact hbw | exact hbw.drew | exact hbw.drew.drew⟩
              case measure => simp [intOf]; omega
        · obtain rfl : j = i := by omega
          have hsp := cnt_split R1.out hlt hp.out
          have hrd := rankR_drop hlt hp.out
          generalize hdd : cnt (m : Int) (a.drop (j + 1)) = d at *
          have hfl := fct_le (n := a.length - 1 - j) (by omega)
          have hmul : Hid (kk + d * fct (a.length - 1 - j) + rankR (a.drop (j + 1)) = rankR a) := by have := hkk.out; show _ = _; omega
          have hmb : ((d : Int)) * ((fct (a.length - 1 - j) : Nat) : Int) ≤ 479001600 := by
            have h1 := hmul.out
            rw [← Int.natCast_mul]; omega
          have hmb0 : 0 ≤ ((d : Int)) * ((fct (a.length - 1 - j) : Nat) : Int) := by rw [← Int.natCast_mul]; omega
          have hkb : kk ≤ 479001600 := by have := hmul.out; omega
          have hmd : (m : Int) - ((cnt (m : Int) (a.take j) : Nat) : Int) = (d : Int) := by omega
          rw [hmd]
          have HF := hide (factorial_any (a.length - 1 - j) wr (by omega))
          have earg : ((a.length : Int) - 1 - (j : Int)) = ((a.length - 1 - j : Nat) : Int) := by omega
          have HEA := hide earg
          have HK : Hid (((kk : Int)) + (d : Int) * ((fct (a.length - 1 - j) : Nat) : Int) = ((kk + d * fct (a.length - 1 - j) : Nat) : Int)) := by show _ = _; rw [Int.natCast_add, Int.natCast_mul]
          clear hsp hrd hdd hkk hmd hcl hcl2 earg
          go_wp2_with fail
          rw [HEA.out]
          refine HF.out.mono ?_
          rintro e w1 ⟨rfl, rfl⟩
          go_wp2
          go_roundw
          case rel => exact ⟨j + 1, _, by omega, by go_num, by rw [HK.out], hmul, hbw⟩
          case measure => simp [intOf]; omega
    · obtain rfl : i = a.length := by omega
      have HE : Hid (kk = rankR a) := by have := hkk.out; rw [List.drop_length] at this; exact this
      go_wp2
      go_ret
      exact ⟨ret_int (by rw [HE.out]), hbw⟩

/-- 'append' to a row of the call's own, as one step of a region that draws. -/
theorem step_append_own {P : Program} {ops : Array Oper} {o : Oper} {a : Act} {w : World} {K : Act → World → Prop} {Q : Exit → Act → World → Prop} {E : Prop} (hg : o.guard = none) (s x : Operand) (t : TypeId)
    (ho : o.op = .call { callee := .builtin .append, args := #[s, x], argTypes := #[t, t] })
    (base : Nat) (e : TypeId) (i : TypeInfo) (z : Value) (size bytes : Nat) (ht : P.underlying t = some (.slice e)) (hi : P.info? e = some i) (hz : i.zero = some z)
    (hsize : i.size = size) (hby : i.bytes = bytes) (hzs : z.cells.size = size) (hsz : 0 < size)
    (v : Value) (n : Nat) (xs : List Value) (hs : a.eval s = v) (hown : w.ownsRow base e size v n xs)
    (ad : Addr) (m c : Nat) (news : List Value) (hx : a.eval x = .slice (some ad) m c) (hl : news.length = m * size) (hnews : ∀ j u, news[j]? = some u → w.cell? (ad.add j) = some u) (h1 : ∀ u ∈ news, u.oneCell' = true)
    (h63 : n + m ≤ maxLen) (hbytes : (n + m) * bytes ≤ 140737488355328) (hbase : base ≤ w.heap.size)
    (h : ∀ v' w', w'.ownsRow base e size v' (n + m) (xs ++ news) → w.grownBy w' v.ownBlock → K (a.put o.dst v') w') :
    if Region.wanted o (yielded ops a.tmps) = true then Oper.wp P o a w K Q else E := by
  have hw : Region.wanted o (yielded ops a.tmps) = true := by simp [Region.wanted, hg]
  rw [if_pos hw]
  exact wp_append_own w s x t ho base e i z size bytes ht hi hz hsize hby hzs hsz v n xs hs hown ad m c news hx hl hnews h1 h63 hbytes hbase (fun v' w' h2 h3 _ => h v' w' h2 h3)

theorem own_at {w : World} {base e g n cap : Nat} {xs : List Value} (h : w.ownsRow base e 1 (.slice (some ⟨g, 0, none⟩) n cap) n xs) (w4 : World) (hw : w4.heap[g]? = w.heap[g]?) {j : Nat} {u : Value} (hu : xs[j]? = some u) : w4.cell? ⟨g, j, none⟩ = some u := by
  have h1 := h.cells (g := g) rfl j u hu
  rw [Addr.add_lit, Nat.zero_add] at h1
  rw [World.cell?_of_block (w := w) (a := ⟨g, j, none⟩) hw]
  exact h1

theorem own_ne {u v : Option Nat} {B : Nat} (hu : ∀ k, u = some k → k < B) (hv : ∀ k, v = some k → B ≤ k) : u = none ∨ u ≠ v := by
  cases u with
  | none => exact Or.inl rfl
  | some k =>
    refine Or.inr (fun e => ?_)
    have h1 := hu k rfl
    have h2 := hv k e.symm
    omega

theorem first_at {w : World} {base g n cap q : Nat} {L : List Int} (h : w.ownsRow base 3 1 (.slice (some ⟨g, 0, none⟩) n cap) n (L.map (Value.int .i64))) (w4 : World) (hw : w4.heap[g]? = w.heap[g]?) :
    ∀ j u, ((L.take q).map (Value.int .i64))[j]? = some u → w4.cell? ((⟨g, 0, none⟩ : Addr).add j) = some u := by
  intro j u hu
  rw [Addr.add_lit, Nat.zero_add]
  refine own_at h w4 hw ?_
  rw [List.map_take, List.getElem?_take] at hu
  split at hu
  · exact hu
  · cases hu

theorem rest_at {w : World} {base g n cap q : Nat} {L : List Int} (h : w.ownsRow base 3 1 (.slice (some ⟨g, 0, none⟩) n cap) n (L.map (Value.int .i64))) (hl : L.length = n) (hc : n ≤ cap) :
    ∃ A : Addr, (if cap = q + 1 then some (⟨g, 0, none⟩ : Addr) else some ⟨g, q + 1, none⟩) = some A ∧ Hid (∀ j u, ((L.drop (q + 1)).map (Value.int .i64))[j]? = some u → ∀ w4 : World, w4.heap[g]? = w.heap[g]? → w4.cell? (A.add j) = some u) := by
  by_cases e : cap = q + 1
  · refine ⟨⟨g, 0, none⟩, by simp [e], fun j u hu w4 _ => ?_⟩
    rw [List.drop_eq_nil_of_le (by omega)] at hu
    simp at hu
  · refine ⟨⟨g, q + 1, none⟩, by simp [e], fun j u hu w4 hw => ?_⟩
    rw [Addr.add_lit]
    refine own_at h w4 hw ?_
    rw [List.map_drop, List.getElem?_drop] at hu
    exact hu

set_option maxRecDepth 20000 in
set_option maxHeartbeats 4000000 in
theorem rat_own (n k : Nat) (w : World) (h2 : n ≤ 12) (hk : k < fct n) :
    Calls Tryz.prog 46 #[.int .i64 n, .int .i64 k] w fun e w' => ∃ v, e = .returned v ∧ w'.ownsRow w.heap.size 3 1 v n ((atl n (rnd n) k).map (Value.int .i64)) ∧ Below w.heap.size w w' := by
  obtain ⟨i0, hi, hz0, hz1, hz2⟩ := info_parts Tryz.info3
  have HR := hide (rrounds_ok n w (by omega))
  have hfn := fct_le h2
  go_enter Tryz.func46, Tryz.ntmps46
  go_wp2_with fail
  refine HR.out.mono ?_
  rintro e w1 ⟨v1, rfl, hown1, hb1⟩
  clear HR
  go_wp2
  go_loopw [1, 5, 6] (fun sk so sl wr => ∃ (m kk B : Nat) (L xs : List Int), m ≤ n ∧ kk < fct m ∧ sk = .int .i64 (kk : Int) ∧
      wr.ownsRow B 3 1 sl m (L.map (Value.int .i64)) ∧ wr.ownsRow w.heap.size 3 1 so (n - m) (xs.map (Value.int .i64)) ∧ (∀ g, so.ownBlock = some g → g < B) ∧ w.heap.size ≤ B ∧ B ≤ wr.heap.size ∧
      Hid (xs ++ atl m L kk = atl n (rnd n) k) ∧ Below w.heap.size w wr) (fun _ _ sl _ => sliceLen sl)
  case atStart => exact ⟨n, k, w.heap.size, rnd n, [], Nat.le_refl _, hk, rfl, hown1, by rw [Nat.sub_self]; exact World.ownsRow_nil _ _ _ _, (fun g h => by cases h), Nat.le_refl _, hb1.size, rfl, hb1⟩
  case round =>
    obtain ⟨m, kk, B, L, xs, hmn, hkk, rfl, hl, hr, hob, hwB, hB, hat, hbw⟩ := hrel
    have hbs := hbw.size
    have hsl := hide (owns_len hl)
    cases m with
    | zero =>
      obtain ⟨p, cap, hv⟩ := owns_slice hl
      have e0 : L = [] := by have := hl.1; simpa using this
      rw [hv]
      clear hl hsl
      go_wp2
      go_ret
      refine ⟨_, rfl, ?_, hbw⟩
      have := hr
      rw [← hat.out]
      simpa [atl] using this
    | succ m =>
      obtain ⟨g, cap, hv, hg1, hg2, hgc, hcm⟩ := owns_form hl (by omega)
      rw [hv] at hl hsl ⊢
      have hLl : L.length = m + 1 := by have := hl.1; simpa using this
      have hG := fct_pos m
      have hFG : fct (m + 1) = (m + 1) * fct m := rfl
      have hGb := fct_le (n := m) (by omega)
      have hdl : kk / fct m < m + 1 := by rw [Nat.div_lt_iff_lt_mul hG, ← hFG]; exact hkk
      have hml : kk % fct m < fct m := Nat.mod_lt _ hG
      have hkb : kk ≤ 479001600 := by have := fct_le (n := m + 1) (by omega); omega
      have hq2 : (kk : Int) / ((fct m : Nat) : Int) = ((kk / fct m : Nat) : Int) := (Int.natCast_ediv kk (fct m)).symm
      have hr2 : (kk : Int) % ((fct m : Nat) : Int) = ((kk % fct m : Nat) : Int) := (Int.natCast_emod kk (fct m)).symm
      have hstep : Hid (xs ++ [L.getD (kk / fct m) 0] ++ atl m (L.eraseIdx (kk / fct m)) (kk % fct m) = atl n (rnd n) k) := by
        show _ = _
        rw [← hat.out, List.append_assoc]; rfl
      have HF := hide (factorial_any m wr (by omega))
      generalize kk / fct m = q at *
      generalize kk % fct m = r at *
      clear hFG hat hkk
      generalize hGe : fct m = G at *
      have HGe := hide hGe
      clear hGe hv
      obtain ⟨y, hy, hcy, hfy⟩ := owns_cellAt hl hdl
      rw [show L.getD q 0 = y from hy.out] at hstep
      go_wp2_with fail
      refine HF.out.mono ?_
      rintro e w2 ⟨rfl, rfl⟩
      clear HF
      go_wp2_with (at_builtin; refine wpList_append_own _ rfl _ _ 22 rfl w.heap.size 3 i0 (.int .i64 0) 1 8 Tryz.underlying22 hi hz0 hz1 hz2 rfl (by decide) _ _ _ rfl (hr.alloc _) ⟨wr.heap.size, 0, none⟩ 1 1 [.int .i64 y] rfl rfl ?c1 ?c2 ?c3 ?c4 ?c5 ?_)
      case c1 => exact cell_one_new _ _ _
      case c2 => intro u hu; simp at hu; subst hu; rfl
      case c3 => unfold maxLen; omega
      case c4 => omega
      case c5 => simp; omega
      · intro v3 w3 hown3 hgrow3 _
        have hl3 := (hl.alloc (.cells #[.int .i64 y] 3)).kept hgrow3 (Or.inr (by intro e; have := hob g e.symm; omega))
        have hb3 : Below w.heap.size w w3 := (hbw.alloc hbw.size _).grown hgrow3 (by simp; omega) (fun g hg => (hr.lt g hg).1)
        have hlt3 := hown3.lt
        have hgs3 := (hl3.lt g rfl).2
        have hic : (q : Int) ≤ (cap : Int) := by omega
        have hq0 : (0 : Int) ≤ (q : Int) := by omega
        have hwr : IntKind.i64.wrap ((q : Int) + 1) = (q : Int) + 1 := by rw [IntKind.wrap_i64]; omega
        have hp0 : (0 : Int) ≤ (q : Int) + 1 := by omega
        have hp1 : (q : Int) + 1 ≤ ((m : Int) + 1) := by omega
        have hp2 : ((q : Int) + 1).toNat = q + 1 := by omega
        obtain ⟨A, hA, hcA⟩ := rest_at (q := q) hl3 hLl hgc
        have HE : Hid ((w3.alloc (.cells #[] 3)).drew.ownsRow w3.heap.size 3 1 (.slice (some ⟨w3.heap.size, 0, none⟩) 0 0) 0 []) := World.ownsRow_made w3 #[] 0 (Nat.le_refl _) (by decide) (by simp)
        have HN1 := hide (first_at (q := q) hl3 (w3.alloc (.cells #[] 3)).drew (Below.heap_alloc w3 _ g hgs3))
        have HL1 : Hid (((L.take q).map (Value.int .i64)).length = q * 1) := by show _ = _; rw [List.length_map, List.length_take]; omega
        have HL2 : Hid (((L.drop (q + 1)).map (Value.int .i64)).length = (m - q) * 1) := by show _ = _; rw [List.length_map, List.length_drop]; omega
        have HO1 := hide (ints_oneCell .i64 (L.take q))
        have HO2 := hide (ints_oneCell .i64 (L.drop (q + 1)))
        have HM1 : Hid (0 + q ≤ maxLen) := by unfold Hid maxLen; omega
        have HM2 : Hid (0 + q + (m - q) ≤ maxLen) := by unfold Hid maxLen; omega
        have HY1 : Hid ((0 + q) * 8 ≤ 140737488355328) := by unfold Hid; omega
        have HY2 : Hid ((0 + q + (m - q)) * 8 ≤ 140737488355328) := by unfold Hid; omega
        have HS1 : Hid (w3.heap.size ≤ (w3.alloc (.cells #[] 3)).drew.heap.size) := by show w3.heap.size ≤ (w3.alloc _).heap.size; simp
        go_wp2_with fail
        go_region_law ((first
          | (refine step_append_own rfl (.tmp 31) (.tmp 34) 22 rfl w3.heap.size 3 i0 (.int .i64 0) 1 8 Tryz.underlying22 hi hz0 hz1 hz2 rfl (by decide) (.slice (some ⟨w3.heap.size, 0, none⟩) 0 0) 0 [] rfl HE.out ⟨g, 0, none⟩ q cap ((L.take q).map (Value.int .i64)) rfl HL1.out HN1.out HO1.out HM1.out HY1.out HS1.out ?_; intro v4 w4 hown4 hgrow4)
          | (refine step_append_own rfl (.tmp 35) (.tmp 39) 22 rfl w3.heap.size 3 i0 (.int .i64 0) 1 8 Tryz.underlying22 hi hz0 hz1 hz2 rfl (by decide) v4 (0 + q) _ rfl hown4 A (m - q) (cap - (q + 1)) ((L.drop (q + 1)).map (Value.int .i64)) rfl HL2.out (fun j u hu => hcA.out j u hu w4 (by rw [hgrow4.block g (by show g < (w3.alloc _).heap.size; simp; omega) (by intro e; have e' : g = w3.heap.size := Option.some.inj e; omega)]; exact Below.heap_alloc w3 _ g hgs3)) HO2.out HM2.out HY2.out (Nat.le_trans HS1.out hgrow4.size) ?_; intro v5 w5 hown5 hgrow5)))
        have hr5 := (((hown3.alloc (.cells #[] 3)).drew).kept hgrow4 (own_ne (fun k hk => (hlt3 k hk).2) (fun k hk => by have e' : w3.heap.size = k := Option.some.inj hk; omega))).kept hgrow5 (own_ne (fun k hk => (hlt3 k hk).2) (fun k hk => (hown4.lt k hk).1))
        have hb5 : Below w.heap.size w w5 := ((((hb3.alloc hb3.size (.cells #[] 3)).drew).grown hgrow4 (Nat.le_trans hb3.size HS1.out) (fun k hk => by have e' : w3.heap.size = k := Option.some.inj hk; have := hb3.size; omega))).grown hgrow5 (Nat.le_trans hb3.size (Nat.le_trans HS1.out hgrow4.size)) (fun k hk => by have := (hown4.lt k hk).1; have := hb3.size; omega)
        have hs5 : w3.heap.size ≤ w5.heap.size := Nat.le_trans HS1.out (Nat.le_trans hgrow4.size hgrow5.size)
        have hl5 : w5.ownsRow w3.heap.size 3 1 v5 m ((L.eraseIdx q).map (Value.int .i64)) := by
          have h5 := hown5
          rw [List.nil_append, ← List.map_append, ← List.eraseIdx_eq_take_drop_succ, show 0 + q + (m - q) = m from by omega] at h5
          exact h5
        rw [show n - (m + 1) + 1 = n - m from by omega] at hr5
        have hsl5 := hide (owns_len hl5)
        have HL5 := hide hl5
        have HR5 := hide hr5
        clear hl5 hr5 hown5 hown4 hown3 hgrow4 hgrow5 hgrow3 HN1 HE hcA HL1 HL2 HO1 HO2 HM1 HM2 HY1 HY2 HS1 hl3
        go_wp2
        go_roundw
        case rel =>
          have hfin : ∃ (m' kk' B' : Nat) (L' xs' : List Int), m' ≤ n ∧ kk' < fct m' ∧ Value.int .i64 (r : Int) = .int .i64 (kk' : Int) ∧
              w5.ownsRow B' 3 1 v5 m' (L'.map (Value.int .i64)) ∧ w5.ownsRow w.heap.size 3 1 v3 (n - m') (xs'.map (Value.int .i64)) ∧ (∀ g, v3.ownBlock = some g → g < B') ∧ w.heap.size ≤ B' ∧ B' ≤ w5.heap.size ∧
              Hid (xs' ++ atl m' L' kk' = atl n (rnd n) k) ∧ Below w.heap.size w w5 :=
            ⟨m, r, w3.heap.size, _, xs ++ [y], by omega, by rw [HGe.out]; exact hml, rfl, HL5.out, by rw [List.map_append]; exact HR5.out, fun k hk => (hlt3 k hk).2, hb3.size, hs5, hstep, hb5⟩
          first
            | exact hfin
            | ((repeat apply Exists.intro); exact ⟨hfin, rfl⟩)
        case measure =>
          show sliceLen v5 < m + 1
          rw [hsl5.out]; omega

theorem rat_ok (n k : Nat) (w : World) (h2 : n ≤ 12) (hk : k < fct n) :
    Calls Tryz.prog 46 #[.int .i64 n, .int .i64 k] w fun e w' => ∃ v, e = .returned v ∧ Ints w' v (atl n (rnd n) k) ∧ Below w.heap.size w w' := by
  refine (rat_own n k w h2 hk).mono ?_
  rintro e w' ⟨v, rfl, ho, hb⟩
  exact ⟨v, rfl, Ints.own ho, hb⟩

end Go.Proofs.YtahffpgadoiijaaGreat

/- Contracts of the answer's functions: SameAll, Cycles. -/
namespace Go.Proofs.YtahffpgadoiijaaGreat
open Go.RowKit
set_option maxRecDepth 20000

/-- The slice value v holds these values. -/
def Vals (w : World) (v : Value) (vs : List Value) : Prop :=
  (vs = [] ∧ ∃ p c, v = .slice p 0 c) ∨
  ∃ b off cap, v = .slice (some ⟨b, off, none⟩) vs.length cap ∧ 0 < vs.length ∧ vs.length ≤ cap ∧ cap ≤ 9223372036854775807 ∧ b < w.heap.size ∧
    ∀ j, j < vs.length → w.cell? ⟨b, off + j, none⟩ = some (vs.getD j undef)

/-- The slice value v reads as a list of lists. -/
def IntsAll (w : World) (v : Value) (xss : List (List Int)) : Prop :=
  ∃ vs, Vals w v vs ∧ vs.length = xss.length ∧ ∀ j, j < xss.length → Ints w (vs.getD j undef) (xss.getD j [])

theorem Vals.below {w w' : World} {v : Value} {vs : List Value} (h : Vals w v vs) (hb : Below w.heap.size w w') : Vals w' v vs := by
  rcases h with h | ⟨b, off, cap, h1, h2, h3, h4, h5, h6⟩
  · exact Or.inl h
  · refine Or.inr ⟨b, off, cap, h1, h2, h3, h4, Nat.lt_of_lt_of_le h5 hb.size, fun j hj => ?_⟩
    rw [hb.cell (p := ⟨b, off + j, none⟩) h5]
    exact h6 j hj

theorem IntsAll.below {w w' : World} {v : Value} {xss : List (List Int)} (h : IntsAll w v xss) (hb : Below w.heap.size w w') : IntsAll w' v xss := by
  obtain ⟨vs, h1, h2, h3⟩ := h
  exact ⟨vs, h1.below hb, h2, fun j hj => (h3 j hj).below hb⟩

theorem Vals.form {w : World} {v : Value} {vs : List Value} (h : Vals w v vs) : ∃ p cap, v = .slice p vs.length cap := by
  rcases h with ⟨rfl, p, c, rfl⟩ | ⟨b, off, cap, h1, _⟩
  · exact ⟨p, c, rfl⟩
  · exact ⟨_, cap, h1⟩

theorem Vals.own {w : World} {base e : Nat} {v : Value} {vs : List Value} (h : w.ownsRow base e 1 v vs.length vs) : Vals w v vs := by
  rcases h.2 with ⟨rfl, h0⟩ | ⟨g, cap, cur, hv, _, hh, hn, hm, hs, ht⟩
  · exact Or.inl ⟨List.length_eq_zero_iff.1 h0, none, 0, rfl⟩
  · rcases Nat.eq_zero_or_pos vs.length with h0 | h0
    · exact Or.inl ⟨List.length_eq_zero_iff.1 h0, _, cap, by rw [hv, h0]⟩
    · refine Or.inr ⟨g, 0, cap, hv, h0, hn, by unfold maxLen at hm; omega, (Array.getElem?_eq_some_iff.1 hh).1, fun j hj => ?_⟩
      rw [Nat.zero_add]
      rw [hv] at h
      exact owns_val h hj

theorem IntsAll.own {w : World} {base e : Nat} {v : Value} {vs : List Value} {xss : List (List Int)} (h : w.ownsRow base e 1 v vs.length vs) (ha : OwnAll w base vs xss) : IntsAll w v xss :=
  ⟨vs, Vals.own h, OwnAll.length ha, fun j hj => Ints.own (ownAll_at ha (by rw [OwnAll.length ha]; exact hj))⟩

theorem takes_eq_snoc {xs ys : List (List Int)} {k : Nat} (h : xs.take k = ys.take k) (hx : k < xs.length) (hy : k < ys.length) (e : xs.getD k [] = ys.getD k []) : xs.take (k + 1) = ys.take (k + 1) := by
  rw [List.take_succ_eq_append_getElem hx, List.take_succ_eq_append_getElem hy, h]
  simp only [List.getD, List.getElem?_eq_getElem hx, List.getElem?_eq_getElem hy, Option.getD_some] at e
  rw [e]

theorem elAt {w : World} {b off k : Nat} {vs : List Value} (hcell : ∀ j, j < vs.length → w.cell? ⟨b, off + j, none⟩ = some (vs.getD j undef)) (h : k < vs.length) {X : List Int} (hi : Ints w (vs.getD k undef) X) :
    ∃ p c, w.cell? ⟨b, off + k, none⟩ = some (.slice p X.length c) ∧ Hid (Ints w (.slice p X.length c) X) := by
  obtain ⟨p, c, e⟩ := hi.form
  refine ⟨p, c, by rw [hcell k h, e], ?_⟩
  rw [← e]; exact hi

set_option maxRecDepth 20000 in
set_option maxHeartbeats 2000000 in
theorem sameAll_any (v1 v2 : Value) (xs ys : List (List Int)) (w : World) (h1 : IntsAll w v1 xs) (h2 : IntsAll w v2 ys) :
    Calls Tryz.prog 44 #[v1, v2] w fun e w' => e = .returned (.bool (decide (xs = ys))) ∧ Below w.heap.size w w' := by
  obtain ⟨vs, hv1, hl1, he1⟩ := h1
  obtain ⟨us, hv2, hl2, he2⟩ := h2
  by_cases hlen : xs.length = ys.length
  · have hvu : vs.length = us.length := by omega
    have hl : (((vs.length : Nat) : Int) != ((us.length : Nat) : Int)) = false := by rw [hvu]; simp
    rcases hv1 with ⟨rfl, p, c, rfl⟩ | ⟨b, off, cap, rfl, h0, hc, hm, hb, hcell⟩
    · obtain rfl : xs = [] := List.length_eq_zero_iff.1 (by simpa using hl1.symm)
      obtain rfl : ys = [] := List.length_eq_zero_iff.1 (by simpa using hlen.symm)
      obtain rfl : us = [] := List.length_eq_zero_iff.1 (by simpa using hl2)
      obtain ⟨p2, c2, rfl⟩ := hv2.form
      clear hv2 he1 he2 hl1 hl2 hlen hvu hl
      go_enter Tryz.func44, Tryz.ntmps44
      go_wp2
      go_loop [5] (fun i => i = .int .i64 0) (fun _ => 0)
      case atStart => rfl
      case round =>
        subst hrel
        go_wp2
        go_ret
        exact ⟨rfl, Below.refl _ _⟩
    · rcases hv2 with ⟨rfl, p, c, rfl⟩ | ⟨b2, off2, cap2, rfl, h02, hc2, hm2, hb2, hcell2⟩
      · simp at hvu; subst hvu; simp at h0
      · have HX := hide hl1
        have HY := hide hl2
        have HL := hide hlen
        have HVU := hide hvu
        have HE1 := hide he1
        have HE2 := hide he2
        have HC1 := hide hcell
        have HC2 := hide hcell2
        clear hlen hl1 hl2 he1 he2 hcell hcell2 hvu
        go_enter Tryz.func44, Tryz.ntmps44
        go_wp2
        go_loopw [5] (fun i wr => ∃ k : Nat, k ≤ vs.length ∧ i = .int .i64 k ∧ Hid (xs.take k = ys.take k) ∧ Below w.heap.size w wr) (fun i _ => vs.length - (intOf i).toNat)
        case atStart => exact ⟨0, by omega, rfl, by simp [Hid], Below.refl _ _⟩
        case round =>
          obtain ⟨k, hk, rfl, ht, hbw⟩ := hrel
          by_cases hlt : k < vs.length
          · have hlt2 : k < us.length := by have := HVU.out; omega
            obtain ⟨p1, c1, hcx, hix⟩ := elAt HC1.out hlt (HE1.out k (by have := HX.out; omega))
            obtain ⟨p2, c2, hcy, hiy⟩ := elAt HC2.out hlt2 (HE2.out k (by have := HY.out; omega))
            have gx : wr.cell? ⟨b, off + k, none⟩ = some (.slice p1 (xs.getD k []).length c1) := (hbw.cell (by exact hb)).trans hcx
            have gy : wr.cell? ⟨b2, off2 + k, none⟩ = some (.slice p2 (ys.getD k []).length c2) := (hbw.cell (by exact hb2)).trans hcy
            have HS := hide (same_any _ _ _ _ wr.drew (hix.out.below hbw.drew) (hiy.out.below hbw.drew))
            have hkx : k < xs.length := by have := HX.out; omega
            have hky : k < ys.length := by have := HY.out; omega
            have HT := hide (takes_eq_snoc ht.out hkx hky)
            have HN : Hid (xs.getD k [] ≠ ys.getD k [] → decide (xs = ys) = false) := fun hne => by
              rw [decide_eq_false_iff_not]; intro e; exact hne (by rw [e])
            generalize xs.getD k [] = X at *
            generalize ys.getD k [] = Y at *
            generalize X.length = lx at *
            generalize Y.length = ly at *
            clear hcx hcy hix hiy
            by_cases hxy : X = Y
            · rw [decide_eq_true hxy] at HS
              have HT' := hide (HT.out hxy)
              clear hxy HT HN
              go_wp2
              go_region_with (go_at_call 32; refine HS.out.mono ?_; rintro e w1 ⟨rfl, hb1⟩)
              all_goals
                have hB1 : Below w.heap.size w w1 := hbw.drew.trans (hb1.mono hbw.size)
                clear hb1
                go_wp2
                go_roundw
                case rel =>
                  have hfin : ∃ k' : Nat, k' ≤ vs.length ∧ Value.int .i64 ((k : Int) + 1) = .int .i64 (k' : Int) ∧ Hid (xs.take k' = ys.take k') ∧ Below w.heap.size w w1 := ⟨k + 1, by omega, by go_num, HT', hB1⟩
                  first
                    | exact hfin
                    | ((repeat apply Exists.intro); exact ⟨hfin, rfl⟩)
                case measure => simp [intOf]; omega
            · rw [decide_eq_false hxy] at HS
              have HN' := hide (HN.out hxy)
              clear hxy HT HN
              go_wp2
              go_region_with (go_at_call 32; refine HS.out.mono ?_; rintro e w1 ⟨rfl, hb1⟩)
              all_goals
                have hB1 : Below w.heap.size w w1 := hbw.drew.trans (hb1.mono hbw.size)
                clear hb1
                go_wp2
                go_ret
                exact ⟨ret_bool HN'.out.symm, hB1⟩
          · go_wp2
            go_ret
            refine ⟨ret_bool ?_, hbw⟩
            symm
            rw [decide_eq_true_iff]
            have h3 := ht.out
            have h4 := HX.out
            have h5 := HY.out
            have h6 := HVU.out
            rwa [List.take_of_length_le (by omega), List.take_of_length_le (by omega)] at h3
  · obtain ⟨p1, c1, rfl⟩ := hv1.form
    obtain ⟨p2, c2, rfl⟩ := hv2.form
    have hl : (((vs.length : Nat) : Int) != ((us.length : Nat) : Int)) = true := by rw [bne_iff_ne]; omega
    have hd : decide (xs = ys) = false := by rw [decide_eq_false_iff_not]; intro e; exact hlen (by rw [e])
    have HD := hide hd
    clear hlen hv1 hv2 he1 he2 hl1 hl2 hd
    go_enter Tryz.func44, Tryz.ntmps44
    go_wp2
    go_ret
    exact ⟨ret_bool HD.out.symm, Below.refl _ _⟩

end Go.Proofs.YtahffpgadoiijaaGreat

/- Contracts: group's checkRow and Check, where n and how many there are may be. -/
namespace Go.Proofs.YtahffpgadoiijaaGreat
open Go.RowKit

/-- What checkRow says. -/
def rchk (n : Nat) (xs : List Int) : Int := if chk xs = 0 then (if xs.length = n then 0 else 1) else chk xs

set_option maxHeartbeats 1000000 in
theorem checkRow_any (n : Nat) (v : Value) (xs : List Int) (w : World) (h : Ints w v xs) :
    Calls Tryz.prog 65 #[.int .i64 n, v] w fun e w' => e = .returned (.int .i64 (rchk n xs)) ∧ Below w.heap.size w w' := by
  have HC := hide (check_any v xs w h)
  have hr := chk_range xs
  obtain ⟨p, c, rfl⟩ := h.form
  by_cases h0 : chk xs = 0
  · rw [h0] at HC
    by_cases hl : xs.length = n
    · have HE : Hid (rchk n xs = 0) := by unfold Hid rchk; rw [if_pos h0, if_pos hl]
      have hb : (((xs.length : Nat) : Int) != ((n : Nat) : Int)) = false := by rw [hl]; simp
      clear h h0 hr hl
      go_enter Tryz.func65, Tryz.ntmps65
      go_wp2_with fail
      refine HC.out.mono ?_
      rintro e w1 ⟨rfl, hb1⟩
      go_wp2
      go_ret
      exact ⟨ret_int HE.out.symm, hb1⟩
    · have HE : Hid (rchk n xs = 1) := by unfold Hid rchk; rw [if_pos h0, if_neg hl]
      have hb : (((xs.length : Nat) : Int) != ((n : Nat) : Int)) = true := by rw [bne_iff_ne]; omega
      clear h h0 hr hl
      go_enter Tryz.func65, Tryz.ntmps65
      go_wp2_with fail
      refine HC.out.mono ?_
      rintro e w1 ⟨rfl, hb1⟩
      go_wp2
      go_ret
      exact ⟨ret_int HE.out.symm, hb1⟩
  · have HE : Hid (rchk n xs = chk xs) := by unfold Hid rchk; rw [if_neg h0]
    have hb : (chk xs != 0) = true := by rw [bne_iff_ne]; exact h0
    clear h h0
    generalize chk xs = z at *
    go_enter Tryz.func65, Tryz.ntmps65
    go_wp2_with fail
    refine HC.out.mono ?_
    rintro e w1 ⟨rfl, hb1⟩
    go_wp2
    go_ret
    exact ⟨ret_int HE.out.symm, hb1⟩

/-- What Check says of rows. -/
def gchk (n : Nat) : List (List Int) → Int
  | [] => 0
  | x :: t => if rchk n x = 0 then gchk n t else rchk n x

theorem gchk_drop {n k : Nat} {xss : List (List Int)} (hk : k < xss.length) : gchk n (xss.drop k) = if rchk n (xss.getD k []) = 0 then gchk n (xss.drop (k + 1)) else rchk n (xss.getD k []) := by
  rw [List.drop_eq_getElem_cons hk]
  simp only [List.getD, List.getElem?_eq_getElem hk, Option.getD_some]
  rfl

set_option maxRecDepth 20000 in
set_option maxHeartbeats 2000000 in
theorem gcheck_ok (n : Nat) (v : Value) (xss : List (List Int)) (w : World) (h : IntsAll w v xss) (h1 : 1 ≤ n) (h12 : n ≤ 12) (h8 : xss.length ≤ 8) :
    Calls Tryz.prog 48 #[.int .i64 n, v] w fun e w' => e = .returned (.int .i64 (gchk n xss)) ∧ Below w.heap.size w w' := by
  obtain ⟨vs, hv, hl, he⟩ := h
  have hn1 : ¬ ((n : Int) < 1) := by omega
  have hn2 : ¬ ((n : Int) > 12) := by omega
  rcases hv with ⟨rfl, p, c, rfl⟩ | ⟨b, off, cap, rfl, h0, hc, hm, hb, hcell⟩
  · obtain rfl : xss = [] := List.length_eq_zero_iff.1 (by simpa using hl.symm)
    clear he hl
    go_enter Tryz.func48, Tryz.ntmps48
    go_wp2
    go_loop [21] (fun i => i = .int .i64 0) (fun _ => 0)
    case atStart => rfl
    case round =>
      subst hrel
      go_wp2
      go_ret
      exact ⟨rfl, Below.refl _ _⟩
  · have hv8 : (vs.length : Int) ≤ 8 := by omega
    have HL := hide hl
    have HE := hide he
    have HC := hide hcell
    clear hl he hcell
    go_enter Tryz.func48, Tryz.ntmps48
    go_wp2
    go_loopw [21] (fun i wr => ∃ k : Nat, k ≤ vs.length ∧ i = .int .i64 k ∧ Hid (gchk n (xss.drop k) = gchk n xss) ∧ Below w.heap.size w wr) (fun i _ => vs.length - (intOf i).toNat)
    case atStart => exact ⟨0, by omega, rfl, rfl, Below.refl _ _⟩
    case round =>
      obtain ⟨k, hk, rfl, ht, hbw⟩ := hrel
      by_cases hlt : k < vs.length
      · have hkx : k < xss.length := by have := HL.out; omega
        obtain ⟨p1, c1, hcx, hix⟩ := elAt HC.out hlt (HE.out k hkx)
        have gx : wr.cell? ⟨b, off + k, none⟩ = some (.slice p1 (xss.getD k []).length c1) := (hbw.cell (by exact hb)).trans hcx
        have HS := hide (checkRow_any n _ _ wr (hix.out.below hbw))
        have HD := hide (gchk_drop (n := n) hkx)
        rw [ht.out] at HD
        generalize xss.getD k [] = X at *
        generalize X.length = lx at *
        clear hcx hix
        go_wp2_with fail
        refine HS.out.mono ?_
        rintro e w1 ⟨rfl, hb1⟩
        have hB1 : Below w.heap.size w w1 := hbw.trans (hb1.mono hbw.size)
        by_cases hz : rchk n X = 0
        · have HD' : Hid (gchk n (xss.drop (k + 1)) = gchk n xss) := by have := HD.out; rw [if_pos hz] at this; exact this.symm
          rw [hz]
          clear HD HS hz
          go_wp2
          go_roundw
          case rel => exact ⟨k + 1, by omega, by go_num, HD', hB1⟩
          case measure => simp [intOf]; omega
        · have HD' : Hid (gchk n xss = rchk n X) := by have := HD.out; rw [if_neg hz] at this; exact this
          have hne : (rchk n X != 0) = true := by rw [bne_iff_ne]; exact hz
          clear HD HS hz
          generalize rchk n X = z at *
          go_wp2
          go_ret
          exact ⟨ret_int HD'.out.symm, hB1⟩
      · have HE0 : Hid (gchk n xss = 0) := by show _ = _; rw [← ht.out, List.drop_eq_nil_of_le (by have := HL.out; omega)]; rfl
        go_wp2
        go_ret
        exact ⟨ret_int HE0.out.symm, hbw⟩

/-- Rows of n bells. -/
def RowsN (n : Nat) (xss : List (List Int)) : Prop := ∀ x, x ∈ xss → isRow x ∧ x.length = n

theorem gchk_rows {n : Nat} {xss : List (List Int)} (h1 : 1 ≤ n) (h12 : n ≤ 12) (h : RowsN n xss) : gchk n xss = 0 := by
  induction xss with
  | nil => rfl
  | cons x t ih =>
    have hx := h x (by simp)
    have e : rchk n x = 0 := by unfold rchk; rw [if_pos (chk_ok (by omega) (by omega) hx.1), if_pos hx.2]
    show (if rchk n x = 0 then gchk n t else rchk n x) = 0
    rw [if_pos e]
    exact ih (fun y hy => h y (by simp [hy]))

end Go.Proofs.YtahffpgadoiijaaGreat

/- Contracts: checkRow, Check, generate, Make. -/
namespace Go.Proofs.YtahffpgadoiijaaGreat
open Go.RowKit

/-- A group, as it lies. -/
def GroupAt (w : World) (v : Value) (n : Nat) (gs : List Pm) : Prop :=
  ∃ gb vg B g bs C st, v = .pointer (some ⟨gb, 0, none⟩) ∧ gb < w.heap.size ∧ w.cell? ⟨gb, 0, none⟩ = some (.int .i64 (n : Int)) ∧ w.cell? ⟨gb, 1, none⟩ = some vg ∧ w.cell? ⟨gb, 2, none⟩ = some (.slice (some ⟨g, 0, none⟩) n n) ∧
    Packs w vg gs ∧ Chained w B g n bs C st gs ∧ (∀ b, b ∈ bs → b < 12) ∧ bs = List.range n

theorem GroupAt.below {w w' : World} {v : Value} {n X : Nat} {gs : List Pm} (h : GroupAt w v n gs) (hb : Below X w w') (hX : w.heap.size ≤ X) : GroupAt w' v n gs := by
  obtain ⟨gb, vg, B, g, bs, C, st, h1, h2, h3, h4, h5, h6, h7, h8⟩ := h
  refine ⟨gb, vg, B, g, bs, C, st, h1, Nat.lt_of_lt_of_le h2 hb.size, ?_, ?_, ?_, h6.below hb hX, ⟨h7.len, h7.bases, h7.whole, h7.gen, h7.chain.below hb hX, h7.nd⟩, h8⟩
  · rw [hb.cell (p := ⟨gb, 0, none⟩) (by show gb < X; omega)]; exact h3
  · rw [hb.cell (p := ⟨gb, 1, none⟩) (by show gb < X; omega)]; exact h4
  · rw [hb.cell (p := ⟨gb, 2, none⟩) (by show gb < X; omega)]; exact h5

set_option maxRecDepth 20000 in
set_option maxHeartbeats 1000000 in
theorem generate_ok (n : Nat) (v1 : Value) (gs : List Pm) (w : World) (h1 : 1 ≤ n) (h12 : n ≤ 12) (hP : Packs w v1 gs) (hgs : gs.length ≤ 8916100448256) (hF : ∀ x, x ∈ gs → Fixes (fun b => n ≤ b) x) :
    Calls Tryz.prog 50 #[.int .i64 n, v1] w fun e w' => ∃ v, e = .returned v ∧ GroupAt w' v n gs ∧ Below w.heap.size w w' := by
  have HN := hide (newChain_ok n v1 gs w h1 h12 hP hgs hF)
  obtain ⟨pp, pcap, hv⟩ := hP.form
  rw [hv] at HN hP ⊢
  have HP := hide hP
  clear hP hF hv
  go_enter Tryz.func50, Tryz.ntmps50
  go_wp2_with fail
  refine HN.out.mono ?_
  rintro e w1 ⟨g, C, st, rfl, hCd, hb1⟩
  go_wp2
  go_ret
  have hB2 : Below w1.heap.size w1 (w1.alloc (.cells #[.int .i64 (n : Int), .slice pp gs.length pcap, .slice (some ⟨g, 0, none⟩) n n] 85)) := (Below.refl _ _).alloc (Nat.le_refl _) _
  have hn := heap_alloc_last w1 (.cells #[.int .i64 (n : Int), .slice pp gs.length pcap, .slice (some ⟨g, 0, none⟩) n n] 85)
  refine ⟨_, rfl, ⟨w1.heap.size, .slice pp gs.length pcap, w.heap.size, g, List.range n, C, st, rfl, by simp, ?_, ?_, ?_, (HP.out.below hb1 (Nat.le_refl _)).below hB2 (Nat.le_refl _), ⟨hCd.len, hCd.bases, hCd.whole, hCd.gen, hCd.chain.alloc _, hCd.nd⟩, fun b hb => (by have := List.mem_range.1 hb; omega), rfl⟩, hb1.alloc hb1.size _⟩
  · rw [cell_of_row _ _ 0 _ _ _ hn]; rfl
  · rw [cell_of_row _ _ 1 _ _ _ hn]; rfl
  · rw [cell_of_row _ _ 2 _ _ _ hn]; rfl

end Go.Proofs.YtahffpgadoiijaaGreat

/- Contracts: Check and Make, where n and how many there are may be. -/
namespace Go.Proofs.YtahffpgadoiijaaGreat
open Go.RowKit

set_option maxRecDepth 20000 in
set_option maxHeartbeats 2000000 in
theorem make_ok (n : Nat) (v : Value) (xss : List (List Int)) (w : World) (h : IntsAll w v xss) (h1 : 1 ≤ n) (h12 : n ≤ 12) (h8 : xss.length ≤ 8) (hr : RowsN n xss) :
    Calls Tryz.prog 24 #[.int .i64 n, v] w fun e w' => ∃ u, e = .returned (.tuple #[u, .int .i64 0]) ∧ GroupAt w' u n (xss.map pad) ∧ Below w.heap.size w w' := by
  obtain ⟨i0, hi, hz0, hz1, hz2⟩ := info_parts Tryz.info78
  have HK := hide (gcheck_ok n v xss w h h1 h12 h8)
  rw [gchk_rows h1 h12 hr] at HK
  have HA := hide h
  have HR := hide hr
  obtain ⟨vs, hv, hl, he⟩ := h
  obtain ⟨p, cap, rfl⟩ := hv.form
  have hv8 : (vs.length : Int) ≤ 8 := by omega
  have HL := hide hl
  clear hr hv he hl
  go_enter Tryz.func24, Tryz.ntmps24
  go_wp2_with fail
  refine HK.out.mono ?_
  rintro e w1 ⟨rfl, hb1⟩
  clear HK
  have hbs1 := hb1.size
  go_wp2_with (at_make; refine wpList_make_full _ rfl _ _ 75 rfl w.heap.size 78 i0 (.agg (i8s zeros12)) 12 Tryz.underlying75 hi hz0 hz1 _ _ _ _ vs.length rfl rfl (by omega) (by omega) ?b2 ?b3 hbs1 ?_)
  case b2 => rw [hz2]; omega
  case b3 => unfold maxLen; omega
  intro w2 hown2 hg2
  have hobj : ∃ cs, w2.heap[w1.heap.size]? = some (.cells cs 78) ∧ cs.size = vs.length * 12 := by
    rcases hown2.2 with ⟨h, _⟩ | ⟨g', cap', cur, hv, _, hh, _, _, hs, _⟩
    · cases h
    · injection hv with e1 _ e3
      injection e1 with e1
      injection e1 with e1
      subst e1; subst e3
      exact ⟨cur, hh, hs⟩
  have hth2 : w2.there w1.heap.size 0 (vs.length * 12) := by obtain ⟨cs, ho, hos⟩ := hobj; exact there_obj ho hos 0 _ (by omega)
  have hB2 : Below w.heap.size w w2 := hb1.grown hg2 hb1.size (fun k h => by cases h)
  have hlt2 : w1.heap.size < w2.heap.size := by obtain ⟨cs, ho, _⟩ := hobj; exact (Array.getElem?_eq_some_iff.1 ho).1
  clear hown2 hg2 hobj hi hz0 hz1 hz2
  generalize w1.heap.size = D at *
  clear hb1
  go_wp2
  go_loopw [21] (fun i wr => ∃ k : Nat, k ≤ vs.length ∧ i = .int .i64 k ∧ Hid (∀ i x, i < k → xss[i]? = some x → wr.rangeAt D (i * 12) ((pad x).l.map (Value.int .i8))) ∧ Hid (wr.there D 0 (vs.length * 12)) ∧ D < wr.heap.size ∧ Below w.heap.size w wr) (fun i _ => vs.length - (intOf i).toNat)
  case atStart => exact ⟨0, by omega, rfl, fun i x hi => by omega, hth2, hlt2, hB2⟩
  case round =>
    clear hth2 hlt2 hB2
    obtain ⟨k, hk, rfl, hrg, hth, hDl, hbw⟩ := hrel
    by_cases hlt : k < vs.length
    · have hkx : k < xss.length := by have := HL.out; omega
      obtain ⟨X, hX⟩ : ∃ X, xss[k]? = some X := ⟨_, List.getElem?_eq_getElem hkx⟩
      have hXr := HR.out X (List.mem_of_getElem? hX)
      obtain ⟨us, hus, hul, hue⟩ := HA.out.below hbw
      obtain ⟨b, off, hpp, hcell⟩ : ∃ b off, p = some ⟨b, off, none⟩ ∧ (∀ j, j < us.length → wr.cell? ⟨b, off + j, none⟩ = some (us.getD j undef)) ∧ vs.length ≤ cap := by
        rcases hus with ⟨e, p', c', hv⟩ | ⟨b, off, c', hv, _, hc, _, _, hcell⟩
        · injection hv with _ e2 _; have := HL.out; omega
        · injection hv with e1 e2 e3
          exact ⟨b, off, e1, hcell, by omega⟩
      obtain ⟨hcell, hcap⟩ := hcell
      obtain ⟨p1, c1, hcx, hix⟩ := elAt hcell (k := k) (by have := HL.out; omega) (hue k hkx)
      have eX : xss.getD k [] = X := by rw [List.getD, hX]; rfl
      rw [eX] at hcx hix
      have HPk := hide (pack_ok _ X wr hix.out hXr.1 (by omega) (by omega))
      have hl12 := (pad X).len
      have hone : Hid ((i8s (pad X).l).all (·.oneCell') = true) := i8s_one _
      have hin : Hid ((Tryz.prog.info? 78).map (·.size) = some (i8s (pad X).l).size) := by show _ = _; rw [i8s_size, hl12]; exact Tryz.size78
      have HXX := hide hX
      have hlx : X.length ≤ 12 := by omega
      subst hpp
      clear hus hul hue hcell hix eX hX hXr
      generalize X.length = lx at *
      unfold pv at HPk
      go_wp2_with fail
      refine HPk.out.mono ?_
      rintro e w3 ⟨rfl, hb3⟩
      have hth3 : w3.there D (k * 12) (i8s (pad X).l).size := fun j hj => by
        rw [i8s_size, hl12] at hj
        have h1 := hth.out (k * 12 + j) (by omega)
        rw [Nat.zero_add] at h1
        rw [hb3.cell (p := ⟨D, _, none⟩) hDl, hb3.frozen (p := ⟨D, _, none⟩) hDl]
        exact h1
      have hD3 : D < w3.heap.size := Nat.lt_of_lt_of_le hDl hb3.size
      go_wp2_with (refine wpList_store_mid rfl 78 _ _ rfl D (k * 12) (i8s (pad X).l) rfl rfl hth3 hin.out hone.out ?_)
      have e1 : (i8s (pad X).l).toList = (pad X).l.map (Value.int .i8) := by simp [i8s]
      have hb4 : Below w3.heap.size w3 w3 := Below.refl _ _
      have hB4 : Below w.heap.size w (w3.setCells D (k * 12) (i8s (pad X).l).toList) := (hbw.trans (hb3.mono hbw.size)).trans (below_setCells _ _ _ _ hbs1)
      have hD4 : D < (w3.setCells D (k * 12) (i8s (pad X).l).toList).heap.size := Nat.lt_of_lt_of_le hD3 (below_setCells D (i8s (pad X).l).toList (k * 12) w3 (B := D) (Nat.le_refl _)).size
      have hth4 : (w3.setCells D (k * 12) (i8s (pad X).l).toList).there D 0 (vs.length * 12) := World.there_setCells (fun j hj => by
        rw [hb3.cell (p := ⟨D, _, none⟩) hDl, hb3.frozen (p := ⟨D, _, none⟩) hDl]
        exact hth.out j hj) _ _ _
      have hrg4 : ∀ i x, i < k + 1 → xss[i]? = some x → (w3.setCells D (k * 12) (i8s (pad X).l).toList).rangeAt D (i * 12) ((pad x).l.map (Value.int .i8)) := by
        intro i x hi hx
        rw [e1]
        by_cases e : i = k
        · subst e
          rw [HXX.out] at hx
          have := Option.some.inj hx
          subst this
          refine World.rangeAt_setCells_same _ _ _ _ ?_
          rw [List.length_map, hl12]
          rw [i8s_size, hl12] at hth3
          exact hth3
        · refine World.rangeAt_setCells_apart (fun j u hu => ?_) _ _ _ (Or.inr (Or.inl (by rw [List.length_map, (pad x).len]; omega)))
          rw [hb3.cell (p := ⟨D, _, none⟩) hDl]
          exact hrg.out i x (by omega) hx j u hu
      refine ⟨⟨k + 1, by omega, by go_num, hrg4, hth4, hD4, hB4⟩, by simp [intOf]; omega⟩
    · obtain rfl : k = vs.length := by omega
      have hP : Packs wr (.slice (some ⟨D, 0, none⟩) vs.length vs.length) (xss.map pad) := by
        rcases Nat.eq_zero_or_pos vs.length with h0 | h0
        · refine Or.inl ⟨?_, some ⟨D, 0, none⟩, vs.length, by rw [h0]⟩
          have : xss = [] := List.length_eq_zero_iff.1 (by rw [← HL.out]; exact h0)
          rw [this]; rfl
        · have e : (xss.map pad).length = vs.length := by rw [List.length_map, HL.out]
          refine Or.inr ⟨D, 0, vs.length, by rw [e], by omega, by omega, by omega, hDl, fun i q hi => ?_⟩
          rw [List.getElem?_map] at hi
          cases hx : xss[i]? with
          | none => rw [hx] at hi; cases hi
          | some x =>
            rw [hx] at hi
            have : pad x = q := by simpa using hi
            subst this
            rw [Nat.zero_add]
            exact hrg.out i x (by rw [HL.out]; exact (List.getElem?_eq_some_iff.1 hx).1) hx
      have HG := hide (generate_ok n _ (xss.map pad) wr h1 h12 hP (by rw [List.length_map]; omega) (fun y hy => by
        obtain ⟨x, hx, rfl⟩ := List.mem_map.1 hy
        exact pad_fixes h12 (HR.out x hx).2 (HR.out x hx).1))
      clear hP hrg hth
      go_wp2_with fail
      refine HG.out.mono ?_
      rintro e w9 ⟨u, rfl, hGr, hb9⟩
      go_wp2
      go_ret2
      exact ⟨u, rfl, hGr, hbw.trans (hb9.mono hbw.size)⟩
end Go.Proofs.YtahffpgadoiijaaGreat

/- Plain: Schreier's lemma over lists; one row in another's place among generators; the size of a chain; contract: size. -/
namespace Go.Proofs.YtahffpgadoiijaaGreat
open Go.RowKit

/-- What leaves a place, told by what brings bells there. -/
def Sch (S : Pm → Prop) (T : List (Nat × Pm)) (y : Pm) : Prop := ∃ s, S s ∧ ∃ e, e ∈ T ∧ ∃ e', e' ∈ T ∧ e'.1 = s.act e.1 ∧ y = e'.2⁻¹ * (s * e.2)

theorem schreier {S : Pm → Prop} {T : List (Nat × Pm)} {k : Nat} (hn : (T.map (·.1)).Nodup) (h1 : (k, (1 : Pm)) ∈ T) (hb : ∀ e, e ∈ T → e.2.act k = e.1) (hG : ∀ e, e ∈ T → Gen S e.2) (hc : ∀ s, S s → ∀ e, e ∈ T → ∃ e', e' ∈ T ∧ e'.1 = s.act e.1) (x : Pm) :
    Gen (Sch S T) x ↔ Gen S x ∧ x.act k = k := by
  have hS : Sub (fun x => Gen S x ∧ x.act k = k) := (Gen.sub S).and ⟨Pm.act_one k, fun {x y} hx hy => by show (x * y).act k = k; rw [Pm.act_mul, hy, hx], fun {x} hx => by have hx : x.act k = k := hx; show x⁻¹.act k = k; rw [← hx, Pm.inv_act, hx]⟩
  have hsub : ∀ y, Gen (Sch S T) y → Gen S y ∧ y.act k = k := fun y hy => hy.least hS (fun z hz => by
    obtain ⟨s, hs, e, he, e', he', e1, rfl⟩ := hz
    refine ⟨Gen.mul' (Gen.inv (hG e' he')) (Gen.mul hs (hG e he)), ?_⟩
    show (e'.2⁻¹ * (s * e.2)).act k = k
    rw [Pm.act_mul, Pm.act_mul, hb e he, ← e1, ← hb e' he', Pm.inv_act])
  refine ⟨hsub x, fun hx => ?_⟩
  have key : ∀ y, Gen S y → ∃ e, e ∈ T ∧ ∃ h, Gen (Sch S T) h ∧ y = e.2 * h := by
    intro y hy
    induction hy with
    | one => exact ⟨_, h1, 1, Gen.one, by rw [Pm.mul_one]⟩
    | @mul s y hs _ ih =>
      obtain ⟨e, he, h, hh, rfl⟩ := ih
      obtain ⟨e', he', e1⟩ := hc s hs e he
      exact ⟨e', he', _, Gen.mul ⟨s, hs, e, he, e', he', e1, rfl⟩ hh, by rw [Pm.mul_assoc e'.2⁻¹, Pm.mul_inv_cancel, Pm.mul_assoc]⟩
  obtain ⟨e, he, h, hh, rfl⟩ := key x hx.1
  have hk := (hsub h hh).2
  have h2 : (e.2 * h).act k = k := hx.2
  rw [Pm.act_mul, hk, hb e he] at h2
  have e1 : e.2 = 1 := tab_eq hn (b := k) (by rw [← h2]; exact he) h1
  rw [e1, Pm.one_mul]; exact hh

/-- A row among generators may be changed by one of the others. -/
theorem gen_swap {A : Pm → Prop} {t r : Pm} (ht : A t) (x : Pm) : Gen (fun y => A y ∨ y = r) x ↔ Gen (fun y => A y ∨ y = t⁻¹ * r) x := by
  constructor
  · refine fun h => h.least (Gen.sub _) (fun y hy => ?_)
    rcases hy with hy | hy
    · exact Gen.of (Or.inl hy)
    · have h1 : Gen (fun y => A y ∨ y = t⁻¹ * r) (t * (t⁻¹ * r)) := Gen.mul (Or.inl ht) (Gen.of (Or.inr rfl))
      rw [Pm.mul_inv_cancel] at h1
      rw [hy]; exact h1
  · refine fun h => h.least (Gen.sub _) (fun y hy => ?_)
    rcases hy with hy | rfl
    · exact Gen.of (Or.inl hy)
    · exact Gen.mul' (Gen.inv (Gen.of (Or.inl ht))) (Gen.of (Or.inr rfl))

theorem gen_drop {A : Pm → Prop} (x : Pm) : Gen (fun y => A y ∨ y = 1) x ↔ Gen A x := by
  constructor
  · refine fun h => h.least (Gen.sub _) (fun y hy => ?_)
    rcases hy with hy | rfl
    · exact Gen.of hy
    · exact Gen.one
  · exact fun h => h.mono (fun y hy => Or.inl hy)

theorem Chained.sz {w : World} {B g n : Nat} {C : List Lk} {st : Nat → St} {gs : List Pm} (h : Chained w B g n (List.range n) C st gs) (h12 : n ≤ 12) : tabs C = sz (Gen (fun y => y ∈ gs)) n := by
  have e := sz_tabs (G := Gen (fun y => y ∈ gs)) C 0 _ h.whole (by rw [h.bases, h.len]; simp) (by rw [h.len]; omega) (fun x => by
    rw [h.gen x]
    exact ⟨fun hx => ⟨hx, fun b hb => by omega⟩, fun hx => hx.1⟩)
  rw [h.len, Nat.zero_add] at e
  rw [e]
  show tabs C = 1 * tabs C
  rw [Nat.one_mul]

theorem sz_le (G : Pm → Prop) (n : Nat) : sz G n ≤ 12 ^ n := by
  induction n with
  | zero => exact Nat.le_refl _
  | succ n ih =>
    have : oc G n ≤ 12 := by
      have := nodup_len (orbL G n) (List.range 12) (orbL_nodup G n) (fun b hb => by unfold orbL at hb; exact (List.mem_filter.1 hb).1)
      rw [List.length_range] at this
      exact this
    show sz G n * oc G n ≤ 12 ^ (n + 1)
    rw [Nat.pow_succ]
    exact Nat.mul_le_mul ih this

end Go.Proofs.YtahffpgadoiijaaGreat

/- Contracts: the chain's size, Size, Bells, Has. -/
namespace Go.Proofs.YtahffpgadoiijaaGreat
open Go.RowKit

theorem tabs_pos {F : Nat → Prop} : ∀ (C : List Lk), Whole F C → 1 ≤ tabs C
  | [], _ => Nat.le_refl _
  | l :: c, h => Nat.mul_pos (List.length_pos_of_mem h.1.first) (tabs_pos (F := plus F l.base) c h.2.1)

theorem whole_len {F : Nat → Prop} : ∀ (C : List Lk), Whole F C → (∀ l, l ∈ C → l.base < 12) → ∀ l, l ∈ C → 1 ≤ l.tab.length ∧ l.tab.length ≤ 12
  | [], _, _, l, h => by cases h
  | x :: c, hw, hb, l, h => by
    rcases List.mem_cons.1 h with rfl | h
    · exact ⟨List.length_pos_of_mem hw.1.first, tab_len hw.1 (hb _ List.mem_cons_self)⟩
    · exact whole_len (F := plus F x.base) c hw.2.1 (fun y hy => hb y (List.mem_cons_of_mem _ hy)) l h

theorem tabs_drop {C : List Lk} {i : Nat} {l : Lk} (h : C[i]? = some l) : tabs (C.drop i) = l.tab.length * tabs (C.drop (i + 1)) := by
  obtain ⟨hj, rfl⟩ := List.getElem?_eq_some_iff.1 h
  rw [List.drop_eq_getElem_cons hj]
  rfl

theorem tabs_le {C : List Lk} (h : ∀ l, l ∈ C → l.tab.length ≤ 12) : tabs C ≤ 12 ^ C.length := by
  induction C with
  | nil => exact Nat.le_refl _
  | cons l c ih =>
    show l.tab.length * tabs c ≤ 12 ^ (c.length + 1)
    rw [Nat.pow_succ, Nat.mul_comm (12 ^ c.length)]
    exact Nat.mul_le_mul (h l List.mem_cons_self) (ih (fun y hy => h y (List.mem_cons_of_mem _ hy)))

set_option maxRecDepth 20000 in
set_option maxHeartbeats 2000000 in
theorem size_ok {w0 : World} {B g n : Nat} {bs : List Nat} {C : List Lk} {st : Nat → St} {gs : List Pm} (hCd : Chained w0 B g n bs C st gs) (h12 : n ≤ 12) (hbs : ∀ b, b ∈ bs → b < 12) (w : World) (hb0 : Below w0.heap.size w0 w) :
    Calls Tryz.prog 69 #[.slice (some ⟨g, 0, none⟩) n n] w fun e w' => e = .returned (.int .i64 (tabs C : Nat)) ∧ Below w.heap.size w w' := by
  have hC := hCd.chain.below hb0 (Nat.le_refl _)
  have hbase : ∀ l, l ∈ C → l.base < 12 := fun l hl => hbs _ (by rw [← hCd.bases]; exact List.mem_map.2 ⟨l, hl, rfl⟩)
  have hlen := whole_len C hCd.whole hbase
  have hle : tabs C ≤ 12 ^ 12 := by
    refine Nat.le_trans (tabs_le (fun l hl => (hlen l hl).2)) ?_
    rw [hCd.len]
    exact Nat.pow_le_pow_right (by decide) h12
  have hpos : ∀ i, 1 ≤ tabs (C.drop i) := fun i => by
    have : ∀ (c : List Lk), (∀ l, l ∈ c → 1 ≤ l.tab.length) → 1 ≤ tabs c := by
      intro c
      induction c with
      | nil => intro _; exact Nat.le_refl _
      | cons l c ih => intro h; exact Nat.mul_pos (h l List.mem_cons_self) (ih (fun y hy => h y (List.mem_cons_of_mem _ hy)))
    exact this _ (fun l hl => (hlen l (List.mem_of_mem_drop hl)).1)
  have h1212 : (12 : Nat) ^ 12 = 8916100448256 := by decide
  have HL : Hid (tabs C ≤ 8916100448256) := by show _ ≤ _; omega
  have HPS := hide hpos
  have HLN := hide hlen
  have HC := hide hC
  have HN := hide hCd.len
  clear hC hbase hlen hle hpos h1212 hCd
  go_enter Tryz.func69, Tryz.ntmps69
  go_wp2
  go_loopw [3, 8] (fun sm si wr => ∃ i m : Nat, i ≤ n ∧ si = .int .i64 i ∧ sm = .int .i64 m ∧ Hid (m * tabs (C.drop i) = tabs C) ∧ Below w.heap.size w wr) (fun _ si _ => n - (intOf si).toNat)
  case atStart => exact ⟨0, 1, by omega, rfl, rfl, by show 1 * tabs (C.drop 0) = _; rw [Nat.one_mul]; rfl, Below.refl _ _⟩
  case round =>
    obtain ⟨i, m, hi, rfl, rfl, hm, hbw⟩ := hrel
    have hbs' := hbw.size
    by_cases hlt : i < n
    · have hiC : i < C.length := by rw [HN.out]; exact hlt
      obtain ⟨l, hl⟩ : ∃ l, C[i]? = some l := ⟨_, List.getElem?_eq_getElem hiC⟩
      have lk := (HC.out.below hbw (Nat.le_refl _)).link i (rawOf l) (by rw [List.getElem?_map, hl]; rfl)
      have htd := tabs_drop hl
      have hll := HLN.out l (List.mem_of_getElem? hl)
      have hp := HPS.out (i + 1)
      have hm' : Hid (m * l.tab.length * tabs (C.drop (i + 1)) = tabs C) := by show _ = _; rw [Nat.mul_assoc, ← htd]; exact hm.out
      have hml : m * l.tab.length ≤ 8916100448256 := by
        have h1 := hm'.out
        have h2 := HL.out
        have h3 : m * l.tab.length ≤ m * l.tab.length * tabs (C.drop (i + 1)) := Nat.le_mul_of_pos_right _ hp
        omega
      have hmb : m ≤ 8916100448256 := Nat.le_trans (Nat.le_mul_of_pos_right _ hll.1) hml
      obtain ⟨pb, cb, ebv⟩ := owns_slice12 lk.bells
      obtain ⟨pg, cg, egv⟩ := owns_slice12 lk.gens
      have c0 := lk.c0
      have c1 := lk.c1
      have c2 := lk.c2
      have c3 := lk.c3
      rw [ebv] at c2
      rw [egv] at c3
      have hrange : wr.rangeAt g (i * 4) [.int .i64 ((l.base : Nat) : Int), .map (some (st i).m), .slice pb (rawOf l).bs.length cb, .slice pg (rawOf l).gs.length cg] := by
        rw [Nat.mul_comm]
        intro x v hv
        match x, hv with
        | 0, hv => rw [← Option.some.inj hv]; exact c0
        | 1, hv => rw [← Option.some.inj hv]; exact c1
        | 2, hv => rw [← Option.some.inj hv]; exact c2
        | 3, hv => rw [← Option.some.inj hv]; exact c3
        | x + 4, hv => cases hv
      have hbl : (rawOf l).bs.length = l.tab.length := by show (l.tab.map _).length = _; simp
      rw [hbl] at hrange
      generalize (st i).m = mm at *
      generalize (rawOf l).gs.length = ng at *
      generalize l.tab.length = t at *
      have hmt : (m : Int) * (t : Int) = ((m * t : Nat) : Int) := by rw [Int.natCast_mul]
      have hmt1 : (m : Int) * (t : Int) ≤ 8916100448256 := by rw [hmt]; omega
      have hmt0 : 0 ≤ (m : Int) * (t : Int) := by rw [hmt]; omega
      have HMT := hide hmt
      clear lk c0 c1 c2 c3 ebv egv htd hll hp hl hbl hmt
      go_wp2_with (refine wpList_load_mid rfl 99 _ rfl g _ rfl _ _ hrange Tryz.underlying99 rfl Tryz.size99 ?_)
      go_roundw
      case rel =>
        have hfin : ∃ i' m' : Nat, i' ≤ n ∧ Value.int .i64 ((i : Int) + 1) = .int .i64 (i' : Int) ∧ Value.int .i64 ((m : Int) * (t : Int)) = .int .i64 (m' : Int) ∧ Hid (m' * tabs (C.drop i') = tabs C) ∧ Below w.heap.size w (wr.alloc (.cells #[.int .i64 ((l.base : Nat) : Int), .map (some mm), .slice pb t cb, .slice pg ng cg] 99)) :=
          ⟨i + 1, m * t, by omega, by go_num, by rw [HMT.out], hm', hbw.alloc hbs' _⟩
        first
          | exact hfin
          | ((repeat apply Exists.intro); exact ⟨hfin, rfl⟩)
      case measure => simp [intOf]; omega
    · obtain rfl : i = n := by omega
      have HE : Hid (m = tabs C) := by
        have := hm.out
        rw [List.drop_eq_nil_of_le (by rw [HN.out]; exact Nat.le_refl _)] at this
        show m = tabs C
        rw [← this]
        exact (Nat.mul_one m).symm
      go_wp2
      go_ret
      exact ⟨ret_int (by rw [HE.out]), hbw⟩

end Go.Proofs.YtahffpgadoiijaaGreat

/- Plain: rows of as many bells with one rank are one. -/
namespace Go.Proofs.YtahffpgadoiijaaGreat

theorem cnt_cons (x z : Int) (l : List Int) : cnt x (z :: l) = (if z < x then 1 else 0) + cnt x l := by
  unfold cnt
  by_cases h : z < x
  · rw [List.filter_cons_of_pos (by simpa using h), if_pos h, List.length_cons]; omega
  · rw [List.filter_cons_of_neg (by simpa using h), if_neg h]; omega

theorem cnt_mono {x y : Int} (h : x < y) (l : List Int) : cnt x l ≤ cnt y l ∧ (x ∈ l → cnt x l < cnt y l) := by
  induction l with
  | nil => exact ⟨Nat.le_refl _, fun h => by cases h⟩
  | cons z l ih =>
    rw [cnt_cons, cnt_cons]
    refine ⟨?_, fun hm => ?_⟩
    · split <;> split <;> omega
    · rcases List.mem_cons.1 hm with rfl | hm
      · rw [if_neg (by omega), if_pos h]; omega
      · have := ih.2 hm
        split <;> split <;> omega

theorem rankR_lt : ∀ l : List Int, rankR l < fct l.length
  | [] => by decide
  | x :: xs => by
    have ih := rankR_lt xs
    have hc := cnt_le x xs
    show cnt x xs * fct xs.length + rankR xs < (xs.length + 1) * fct xs.length
    have h1 : cnt x xs * fct xs.length ≤ xs.length * fct xs.length := Nat.mul_le_mul_right _ hc
    rw [Nat.add_mul, Nat.one_mul]
    omega

theorem rankR_inj : ∀ (a b : List Int), a.Perm b → a.Nodup → rankR a = rankR b → a = b
  | [], b, hp, _, _ => (List.nil_perm.1 hp).symm
  | x :: xs, [], hp, _, _ => absurd hp.length_eq (by simp)
  | x :: xs, y :: ys, hp, hn, he => by
    have hl : xs.length = ys.length := by simpa using hp.length_eq
    have h1 := rankR_lt xs
    have h2 := rankR_lt ys
    have he' : cnt x xs * fct xs.length + rankR xs = cnt y ys * fct ys.length + rankR ys := he
    rw [← hl] at he' h2
    have hG := fct_pos xs.length
    have hc : cnt x xs = cnt y ys := by
      have e1 : (cnt x xs * fct xs.length + rankR xs) / fct xs.length = cnt x xs := by
        rw [Nat.mul_comm, Nat.mul_add_div hG, Nat.div_eq_of_lt h1]; rfl
      have e2 : (cnt y ys * fct xs.length + rankR ys) / fct xs.length = cnt y ys := by
        rw [Nat.mul_comm, Nat.mul_add_div hG, Nat.div_eq_of_lt h2]; rfl
      rw [← e1, ← e2, he']
    have hr : rankR xs = rankR ys := by rw [hc] at he'; omega
    have c1 : cnt x (x :: xs) = cnt x xs := by rw [cnt_cons, if_neg (by omega)]; omega
    have c2 : cnt y (y :: ys) = cnt y ys := by rw [cnt_cons, if_neg (by omega)]; omega
    have exy : x = y := by
      rcases Int.lt_trichotomy x y with h | h | h
      · have h3 := (cnt_mono h (x :: xs)).2 List.mem_cons_self
        rw [cnt_perm hp (x := y), c1, c2] at h3
        omega
      · exact h
      · have h3 := (cnt_mono h (y :: ys)).2 List.mem_cons_self
        rw [← cnt_perm hp (x := x), c1, c2] at h3
        omega
    subst exy
    rw [rankR_inj xs ys ((List.perm_cons x).1 hp) (List.nodup_cons.1 hn).2 hr]

theorem rank_inj {a b : List Int} (ha : isRow a) (hb : isRow b) (hl : b.length = a.length) (h : rkTo a a.length = rkTo b b.length) : a = b := by
  rw [rkTo_all, rkTo_all] at h
  refine rankR_inj a b ((row_perm_rnd ha).trans ?_) ha.2 h
  rw [← hl]
  exact (row_perm_rnd hb).symm

end Go.Proofs.YtahffpgadoiijaaGreat

/- Contract: Pick. -/
namespace Go.Proofs.YtahffpgadoiijaaGreat
open Go.RowKit

set_option maxHeartbeats 400000 in
theorem pick_any (c n : Int) (w : World) (h1 : -9223372036854775808 ≤ c) (h2 : c ≤ 9223372036854775807) (h3 : 0 < n) (h4 : n ≤ 9223372036854775807) :
    Calls Tryz.prog 4 #[.int .i64 c, .int .i64 n] w fun e w' => ∃ k : Int, 0 ≤ k ∧ k < n ∧ e = .returned (.int .i64 k) ∧ w = w' := by
  by_cases h : c < 0
  · go_enter Tryz.func4, Tryz.ntmps4
    go_wp2
    go_ret
    refine ⟨_, ?_, ?_, rfl, rfl⟩
    · rw [← Int.neg_tmod]; exact Int.tmod_nonneg _ (by omega)
    · rw [← Int.neg_tmod]; exact Int.tmod_lt_of_pos _ h3
  · go_enter Tryz.func4, Tryz.ntmps4
    go_wp2
    go_ret
    refine ⟨_, ?_, ?_, rfl, rfl⟩
    · exact Int.emod_nonneg _ (by omega)
    · exact Int.emod_lt_of_pos _ h3

/-- Which of n things a raw number speaks of. -/
def pk (c n : Int) : Int := (if c < 0 then -(c + 1) else c) % n

theorem pk_range (c : Int) {n : Int} (h : 0 < n) : 0 ≤ pk c n ∧ pk c n < n := ⟨Int.emod_nonneg _ (by omega), Int.emod_lt_of_pos _ h⟩

set_option maxHeartbeats 400000 in
theorem pick_det (c n : Int) (w : World) (h1 : -9223372036854775808 ≤ c) (h2 : c ≤ 9223372036854775807) (h3 : 0 < n) (h4 : n ≤ 9223372036854775807) :
    Calls Tryz.prog 4 #[.int .i64 c, .int .i64 n] w fun e w' => e = .returned (.int .i64 (pk c n)) ∧ w = w' := by
  by_cases h : c < 0
  · have HP : Hid (pk c n = (-(c + 1)) % n) := by show _ = _; unfold pk; rw [if_pos h]
    go_enter Tryz.func4, Tryz.ntmps4
    go_wp2
    go_ret
    refine ⟨ret_int ?_, rfl⟩
    rw [HP.out, ← Int.neg_tmod, Int.tmod_eq_emod_of_nonneg (by omega)]
  · have HP : Hid (pk c n = c % n) := by show _ = _; unfold pk; rw [if_neg h]
    go_enter Tryz.func4, Tryz.ntmps4
    go_wp2
    go_ret
    exact ⟨ret_int HP.out.symm, rfl⟩

end Go.Proofs.YtahffpgadoiijaaGreat

/- Pick: see PickB. -/
namespace Go.Proofs.YtahffpgadoiijaaGreat
end Go.Proofs.YtahffpgadoiijaaGreat

/- A number that an int may be. -/
namespace Go.Proofs.YtahffpgadoiijaaGreat
open Go.RowKit


end Go.Proofs.YtahffpgadoiijaaGreat

/- Contract: Raw. -/
namespace Go.Proofs.YtahffpgadoiijaaGreat
open Go.RowKit

theorem wrap_I64 (x : Int) : I64 (wrap64 x) := by
  unfold I64 wrap64
  omega

set_option maxRecDepth 20000 in
set_option maxHeartbeats 400000 in
theorem raw_any (v : Value) (xs : List Int) (k : Nat) (w : World) (h : Ints w v xs) (hx : ∀ x, x ∈ xs → I64 x) (hk : k ≤ 1000000) :
    Calls Tryz.prog 18 #[v, .int .i64 k] w fun e w' => ∃ x, I64 x ∧ e = .returned (.int .i64 x) ∧ w = w' := by
  rcases h with ⟨rfl, p, c, rfl⟩ | ⟨b, off, cap, rfl, h0, hc, hm, hb, hcell⟩
  · go_enter Tryz.func18, Tryz.ntmps18
    go_wp2
    go_ret
    exact ⟨0, ⟨by omega, by omega⟩, rfl, rfl⟩
  · have hml : k % xs.length < xs.length := Nat.mod_lt _ h0
    have hme : (k : Int) % (xs.length : Int) = ((k % xs.length : Nat) : Int) := (Int.natCast_emod k xs.length).symm
    obtain ⟨x, hxe, hcx⟩ := cellAt hcell hml
    have hxm : I64 x := hx x (by rw [← hxe.out, List.getElem?_eq_getElem hml]; exact List.getElem_mem hml)
    have hne : ((xs.length : Int) == 0) = false := by rw [beq_eq_false_iff_ne]; omega
    generalize k % xs.length = m at *
    have HX := hide hx
    clear hcell hx hxe
    go_enter Tryz.func18, Tryz.ntmps18
    go_wp2
    go_ret
    exact ⟨x, hxm, rfl, rfl⟩

end Go.Proofs.YtahffpgadoiijaaGreat

/- Contract: RowOf. -/
namespace Go.Proofs.YtahffpgadoiijaaGreat
open Go.RowKit

set_option maxRecDepth 20000 in
set_option maxHeartbeats 400000 in
theorem rowOf_ok (c : Int) (n : Nat) (w : World) (h : I64 c) (h12 : n ≤ 12) :
    Calls Tryz.prog 17 #[.int .i64 c, .int .i64 n] w fun e w' => ∃ v X, e = .returned v ∧ isRow X ∧ X.length = n ∧ w'.ownsRow w.heap.size 3 1 v n (X.map (Value.int .i64)) ∧ Below w.heap.size w w' := by
  obtain ⟨l0, u0⟩ := h
  have hF0 : (0 : Int) < ((fct n : Nat) : Int) := by have := fct_pos n; omega
  have hF1 : ((fct n : Nat) : Int) ≤ 9223372036854775807 := by have := fct_le h12; omega
  go_enter Tryz.func17, Tryz.ntmps17
  go_wp2_with fail
  refine (factorial_any n _ h12).mono ?_
  rintro e wa ⟨rfl, rfl⟩
  go_wp2_with fail
  refine (pick_any _ _ _ l0 u0 hF0 hF1).mono ?_
  rintro e wa ⟨k, hk0, hk1, rfl, rfl⟩
  obtain ⟨kx, rfl⟩ := Int.eq_ofNat_of_zero_le hk0
  have hkx : kx < fct n := by omega
  clear hk0 hk1 l0 u0
  go_wp2_with fail
  refine (rat_own n kx _ h12 hkx).mono ?_
  rintro e w1 ⟨v, rfl, ho, hb⟩
  have HO := hide ho
  clear ho
  go_wp2
  go_ret
  exact ⟨_, rowAt n kx, rfl, rowAt_row hkx, rowAt_length hkx, HO.out, hb⟩

end Go.Proofs.YtahffpgadoiijaaGreat

/- Contracts: Raw, RowOf, RowsOf. -/
namespace Go.Proofs.YtahffpgadoiijaaGreat
open Go.RowKit

structure RowsRel (w wr : World) (n k : Nat) (v : Value) (vs : List Value) (xss : List (List Int)) : Prop where
  row : wr.ownsRow w.heap.size 22 1 v k vs
  all : OwnAll wr w.heap.size vs xss
  len : vs.length = k
  rows : RowsN n xss
  below : Below w.heap.size w wr

set_option maxRecDepth 20000 in
set_option maxHeartbeats 2000000 in
theorem rowsOf_ok2 (v : Value) (xs : List Int) (f n m : Nat) (w : World) (h : Ints w v xs) (hx : ∀ x, x ∈ xs → I64 x) (hf : f ≤ 1000) (h1 : 1 ≤ n) (h12 : n ≤ 12) (hm : m ≤ 1000) :
    Calls Tryz.prog 6 #[v, .int .i64 f, .int .i64 n, .int .i64 m] w fun e w' => ∃ u vs xss, e = .returned u ∧ RowsRel w w' n m u vs xss := by
  obtain ⟨i0, hi, hz0, hz1, hz2⟩ := info_parts Tryz.info22
  have HI := hide h
  have HX := hide hx
  clear h hx
  go_enter Tryz.func6, Tryz.ntmps6
  go_wp2
  go_loopw [9, 10] (fun u i wr => ∃ (k : Nat) (vs : List Value) (xss : List (List Int)), k ≤ m ∧ i = .int .i64 k ∧ RowsRel w wr n k u vs xss) (fun _ i _ => m - (intOf i).toNat)
  case atStart => exact ⟨0, [], [], by omega, rfl, ⟨World.ownsRow_nil _ _ _ _, trivial, rfl, (fun x hx => absurd hx (by simp)), Below.refl _ _⟩⟩
  case round =>
    obtain ⟨k, vs, xss, hk, rfl, hR⟩ := hrel
    have hbw := hR.below
    have hbs := hbw.size
    by_cases hlt : k < m
    · have HR := hide hR
      have e1 : (f : Int) + (k : Int) = ((f + k : Nat) : Int) := by omega
      have e2 : ((f + k : Nat) : Int) + 1 = ((f + k + 1 : Nat) : Int) := by omega
      have E1 := hide e1
      have E2 := hide e2
      have HRaw1 := hide (raw_any v xs (f + k) wr (HI.out.below hbw) HX.out (by omega))
      have HRaw2 := hide (raw_any v xs (f + k + 1) wr (HI.out.below hbw) HX.out (by omega))
      rw [← E2.out] at HRaw2
      rw [← E1.out] at HRaw1 HRaw2
      clear e1 e2 hR hbw
      go_wp2_with fail
      refine HRaw1.out.mono ?_
      rintro e wa ⟨x1, hx1, rfl, rfl⟩
      go_wp2_with fail
      refine HRaw2.out.mono ?_
      rintro e wa ⟨x2, hx2, rfl, rfl⟩
      go_wp2_with fail
      refine (rowOf_ok _ n _ (wrap_I64 _) h12).mono ?_
      rintro e w1 ⟨u, X, rfl, hXr, hXl, ho, hb1⟩
      obtain ⟨gx, cx, rfl, _, _, _, _⟩ := owns_form ho h1
      have hrow1 := owns_below HR.out.row hb1 (Nat.le_refl _)
      have hs1 := hb1.size
      go_wp2_with (at_builtin; refine wpList_append_own _ rfl _ _ 25 rfl w.heap.size 22 i0 (.slice none 0 0) 1 24 Tryz.underlying25 hi hz0 hz1 hz2 rfl (by decide) _ _ _ rfl (hrow1.alloc _) ⟨w1.heap.size, 0, none⟩ 1 1 [.slice (some ⟨gx, 0, none⟩) n cx] rfl rfl ?c1 ?c2 ?c3 ?c4 ?c5 ?_)
      case c1 => exact cell_one_new _ _ _
      case c2 => intro u hu; simp at hu; subst hu; rfl
      case c3 => unfold maxLen; omega
      case c4 => omega
      case c5 => simp; omega
      · intro v' w4 hown4 hgrow _
        have hR4 : RowsRel w w4 n (k + 1) v' (vs ++ [.slice (some ⟨gx, 0, none⟩) n cx]) (xss ++ [X]) := by
          refine ⟨hown4, OwnAll.snoc ?_ (HR.out.all.mono (fun _ _ _ h' => owns_kept_ty ((owns_below h' hb1 (Nat.le_refl _)).alloc _) (hrow1.alloc _) hgrow)), by rw [List.length_append, HR.out.len]; rfl, ?_, ?_⟩
          · rw [hXl]
            exact owns_kept_ty ((owns_base ho hbs).alloc _) (hrow1.alloc _) hgrow
          · intro y hy
            rcases List.mem_append.1 hy with hy | hy
            · exact HR.out.rows y hy
            · rw [List.mem_singleton.1 hy]; exact ⟨hXr, hXl⟩
          · refine ((HR.out.below.trans (hb1.mono hbs)).alloc (by omega) _).grown hgrow (by simp; omega) (fun g' hg' => (hrow1.lt g' hg').1)
        have HR4 := hide hR4
        clear hR4 hown4 hgrow hrow1 ho
        go_wp2
        go_roundw
        case rel => exact ⟨k + 1, _, _, by omega, by go_num, HR4.out⟩
        case measure => simp [intOf]; omega
    · obtain rfl : k = m := by omega
      have HR := hide hR
      clear hR hbw
      go_wp2
      go_ret
      exact ⟨_, vs, xss, rfl, HR.out⟩

theorem RowsRel.all' {w w' : World} {n m : Nat} {u : Value} {vs : List Value} {xss : List (List Int)} (h : RowsRel w w' n m u vs xss) : IntsAll w' u xss ∧ xss.length = m := by
  have e := OwnAll.length h.all
  have hr := h.row
  rw [← h.len] at hr
  exact ⟨IntsAll.own hr h.all, by rw [← e]; exact h.len⟩

end Go.Proofs.YtahffpgadoiijaaGreat

/- append of owned slices, nil or not; slices held against nil. -/
namespace Go.Proofs.YtahffpgadoiijaaGreat
open Go.RowKit

/-- 'append(s, nil...)': s itself, where s is no nil slice. -/
theorem run_append_nothing {P : Program} (w : World) (t ty e : TypeId) (i : TypeInfo) (ht : P.underlying t = some (.slice e)) (hi : P.info? e = some i) (a : Addr) (n cap : Nat) (hn : n ≤ cap) :
    (Builtin.append_ #[t, t] ty #[.slice (some a) n cap, .slice none 0 0]).run P w = .ok (.slice (some a) n cap) w := by
  simp [Builtin.append_, run_underlying ht, sizeOf, typeInfo, hi, Builtin.lenOf, Builtin.firstCells, loadCells, hn, storeCells]

theorem wpList_append_nothing {P : Program} (w : World) {ops : Array Oper} {rest : List Oper} {o : Oper} {a : Act} {Q : Exit → Act → World → Prop} (hgd : o.guard = none) (s x : Operand) (t : TypeId)
    (ho : o.op = .call { callee := .builtin .append, args := #[s, x], argTypes := #[t, t] })
    (e : TypeId) (i : TypeInfo) (ht : P.underlying t = some (.slice e)) (hi : P.info? e = some i)
    (ad : Addr) (n cap : Nat) (hn : n ≤ cap) (hs : a.eval s = .slice (some ad) n cap) (hx : a.eval x = .slice none 0 0)
    (h : wpList P ops Q rest (a.put o.dst (.slice (some ad) n cap)) w) : wpList P ops Q (o :: rest) a w := by
  refine wpList_plain hgd fun K hK => ?_
  have hr := run_append_nothing (P := P) w t o.type e i ht hi ad n cap hn
  unfold Oper.wp execOp
  simp only [ho, resolve, invoke, builtin, Sem.run_bind, Sem.run_pure, Result.andThen_ok, List.map_toArray, List.map_cons, List.map_nil, hs, hx, hr]
  exact hK _ _ h

theorem run_append_nil_nil {P : Program} (w : World) (t ty e : TypeId) (i : TypeInfo) (ht : P.underlying t = some (.slice e)) (hi : P.info? e = some i) :
    (Builtin.append_ #[t, t] ty #[.slice none 0 0, .slice none 0 0]).run P w = .ok (.slice none 0 0) w := by
  simp [Builtin.append_, run_underlying ht, sizeOf, typeInfo, hi, Builtin.lenOf, Builtin.firstCells]

/-- 'append(a, b...)', both owned, nil or not. -/
theorem wpList_append_more {P : Program} {w : World} {ops : Array Oper} {rest : List Oper} {o : Oper} {a : Act} {Q : Exit → Act → World → Prop} (hgd : o.guard = none) (s x : Operand) (t : TypeId)
    (ho : o.op = .call { callee := .builtin .append, args := #[s, x], argTypes := #[t, t] })
    (base base' : Nat) (e : TypeId) (i : TypeInfo) (z : Value) (bytes : Nat) (ht : P.underlying t = some (.slice e)) (hi : P.info? e = some i) (hz : i.zero = some z)
    (hsize : i.size = 1) (hby : i.bytes = bytes) (hzs : z.cells.size = 1)
    (v : Value) (n : Nat) (xs : List Value) (hs : a.eval s = v) (hown : w.ownsRow base e 1 v n xs)
    (u : Value) (m : Nat) (news : List Value) (hx : a.eval x = u) (hsrc : w.ownsRow base' e 1 u m news) (h1 : ∀ u ∈ news, u.oneCell' = true)
    (h63 : n + m ≤ maxLen) (hbytes : (n + m) * bytes ≤ 140737488355328) (hbase : base ≤ w.heap.size)
    (h : ∀ v' w', w'.ownsRow base e 1 v' (n + m) (xs ++ news) → w.grownBy w' v.ownBlock → wpList P ops Q rest (a.put o.dst v') w') :
    wpList P ops Q (o :: rest) a w := by
  rcases hsrc.2 with ⟨rfl, rfl⟩ | ⟨g', cap, cur, rfl, hbg, hg, hnc, hcm, hcs, htake⟩
  · have hn : news = [] := List.length_eq_zero_iff.1 (by have := hsrc.1; omega)
    subst hn
    rw [Nat.add_zero, List.append_nil] at h
    have hr : w.grownBy w v.ownBlock := ⟨rfl, rfl, rfl, Nat.le_refl _, fun _ _ _ => rfl⟩
    rcases hown.2 with ⟨rfl, rfl⟩ | ⟨g2, cap2, cur2, rfl, _, _, hnc2, _⟩
    · refine wpList_plain hgd fun K hK => ?_
      have hrun := run_append_nil_nil (P := P) w t o.type e i ht hi
      unfold Oper.wp execOp
      simp only [ho, resolve, invoke, builtin, Sem.run_bind, Sem.run_pure, Result.andThen_ok, List.map_toArray, List.map_cons, List.map_nil, hs, hx, hrun]
      exact hK _ _ (h _ _ hown hr)
    · exact wpList_append_nothing w hgd s x t ho e i ht hi _ n cap2 hnc2 hs hx (h _ _ hown hr)
  · refine wpList_append_own w hgd s x t ho base e i z 1 bytes ht hi hz hsize hby hzs (by decide) v n xs hs hown ⟨g', 0, none⟩ m cap news hx (by rw [hsrc.1]) (hsrc.cells (g := g') rfl) h1 h63 hbytes hbase ?_
    intro v' w' h2 h3 _
    exact h v' w' h2 h3

theorem OwnAll.join {w : World} {base : Nat} {vs : List Value} {ys : List (List Int)} (h2 : OwnAll w base vs ys) : ∀ {us : List Value} {xs : List (List Int)}, OwnAll w base us xs → OwnAll w base (us ++ vs) (xs ++ ys)
  | [], [], _ => h2
  | _ :: _, _ :: _, ⟨h1, h3⟩ => ⟨h1, OwnAll.join h2 h3⟩

theorem OwnAll.low {w : World} {base base' : Nat} (hb : base' ≤ base) : ∀ {us : List Value} {xs : List (List Int)}, OwnAll w base us xs → OwnAll w base' us xs
  | [], [], _ => trivial
  | _ :: _, _ :: _, ⟨h1, h2⟩ => ⟨owns_base h1 hb, OwnAll.low hb h2⟩

theorem OwnAll.cells {w : World} {base : Nat} : ∀ {us : List Value} {xs : List (List Int)}, OwnAll w base us xs → ∀ u, u ∈ us → u.oneCell' = true
  | [], [], _, u, hu => by cases hu
  | _ :: _, _ :: _, ⟨h1, h2⟩, u, hu => by
    rcases List.mem_cons.1 hu with rfl | hu
    · rcases h1.2 with ⟨rfl, _⟩ | ⟨_, _, _, rfl, _⟩
      · rfl
      · rfl
    · exact OwnAll.cells h2 u hu

theorem run_nil_eq (w : World) : (binOp BinOp.eql 22 (.slice none 0 0) (.slice none 0 0)).run Tryz.prog w = .ok (.bool true) w := by kernel_rfl
theorem run_nil_ne (w : World) : (binOp BinOp.neq 22 (.slice none 0 0) (.slice none 0 0)).run Tryz.prog w = .ok (.bool false) w := by kernel_rfl
theorem run_some_eq (a : Addr) (n c : Nat) (w : World) : (binOp BinOp.eql 22 (.slice (some a) n c) (.slice none 0 0)).run Tryz.prog w = .ok (.bool false) w := by kernel_rfl
theorem run_some_ne (a : Addr) (n c : Nat) (w : World) : (binOp BinOp.neq 22 (.slice (some a) n c) (.slice none 0 0)).run Tryz.prog w = .ok (.bool true) w := by kernel_rfl

end Go.Proofs.YtahffpgadoiijaaGreat
