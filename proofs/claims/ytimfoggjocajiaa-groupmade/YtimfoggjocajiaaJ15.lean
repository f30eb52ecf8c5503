/- Joined: GeT, GeU, GeV, GrD, GrE. -/
import Derived.Test.YtimfoggjocajiaaJ5
import Derived.Deep.QuietTactic
import Derived.Test.YtimfoggjocajiaaJ7
import Derived.BigQuiet
import Derived.Test.YtimfoggjocajiaaJ14
/- Contract: newChain by the bases that Still turns (mkget.py). -/
namespace Go.Proofs.Ytimfoggjocajiaa
open Go.RowKit

theorem link_laidT {w wr w1 w2 : World} {n j c : Nat} {bs : List Nat} {st : Nat → St} (hPre : PreAt wr w.heap.size w.heap.size n (((bs.take j).map lk0).map rawOf) st) (hlt : j < n) (hbl : bs.length = n) (hbj : bs[j]? = some c) (hbw : Below w.heap.size w wr) (hb01 : Below wr.heap.size wr w1) (hs1 : wr.heap.size < w1.heap.size)
    (hM2 : IMap w2 wr.heap.size (0 + 1) (upd (fun _ => none) (c : Int) (pv 1))) (hg2 : w1.grownBy w2 (some wr.heap.size)) :
    ∃ st', PreAt ((w2.alloc (.cells #[.int .i64 (c : Int)] 3)).setCells w.heap.size (j * 4) [.int .i64 (c : Int), .map (some wr.heap.size), .slice (some ⟨w2.heap.size, 0, none⟩) 1 1, .slice none 0 0]) w.heap.size w.heap.size n (((bs.take (j + 1)).map lk0).map rawOf) st' ∧ Below w.heap.size w ((w2.alloc (.cells #[.int .i64 (c : Int)] 3)).setCells w.heap.size (j * 4) [.int .i64 (c : Int), .map (some wr.heap.size), .slice (some ⟨w2.heap.size, 0, none⟩) 1 1, .slice none 0 0]) := by
  have hR : (((bs.take j).map lk0).map rawOf).length = j := by simp; omega
  have hs2 := hg2.size
  have hbs := hbw.size
  have hb2 : Below wr.heap.size wr (w2.alloc (.cells #[.int .i64 (c : Int)] 3)) := (hb01.grown hg2 hb01.size (fun k h => by have := Option.some.inj h; omega)).alloc (by omega) _
  have hM3 := hM2.alloc (.cells #[.int .i64 (c : Int)] 3)
  rw [tabF_one] at hM3
  have hO : (w2.alloc (.cells #[.int .i64 (c : Int)] 3)).ownsRow w.heap.size 3 1 (.slice (some ⟨w2.heap.size, 0, none⟩) 1 1) 1 [.int .i64 (c : Int)] := owns_base (one_owned w2 (c : Int)) (by omega)
  have hst := hPre.step (base := c) (by rw [hR]; exact hlt) hb2 hM3 (by omega) (Nat.le_refl _) hO (by omega)
  rw [hR, show ((bs.take j).map lk0).map rawOf ++ [rawOf (lk0 c)] = ((bs.take (j + 1)).map lk0).map rawOf from by rw [List.take_add_one, hbj]; simp] at hst
  exact ⟨_, hst, (hbw.trans (hb2.mono hbw.size)).trans (below_setCells _ _ _ _ (Nat.le_refl _))⟩

set_option maxRecDepth 20000 in
set_option maxHeartbeats 4000000 in
theorem newChainT_ok (n b2 b3 : Nat) (bs : List Nat) (v1 : Value) (gs : List Pm) (w : World) (h1 : 1 ≤ n) (h12 : n ≤ 12) (hP : Packs w v1 gs) (hgs : gs.length ≤ 8916100448256) (hF : ∀ x, x ∈ gs → Fixes (fun b => n ≤ b) x) (hbl : bs.length = n) (hb12 : ∀ b, b ∈ bs → b < 12) (hba : ∀ b, b < 12 → n ≤ b ∨ b ∈ bs)
    (hBase : ∀ (j c : Nat) (W : World), bs[j]? = some c → Below w.heap.size w W → Calls Try.prog 97 #[.int .i64 (j : Int), .pointer (some ⟨b3, 0, none⟩), .pointer (some ⟨b2, 0, none⟩)] W fun e w' => e = .returned (.int .i64 (c : Int)) ∧ Below W.heap.size W w') :
    Calls Try.prog 98 #[.int .i64 n, v1, .func (.func 97) #[] #[.pointer (some ⟨b3, 0, none⟩), .pointer (some ⟨b2, 0, none⟩)]] w fun e w' => ∃ g C st, e = .returned (.slice (some ⟨g, 0, none⟩) n n) ∧ Chained w' w.heap.size g n bs C st gs ∧ Below w.heap.size w w' := by
  obtain ⟨i0, hi, hz0, hz1, hz2⟩ := info_parts Try.info136
  obtain ⟨pp, pcap, rfl⟩ := hP.form
  have HP := hide hP
  have HFx := hide hF
  have HBL := hide hbl
  have HB12 := hide hb12
  have HBA := hide hba
  have HBase := hide hBase
  have hmm := @run_makeMap Try.prog
  have hl1 := (1 : Pm).len
  clear hP hF hbl hb12 hba hBase
  go_enter Try.func98, Try.ntmps98
  go_wp2_with (at_make; refine wpList_make_full _ rfl _ _ 97 rfl w.heap.size 136 i0 (.agg #[.int .i64 0, .map none, .slice none 0 0, .slice none 0 0]) 4 Try.underlying97 hi hz0 hz1 _ _ _ _ n rfl rfl (by omega) (by omega) ?b2 ?b3 (Nat.le_refl _) ?_)
  case b2 => rw [hz2]; omega
  case b3 => unfold maxLen; omega
  intro w0 hown0 hgrow0
  have hPre0 : PreAt w0 w.heap.size w.heap.size n (((bs.take 0).map lk0).map rawOf) (fun _ => ⟨0, .slice none 0 0, .slice none 0 0⟩) := by
    refine ⟨?_, Nat.le_refl _, fun j r h => by simp at h, fun i j h => by simp at h, fun i j h => by simp at h, fun i j h => by simp at h⟩
    rcases hown0.2 with ⟨h, _⟩ | ⟨g', cap', cur, hv, _, hh, _, _, hs, _⟩
    · cases h
    · injection hv with e1 _ e3
      injection e1 with e1
      injection e1 with e1
      subst e1; subst e3
      exact ⟨cur, hh, by rw [hs, Nat.mul_comm]⟩
  have hB0 : Below w.heap.size w w0 := (Below.refl _ _).grown hgrow0 (Nat.le_refl _) (fun k h => by cases h)
  clear hown0 hgrow0
  go_wp2
  go_loopw [16] (fun i wr => ∃ (j : Nat) (st : Nat → St), j ≤ n ∧ i = .int .i64 j ∧ PreAt wr w.heap.size w.heap.size n (((bs.take j).map lk0).map rawOf) st ∧ Below w.heap.size w wr) (fun i _ => n - (intOf i).toNat)
  case atStart => exact ⟨0, _, by omega, rfl, hPre0, hB0⟩
  case round =>
    clear hPre0 hB0
    obtain ⟨j, st, hj, rfl, hPre, hbw⟩ := hrel
    by_cases hlt : j < n
    · obtain ⟨c, hbj⟩ : ∃ c, bs[j]? = some c := ⟨_, List.getElem?_eq_getElem (by rw [HBL.out]; exact hlt)⟩
      have hc12 : c < 12 := HB12.out c (List.mem_of_getElem? hbj)
      have HBJ := hide hbj
      have HCal := hide (HBase.out j c wr hbj hbw)
      clear hbj
      have HPre := hide hPre
      have hbs := hbw.size
      have hsw : w.heap.size < wr.heap.size := by obtain ⟨cs, ho, _⟩ := hPre.obj; exact (Array.getElem?_eq_some_iff.1 ho).1
      clear hPre
      go_wp2_with fail
      refine HCal.out.mono ?_
      rintro e wc ⟨rfl, hbc⟩
      have hM0 := IMap.made wc
      have hbwc : Below w.heap.size w wc := hbw.trans (hbc.mono hbw.size)
      have HPreC := hide (HPre.out.below hbc (Nat.le_refl _))
      have hswc : w.heap.size < wc.heap.size := Nat.lt_of_lt_of_le hsw hbc.size
      clear HPre HCal hbw hbs hsw hbc
      have HPre := HPreC
      have hbw := hbwc
      have hsw := hswc
      have hbs := hbwc.size
      clear HPreC hbwc hswc
      go_wp2_with fail
      refine (prounds_ok _).mono ?_
      rintro e w1 ⟨rfl, hb1⟩
      replace hb1 := below_alloc hb1
      have hM1 := hM0.below hb1 (by omega)
      have hb01 : Below wc.heap.size wc w1 := ((Below.refl _ _).alloc (Nat.le_refl _) _).trans (hb1.mono (by omega))
      have hs1 : wc.heap.size < w1.heap.size := by have := hb1.size; simp at this; omega
      clear hM0 hb1
      have hgth : ∀ (W : World) (o : Obj), W.heap[w.heap.size]? = wc.heap[w.heap.size]? → w.heap.size < W.heap.size → (W.alloc o).there w.heap.size (j * 4) 4 := fun W o hW hlt2 => by
        obtain ⟨cs, ho, hos⟩ := HPre.out.obj
        exact there_obj ((Below.heap_alloc W o _ hlt2).trans (hW.trans ho)) hos _ _ (by omega)
      have HG := hide hgth
      have HZL : Hid (0 < maxLen) := by unfold Hid maxLen; omega
      have HJ1 : Hid (-9223372036854775808 ≤ (c : Int)) := by show _ ≤ _; omega
      have HJ2 : Hid ((c : Int) ≤ 9223372036854775807) := by show _ ≤ _; omega
      clear hgth
      go_wp2_with (refine wpList_insert rfl _ _ _ 134 rfl 91 Try.underlying134 hM1 HZL.out (c : Int) (pv 1) rfl rfl rfl HJ1.out HJ2.out ?_)
      intro w2 hM2 hg2
      have hth2 := HG.out w2 (.cells #[.int .i64 (c : Int)] 3) ((hg2.block w.heap.size (by omega) (by intro e; have := Option.some.inj e; omega)).trans (hb01.block w.heap.size hsw)) (by have := hg2.size; omega)
      obtain ⟨x0, d0⟩ := Option.isSome_iff_exists.1 (hth2 0 (by omega)).1
      obtain ⟨x1, d1⟩ := Option.isSome_iff_exists.1 (hth2 1 (by omega)).1
      obtain ⟨x2, d2⟩ := Option.isSome_iff_exists.1 (hth2 2 (by omega)).1
      obtain ⟨x3, d3⟩ := Option.isSome_iff_exists.1 (hth2 3 (by omega)).1
      have f0 := (hth2 0 (by omega)).2
      have f1 := (hth2 1 (by omega)).2
      have f2 := (hth2 2 (by omega)).2
      have f3 := (hth2 3 (by omega)).2
      rw [Nat.add_zero] at d0 f0
      have hLL := link_laidT HPre.out hlt HBL.out HBJ.out hbw hb01 hs1 hM2 hg2
      have HLL := hide hLL
      clear hLL hM2 hg2 hth2 hb01 hM1 HG HZL HJ1 HJ2
      obtain ⟨st', HST, HB3⟩ := HLL.out
      replace HST := hide HST
      replace HB3 := hide HB3
      clear HLL
      go_wp2
      go_roundw
      case rel =>
        have hfin : ∃ (j' : Nat) (st : Nat → St), j' ≤ n ∧ Value.int .i64 ((j : Int) + 1) = .int .i64 (j' : Int) ∧ PreAt ((w2.alloc (.cells #[.int .i64 (c : Int)] 3)).setCells w.heap.size (j * 4) [.int .i64 (c : Int), .map (some wc.heap.size), .slice (some ⟨w2.heap.size, 0, none⟩) 1 1, .slice none 0 0]) w.heap.size w.heap.size n (((bs.take j').map lk0).map rawOf) st ∧ Below w.heap.size w ((w2.alloc (.cells #[.int .i64 (c : Int)] 3)).setCells w.heap.size (j * 4) [.int .i64 (c : Int), .map (some wc.heap.size), .slice (some ⟨w2.heap.size, 0, none⟩) 1 1, .slice none 0 0]) :=
          ⟨j + 1, _, by omega, by go_num, HST.out, HB3.out⟩
        first
          | exact hfin
          | ((repeat apply Exists.intro); exact ⟨hfin, rfl⟩)
      case measure => simp [intOf]; omega
    · obtain rfl : j = n := by omega
      have hCh := hPre.all (by rw [List.take_of_length_le (by rw [HBL.out]; exact Nat.le_refl _)]; simp; exact HBL.out)
      rw [List.take_of_length_le (by rw [HBL.out]; exact Nat.le_refl _)] at hCh
      have HCh := hide hCh
      have HBw := hide hbw
      have hbs := hbw.size
      clear hPre hCh hbw
      obtain ⟨wo, hwo⟩ : ∃ wo : World, wo = wr := ⟨_, rfl⟩
      go_wp2
      go_loopw [36] (fun i wr => ∃ (q : Nat) (C : List Lk) (st : Nat → St), q ≤ gs.length ∧ i = .int .i64 q ∧ C.length = j ∧ Hid (C.map (·.base) = bs) ∧ Whole (fun b => j ≤ b) C ∧ Hid (∀ x, Prd C x ↔ Gen (fun y => y ∈ gs.take q) x) ∧ ChainAt wr w.heap.size w.heap.size (C.map rawOf) st ∧ Below w.heap.size w wr ∧ Hid (∀ l, l ∈ C → l.gens.Nodup)) (fun i _ => gs.length - (intOf i).toNat)
      case atStart =>
        refine ⟨0, bs.map lk0, st, by omega, rfl, by simp; exact HBL.out, ?_, whole_lk0 _ _ (fun b hb => ?_), ?_, HCh.out, HBw.out, ?_⟩
        · show (bs.map lk0).map (·.base) = _
          rw [List.map_map]
          exact List.map_id _
        · exact HBA.out b hb
        · intro x
          rw [prd_lk0, List.take_zero]
          exact ⟨fun e => by rw [e]; exact Gen.one, gen_none⟩
        · intro l hl
          obtain ⟨b, _, rfl⟩ := List.mem_map.1 hl
          exact List.nodup_nil
      case round =>
        clear hwo
        obtain ⟨q, C, st, hq, rfl, hlen, hbas, hW, hg, hCh, hbw, hnd⟩ := hrel
        by_cases hlt : q < gs.length
        · obtain ⟨s, hs⟩ : ∃ s, gs[q]? = some s := ⟨_, List.getElem?_eq_getElem hlt⟩
          have hfs := HFx.out s (List.mem_of_getElem? hs)
          have hPk := HP.out.below hbw (Nat.le_refl _)
          obtain ⟨b, off, hpp, hrange, hb⟩ : ∃ b off, pp = some ⟨b, off, none⟩ ∧ wr.rangeAt b (off + q * 12) (s.l.map (Value.int .i8)) ∧ gs.length ≤ pcap := by
            rcases hPk with ⟨e, _⟩ | ⟨b, off, cap, hv, _, hc, _, _, hr⟩
            · rw [e] at hlt; simp at hlt
            · injection hv with e1 _ e3
              exact ⟨b, off, e1, hr q s hs, by omega⟩
          have hin : (Try.prog.info? 91).map (·.size) = some (s.l.map (Value.int .i8)).length := by rw [List.length_map, s.len]; exact Try.size91
          have hsl := s.len
          have HS := hide hs
          have HCh := hide hCh
          have HW := hide hW
          have HLen := hide hlen
          have hbs := hbw.size
          subst hpp
          clear hs hPk hCh hW hlen
          go_wp2_with (first
            | refine wpList_load_mid rfl 91 _ rfl b _ rfl _ _ hrange Try.underlying91 rfl hin ?_
            | (refine wpList_store_arr rfl _ _ rfl wr.heap.size zeros12 s.l (zeros_new wr) rfl rfl hsl ?_; intro w6 hX6 hg6)
            | refine wpList_load_arr rfl _ rfl wr.heap.size s.l hX6 rfl ?_)
          have hb6 : Below wr.heap.size wr w6 := ((Below.refl _ _).alloc (Nat.le_refl _) _).grown hg6 (by simp) (fun k h => by have := Option.some.inj h; omega)
          have hC6 := HCh.out.below hb6 (Nat.le_refl _)
          have hbl : ∀ l, l ∈ C → l.base < 12 := fun l hl => by
            exact HB12.out _ (by rw [← hbas.out]; exact List.mem_map.2 ⟨l, hl, rfl⟩)
          have hT := take_all j 0 (by omega) w.heap.size w.heap.size [] C st s (fun b => j ≤ b) w6 rfl (by rw [HLen.out]; omega) h12 hbl hnd.out hC6 HW.out hfs
          have HT := hide hT
          have HB6 := hide hb6
          have HC6 := hide hC6
          clear hT hb6 hC6 hX6 hg6 hrange
          refine HT.out.mono ?_
          rintro e w7 ⟨v, rfl, C', st', hW7, hT7, hC7, hK7, hf7, hn7, hs7⟩
          have hg7 := chained_take HS.out hW7 hg.out hT7
          have hB7 : Below w.heap.size w w7 := (hbw.trans (HB6.out.mono hbw.size)).trans (hK7.toBelow (by have := HB6.out.size; omega) (fun b x hb hf => by have := (foot_lt HC6.out hf).2; omega))
          have HG7 := hide hg7
          clear hg7
          go_wp2
          go_roundw
          case rel =>
            have hfin : ∃ (q' : Nat) (C : List Lk) (st : Nat → St), q' ≤ gs.length ∧ Value.int .i64 ((q : Int) + 1) = .int .i64 (q' : Int) ∧ C.length = j ∧ Hid (C.map (·.base) = bs) ∧ Whole (fun b => j ≤ b) C ∧ Hid (∀ x, Prd C x ↔ Gen (fun y => y ∈ gs.take q') x) ∧ ChainAt w7 w.heap.size w.heap.size (C.map rawOf) st ∧ Below w.heap.size w w7 ∧ Hid (∀ l, l ∈ C → l.gens.Nodup) :=
              ⟨q + 1, C', st', by omega, by go_num, hT7.len.trans HLen.out, hT7.bases.trans hbas.out, hW7, HG7, hC7, hB7, hn7⟩
            first
              | exact hfin
              | ((repeat apply Exists.intro); exact ⟨hfin, rfl⟩)
          case measure => simp [intOf]; omega
        · have hgf : ∀ x, Prd C x ↔ Gen (fun y => y ∈ gs) x := fun x => by have := hg.out x; rw [List.take_of_length_le (by omega)] at this; exact this
          have HCd := hide (Chained.mk hlen hbas.out hW hgf hCh hnd.out)
          clear hW hCh hgf hg
          go_wp2
          go_ret
          exact ⟨_, C, st, rfl, HCd.out, hbw⟩
end Go.Proofs.Ytimfoggjocajiaa

/- Contract: a group's Still. -/
namespace Go.Proofs.Ytimfoggjocajiaa
open Go.RowKit

theorem stab_prd {F : Nat → Prop} {l : Lk} {c : List Lk} (h : Whole F (l :: c)) (x : Pm) : Prd c x ↔ Prd (l :: c) x ∧ x.act l.base = l.base := by
  constructor
  · intro hx
    exact ⟨⟨(l.base, 1), h.1.first, x, hx, (Pm.one_mul x).symm⟩, prd_fix h.2.1 hx l.base (Or.inr rfl)⟩
  · rintro ⟨⟨e, he, p, hp, rfl⟩, hf⟩
    have hb := prd_fix h.2.1 hp l.base (Or.inr rfl)
    rw [Pm.act_mul, hb, h.1.brings e he] at hf
    have e1 : e.2 = 1 := tab_eq h.1.nodup (b := l.base) (by rw [← hf]; exact he) h.1.first
    rw [e1, Pm.one_mul]
    exact hp

/-- The bases, from a bell on. -/
def turned (bell n : Nat) : List Nat := (List.range n).map (fun j => (bell + j) % n)

theorem turned_len (bell n : Nat) : (turned bell n).length = n := by unfold turned; simp

theorem turned_at {bell n j c : Nat} (h : (turned bell n)[j]? = some c) : j < n ∧ c = (bell + j) % n := by
  have hj : j < n := by have := (List.getElem?_eq_some_iff.1 h).1; rw [turned_len] at this; exact this
  unfold turned at h
  rw [List.getElem?_map, List.getElem?_range hj] at h
  exact ⟨hj, (Option.some.inj h).symm⟩

theorem turned_mem {bell n b : Nat} (hb : bell < n) : b ∈ turned bell n ↔ b < n := by
  unfold turned
  rw [List.mem_map]
  constructor
  · rintro ⟨j, _, rfl⟩
    exact Nat.mod_lt _ (by omega)
  · intro h
    by_cases h' : bell ≤ b
    · exact ⟨b - bell, List.mem_range.2 (by omega), by rw [show bell + (b - bell) = b from by omega]; exact Nat.mod_eq_of_lt h⟩
    · exact ⟨b + n - bell, List.mem_range.2 (by omega), by rw [show bell + (b + n - bell) = b + n from by omega, Nat.add_mod_right]; exact Nat.mod_eq_of_lt h⟩

theorem packs_own {w : World} {B : Nat} {v : Value} {gs : List Pm} (h : w.ownsRow B 91 12 v gs.length (gcells gs)) : Packs w v gs := by
  by_cases h0 : gs.length = 0
  · have : gs = [] := List.length_eq_zero_iff.1 h0
    subst this
    obtain ⟨p, c, e⟩ := owns_slice12 h
    exact Or.inl ⟨rfl, p, c, e⟩
  · obtain ⟨p, c, e⟩ := owns_slice12 h
    have h' := h
    rw [e] at h'
    obtain ⟨b, hb, _, h1, h2⟩ := owns_some h' (by omega)
    subst hb
    refine Or.inr ⟨b, 0, c, e, by omega, h1, h2, (h'.lt b rfl).2, fun i q hi => ?_⟩
    intro j u hu
    have hj : j < 12 := by have := (List.getElem?_eq_some_iff.1 hu).1; rw [List.length_map, q.len] at this; exact this
    have h9 := h'.cells (g := b) rfl (i * 12 + j) _ (gcells_at gs i q hi j hj)
    rw [Addr.add_lit, Nat.zero_add] at h9
    rw [show 0 + i * 12 = i * 12 from by omega, h9, ← hu]
    simp [List.getD, q.len, hj]

theorem below_dr {w x : World} {B : Nat} (h : Below B w x) : Below B w x.drew := ⟨h.os, h.tape, h.output, h.size, h.block⟩

theorem below_dN (w : World) (n : Nat) : Below w.heap.size w (w.drewN n) := ⟨rfl, rfl, rfl, Nat.le_refl _, fun _ _ => rfl⟩

set_option maxRecDepth 20000 in
set_option maxHeartbeats 2000000 in
theorem still1_ok (bell n j b2 b3 g1 : Nat) (w : World) (h1 : 1 ≤ n) (h12 : n ≤ 12) (hb : bell < n) (hj : j < n) (c3 : w.cell? ⟨b3, 0, none⟩ = some (.int .i64 (bell : Int))) (c2 : w.cell? ⟨b2, 0, none⟩ = some (.pointer (some ⟨g1, 0, none⟩))) (c1 : w.cell? ⟨g1, 0, none⟩ = some (.int .i64 (n : Int))) :
    Calls Try.prog 97 #[.int .i64 (j : Int), .pointer (some ⟨b3, 0, none⟩), .pointer (some ⟨b2, 0, none⟩)] w fun e w' => e = .returned (.int .i64 (((bell + j) % n : Nat) : Int)) ∧ Below w.heap.size w w' := by
  have hm : ((bell : Int) + (j : Int)).tmod (n : Int) = (((bell + j) % n : Nat) : Int) := by rw [← Int.natCast_add]; rfl
  go_enter Try.func97, Try.ntmps97
  go_wp2
  go_quiet (fail)
  go_wp2
  go_ret
  exact ⟨by rw [← Int.natCast_add, ← Int.natCast_emod]; rfl, below_dN w nq⟩

theorem whole_head {F : Nat → Prop} {l : Lk} {c : List Lk} (h : Whole F (l :: c)) (x : Pm) : Prd (l :: c) x ↔ Gen (fun y => y ∈ l.gens) x := h.2.2 x

/-- What Still leaves. -/
def StPost (n : Nat) (gs : List Pm) (bell : Nat) (w : World) (e : Ending) (w' : World) : Prop :=
  ∃ v hs, e = .returned (.tuple #[v, .int .i64 0]) ∧ GroupAt w' v n hs ∧ (∀ x, Gen (fun y => y ∈ hs) x ↔ Gen (fun y => y ∈ gs) x ∧ x.act bell = bell) ∧ Below w.heap.size w w'

set_option maxRecDepth 20000 in
set_option maxHeartbeats 4000000 in
theorem still_ok (n bell : Nat) (v : Value) (gs : List Pm) (w : World) (h1 : 1 ≤ n) (h12 : n ≤ 12) (hb : bell < n) (hgs : gs.length ≤ 1000000) (hG : GroupAt w v n gs) :
    Calls Try.prog 52 #[v, .int .i64 (bell : Int)] w fun e w' => StPost n gs bell w e w' := by
  obtain ⟨g1, vg1, B1, c1, bs1, C1, st1, rfl, hg1, a10, a11, a12, hP1, hC1, hb1, rfl⟩ := hG
  have HFX : Hid (∀ s, s ∈ gs → Fixes (fun b => n ≤ b) s) := fun s hs => prd_fix hC1.whole ((hC1.gen s).2 (Gen.of hs))
  have HP := hide hP1
  obtain ⟨pp, pcap, rfl⟩ := hP1.form
  clear hP1 hC1 hb1 a12
  have hd0 : decide ((bell : Int) < 0) = false := decide_eq_false (by omega)
  have hd1 : decide ((n : Int) ≤ (bell : Int)) = false := decide_eq_false (by omega)
  have hBX : Below w.heap.size w ((w.alloc (.cells #[.pointer (some ⟨g1, 0, none⟩)] 24)).alloc (.cells #[.int .i64 (bell : Int)] 3)) := ((Below.refl _ _).alloc (Nat.le_refl _) _).alloc (by simp) _
  have k2 : ((w.alloc (.cells #[.pointer (some ⟨g1, 0, none⟩)] 24)).alloc (.cells #[.int .i64 (bell : Int)] 3)).cell? ⟨w.heap.size, 0, none⟩ = some (.pointer (some ⟨g1, 0, none⟩)) := by
    rw [cell_of_row _ w.heap.size 0 _ _ _ ((Below.heap_alloc _ _ _ (by simp)).trans (heap_alloc_new w _))]; rfl
  have k3 : ((w.alloc (.cells #[.pointer (some ⟨g1, 0, none⟩)] 24)).alloc (.cells #[.int .i64 (bell : Int)] 3)).cell? ⟨w.heap.size + 1, 0, none⟩ = some (.int .i64 (bell : Int)) := by
    have := heap_alloc_new (w.alloc (.cells #[.pointer (some ⟨g1, 0, none⟩)] 24)) (.cells #[.int .i64 (bell : Int)] 3)
    rw [show (w.alloc (.cells #[.pointer (some ⟨g1, 0, none⟩)] 24)).heap.size = w.heap.size + 1 from by simp] at this
    rw [cell_of_row _ (w.heap.size + 1) 0 _ _ _ this]; rfl
  have hsX : ((w.alloc (.cells #[.pointer (some ⟨g1, 0, none⟩)] 24)).alloc (.cells #[.int .i64 (bell : Int)] 3)).heap.size = w.heap.size + 2 := by simp
  go_enter Try.func52, Try.ntmps52
  go_wp2
  change Code.wp _ _ _ _ ((w.alloc (.cells #[.pointer (some ⟨g1, 0, none⟩)] 24)).alloc (.cells #[.int .i64 (bell : Int)] 3))
  generalize (w.alloc (.cells #[.pointer (some ⟨g1, 0, none⟩)] 24)).alloc (.cells #[.int .i64 (bell : Int)] 3) = X0 at *
  have k10 : X0.cell? ⟨g1, 0, none⟩ = some (.int .i64 (n : Int)) := (hBX.cell (p := ⟨g1, 0, none⟩) hg1).trans a10
  have k11 : X0.cell? ⟨g1, 1, none⟩ = some (.slice pp gs.length pcap) := (hBX.cell (p := ⟨g1, 1, none⟩) hg1).trans a11
  have HBX := hide hBX
  have HSX := hide hsX
  clear hBX hsX a10 a11
  go_quiet (fail)
  have hBX : Below w.heap.size w (X0.drewN nq) := HBX.out.trans ((below_dN X0 nq).mono HBX.out.size)
  have hsX : (X0.drewN nq).heap.size = w.heap.size + 2 := HSX.out
  have q2 : (X0.drewN nq).cell? ⟨w.heap.size, 0, none⟩ = some (.pointer (some ⟨g1, 0, none⟩)) := k2
  have q3 : (X0.drewN nq).cell? ⟨w.heap.size + 1, 0, none⟩ = some (.int .i64 (bell : Int)) := k3
  have q10 : (X0.drewN nq).cell? ⟨g1, 0, none⟩ = some (.int .i64 (n : Int)) := k10
  have q11 : (X0.drewN nq).cell? ⟨g1, 1, none⟩ = some (.slice pp gs.length pcap) := k11
  clear HBX HSX k2 k3 k10 k11
  generalize X0.drewN nq = X at *
  have HBX := hide hBX
  have HSX := hide hsX
  have HCs := hide q3
  clear hBX hsX
  go_wp2
  refine wp_region_held_drew (S := fun W' => W'.cell? ⟨w.heap.size, 0, none⟩ = some (.pointer (some ⟨g1, 0, none⟩)) ∧ W'.cell? ⟨g1, 0, none⟩ = some (.int .i64 (n : Int)) ∧ W'.cell? ⟨g1, 1, none⟩ = some (.slice pp gs.length pcap)) (by kernel_rfl) ⟨q2, q10, q11⟩ (fun hS => ?_)
  refine wpAnyH_take (i := 0) (v := .pointer (some ⟨g1, 0, none⟩)) rfl (by kernel_rfl) (by kernel_rfl) (by kernel_rfl) (fun _ _ _ h => h) (Or.inl ⟨by kernel_rfl, fun w' hS' => by obtain ⟨q2, q0, q1⟩ := hS'; go_simp⟩) hS ?_
  refine wpAnyH_take (i := 1) (v := .pointer (some ⟨g1, 0, none⟩)) rfl (by kernel_rfl) (by kernel_rfl) (by kernel_rfl) (fun _ _ _ h => h) (Or.inl ⟨by kernel_rfl, fun w' hS' => by clear hS'; go_simp⟩) hS ?_
  refine wpAnyH_take (i := 2) (v := .pointer (some ⟨g1, 0, none⟩)) rfl (by kernel_rfl) (by kernel_rfl) (by kernel_rfl) (fun _ _ _ h => h) (Or.inl ⟨by kernel_rfl, fun w' hS' => by clear hS'; go_simp⟩) hS ?_
  refine wpAnyH_take (i := 3) (v := .int .i64 (n : Int)) rfl (by kernel_rfl) (by kernel_rfl) (by kernel_rfl) (fun _ _ _ h => h) (Or.inl ⟨by kernel_rfl, fun w' hS' => by obtain ⟨q2, q0, q1⟩ := hS'; go_simp⟩) hS ?_
  refine wpAnyH_take (i := 4) (v := .pointer (some ⟨g1, 0, none⟩)) rfl (by kernel_rfl) (by kernel_rfl) (by kernel_rfl) (fun _ _ _ h => h) (Or.inl ⟨by kernel_rfl, fun w' hS' => by obtain ⟨q2, q0, q1⟩ := hS'; go_simp⟩) hS ?_
  refine wpAnyH_take (i := 5) (v := .pointer (some ⟨g1, 0, none⟩)) rfl (by kernel_rfl) (by kernel_rfl) (by kernel_rfl) (fun _ _ _ h => h) (Or.inl ⟨by kernel_rfl, fun w' hS' => by clear hS'; go_simp⟩) hS ?_
  refine wpAnyH_take (i := 6) (v := .pointer (some ⟨g1, 1, none⟩)) rfl (by kernel_rfl) (by kernel_rfl) (by kernel_rfl) (fun _ _ _ h => h) (Or.inl ⟨by kernel_rfl, fun w' hS' => by clear hS'; go_simp⟩) hS ?_
  refine wpAnyH_take (i := 7) (v := .slice pp gs.length pcap) rfl (by kernel_rfl) (by kernel_rfl) (by kernel_rfl) (fun _ _ _ h => h) (Or.inl ⟨by kernel_rfl, fun w' hS' => by obtain ⟨q2, q0, q1⟩ := hS'; go_simp⟩) hS ?_
  refine wpAnyH_take (i := 8) (v := .func (.func 97) #[] #[.pointer (some ⟨w.heap.size + 1, 0, none⟩), .pointer (some ⟨w.heap.size, 0, none⟩)]) rfl (by kernel_rfl) (by kernel_rfl) (by kernel_rfl) (fun _ _ _ h => h) (Or.inl ⟨by kernel_rfl, fun w' hS' => by clear hS'; go_simp⟩) hS ?_
  have HBase : Hid (∀ (j c : Nat) (W : World), (turned bell n)[j]? = some c → Below X.drew.heap.size X.drew W → Calls Try.prog 97 #[.int .i64 (j : Int), .pointer (some ⟨w.heap.size + 1, 0, none⟩), .pointer (some ⟨w.heap.size, 0, none⟩)] W fun e w' => e = .returned (.int .i64 (c : Int)) ∧ Below W.heap.size W w') := fun j c W hj hW => by
    obtain ⟨hj1, rfl⟩ := turned_at hj
    have hs : X.drew.heap.size = w.heap.size + 2 := HSX.out
    exact still1_ok bell n j _ _ g1 W h1 h12 hb hj1 ((hW.cell (p := ⟨w.heap.size + 1, 0, none⟩) (by show w.heap.size + 1 < _; omega)).trans q3) ((hW.cell (p := ⟨w.heap.size, 0, none⟩) (by show w.heap.size < _; omega)).trans q2) ((hW.cell (p := ⟨g1, 0, none⟩) (by show g1 < _; omega)).trans q10)
  have HN := hide (newChainT_ok n w.heap.size (w.heap.size + 1) (turned bell n) (.slice pp gs.length pcap) gs X.drew h1 h12 (HP.out.below (below_dr HBX.out) (Nat.le_refl _)) (by omega) HFX.out (turned_len bell n) (fun b hb' => by have := (turned_mem hb).1 hb'; omega) (fun b _ => by rcases Nat.lt_or_ge b n with h | h; exact Or.inr ((turned_mem hb).2 h); exact Or.inl h) HBase.out)
  refine wpAnyH_ready (rs := [9]) (by kernel_rfl) (by simp) ?_
  refine AllReadyH.cons rfl (fun K hK => ?_) AllReadyH.nil
  go_simp
  refine HN.out.mono ?_
  rintro e w5 ⟨g5, C5, st5, rfl, hC5, hb5⟩
  have hb5' : Below X.heap.size X w5 := undrew hb5
  have hlt2 : w.heap.size < X.heap.size := by have := HSX.out; omega
  have r2 : w5.cell? ⟨w.heap.size, 0, none⟩ = some (.pointer (some ⟨g1, 0, none⟩)) := (hb5'.cell (p := ⟨w.heap.size, 0, none⟩) hlt2).trans q2
  have r10 : w5.cell? ⟨g1, 0, none⟩ = some (.int .i64 (n : Int)) := (hb5'.cell (p := ⟨g1, 0, none⟩) (by show g1 < _; omega)).trans q10
  have r11 : w5.cell? ⟨g1, 1, none⟩ = some (.slice pp gs.length pcap) := (hb5'.cell (p := ⟨g1, 1, none⟩) (by show g1 < _; omega)).trans q11
  refine hK.out _ _ ⟨r2, r10, r11⟩ (fun hS => ?_)
  clear hK
  refine wpAnyH_take (i := 10) (v := .slice (some ⟨g5, 0, none⟩) n n) rfl (by kernel_rfl) (by kernel_rfl) (by kernel_rfl) (fun _ _ _ h => h) (Or.inl ⟨by kernel_rfl, fun w' hS' => by clear hS'; go_simp⟩) hS ?_
  refine wpAnyH_done (by kernel_rfl) ?_ _
  have HB5 : Hid (Below w.heap.size w w5) := HBX.out.trans (hb5'.mono HBX.out.size)
  have hl := hC5.len
  obtain ⟨l0, c5, rfl⟩ : ∃ l0 c5, C5 = l0 :: c5 := by
    cases C5 with
    | nil => simp at hl; omega
    | cons a t => exact ⟨a, t, rfl⟩
  have hbase0 : l0.base = bell := by
    have h0 : (turned bell n)[0]? = some l0.base := by rw [← hC5.bases]; rfl
    rw [(turned_at h0).2, Nat.add_zero, Nat.mod_eq_of_lt hb]
  have hst : ∀ x, Prd c5 x ↔ Gen (fun y => y ∈ gs) x ∧ x.act bell = bell := fun x => by
    rw [stab_prd hC5.whole x, hC5.gen x, hbase0]
  by_cases hn1 : n = 1
  · subst hn1
    have e5 : c5 = [] := List.length_eq_zero_iff.1 (by simpa using hl)
    subst e5
    have HST : Hid (∀ x, Gen (fun y => y ∈ ([] : List Pm)) x ↔ Gen (fun y => y ∈ gs) x ∧ x.act bell = bell) := fun x => by
      rw [← hst x]
      exact ⟨fun h => gen_none h, fun h => by rw [show x = 1 from h]; exact Gen.one⟩
    clear hst hC5 hbase0 hl hb5 hb5'
    go_wp2_with fail
    refine (generate_ok 1 (.slice none 0 0) [] w5 h1 h12 (Or.inl ⟨rfl, none, 0, rfl⟩) (by simp) (fun x hx => by cases hx)).mono ?_
    rintro e w9 ⟨v9, rfl, hG9, hb9⟩
    have HG9 := hide hG9
    have HB9 : Hid (Below w.heap.size w w9) := HB5.out.trans (hb9.mono HB5.out.size)
    clear hG9 hb9
    go_wp2
    go_ret2
    exact ⟨_, [], rfl, HG9.out, HST.out, HB9.out⟩
  · obtain ⟨l1, c6, rfl⟩ : ∃ l1 c6, c5 = l1 :: c6 := by
      cases c5 with
      | nil => simp at hl; omega
      | cons a t => exact ⟨a, t, rfl⟩
    have HST : Hid (∀ x, Gen (fun y => y ∈ l1.gens) x ↔ Gen (fun y => y ∈ gs) x ∧ x.act bell = bell) := fun x => by
      rw [← hst x]
      exact (hC5.whole.2.1.2.2 x).symm
    have lk := hC5.chain.link 1 (rawOf l1) rfl
    have hc3 : w5.cell? ⟨g5, 7, none⟩ = some (st5 1).vg := lk.c3
    have hPk : Packs w5 (st5 1).vg l1.gens := packs_own lk.gens
    have hgb := gens_bound (hC5.nd l1 (by simp))
    have h1212 : (12 : Nat) ^ 12 = 8916100448256 := by decide
    have HGB : Hid (l1.gens.length ≤ 8916100448256) := by show _ ≤ _; omega
    have HFX2 : Hid (∀ s, s ∈ l1.gens → Fixes (fun b => n ≤ b) s) := fun s hs b hb' => prd_fix hC5.whole.2.1 ((hC5.whole.2.1.2.2 s).2 (Gen.of hs)) b (Or.inl hb')
    obtain ⟨pg, cg, eg⟩ := hPk.form
    rw [eg] at hc3 hPk
    have HPk := hide hPk
    have hn2 : (1 : Int) < (n : Int) := by omega
    clear hst hC5 hbase0 hl hb5 hb5' lk hPk hgb h1212 eg
    go_wp2_with fail
    refine (generate_ok n (.slice pg l1.gens.length cg) l1.gens w5 h1 h12 HPk.out HGB.out HFX2.out).mono ?_
    rintro e w9 ⟨v9, rfl, hG9, hb9⟩
    have HG9 := hide hG9
    have HB9 : Hid (Below w.heap.size w w9) := HB5.out.trans (hb9.mono HB5.out.size)
    clear hG9 hb9
    go_wp2
    go_ret2
    exact ⟨_, l1.gens, rfl, HG9.out, HST.out, HB9.out⟩
end Go.Proofs.Ytimfoggjocajiaa

/- Contract: a group's Still where the bell is none. -/
namespace Go.Proofs.Ytimfoggjocajiaa
open Go.RowKit

set_option maxRecDepth 20000 in
set_option maxHeartbeats 2000000 in
theorem still_low (n : Nat) (bell : Int) (v : Value) (gs : List Pm) (w : World) (hb : bell < 0) (hG : GroupAt w v n gs) :
    Calls Try.prog 52 #[v, .int .i64 bell] w fun e w' => e = .returned (.tuple #[.pointer none, .int .i64 12]) ∧ Below w.heap.size w w' := by
  obtain ⟨g1, vg1, B1, c1, bs1, C1, st1, rfl, hg1, a10, a11, a12, hP1, hC1, hb1, rfl⟩ := hG
  clear hP1 hC1 hb1 a12 a11
  have hd0 : decide (bell < 0) = true := decide_eq_true hb
  have hBX : Below w.heap.size w ((w.alloc (.cells #[.pointer (some ⟨g1, 0, none⟩)] 24)).alloc (.cells #[.int .i64 bell] 3)) := ((Below.refl _ _).alloc (Nat.le_refl _) _).alloc (by simp) _
  have HBX := hide hBX
  clear hBX
  go_enter Try.func52, Try.ntmps52
  go_wp2
  go_quiet (fail)
  go_wp2
  go_ret2
  exact ⟨rfl, HBX.out.trans ((below_dN _ nq).mono HBX.out.size)⟩

set_option maxRecDepth 20000 in
set_option maxHeartbeats 2000000 in
theorem still_high (n : Nat) (bell : Int) (v : Value) (gs : List Pm) (w : World) (h12 : n ≤ 12) (hb : (n : Int) ≤ bell) (hG : GroupAt w v n gs) :
    Calls Try.prog 52 #[v, .int .i64 bell] w fun e w' => e = .returned (.tuple #[.pointer none, .int .i64 12]) ∧ Below w.heap.size w w' := by
  obtain ⟨g1, vg1, B1, c1, bs1, C1, st1, rfl, hg1, a10, a11, a12, hP1, hC1, hb1, rfl⟩ := hG
  clear hP1 hC1 hb1 a12 a11
  have hd0 : decide (bell < 0) = false := decide_eq_false (by omega)
  have hd1 : decide ((n : Int) ≤ bell) = true := decide_eq_true hb
  have hBX : Below w.heap.size w ((w.alloc (.cells #[.pointer (some ⟨g1, 0, none⟩)] 24)).alloc (.cells #[.int .i64 bell] 3)) := ((Below.refl _ _).alloc (Nat.le_refl _) _).alloc (by simp) _
  have k2 : ((w.alloc (.cells #[.pointer (some ⟨g1, 0, none⟩)] 24)).alloc (.cells #[.int .i64 bell] 3)).cell? ⟨w.heap.size, 0, none⟩ = some (.pointer (some ⟨g1, 0, none⟩)) := by
    rw [cell_of_row _ w.heap.size 0 _ _ _ ((Below.heap_alloc _ _ _ (by simp)).trans (heap_alloc_new w _))]; rfl
  have k3 : ((w.alloc (.cells #[.pointer (some ⟨g1, 0, none⟩)] 24)).alloc (.cells #[.int .i64 bell] 3)).cell? ⟨w.heap.size + 1, 0, none⟩ = some (.int .i64 bell) := by
    have := heap_alloc_new (w.alloc (.cells #[.pointer (some ⟨g1, 0, none⟩)] 24)) (.cells #[.int .i64 bell] 3)
    rw [show (w.alloc (.cells #[.pointer (some ⟨g1, 0, none⟩)] 24)).heap.size = w.heap.size + 1 from by simp] at this
    rw [cell_of_row _ (w.heap.size + 1) 0 _ _ _ this]; rfl
  go_enter Try.func52, Try.ntmps52
  go_wp2
  change Code.wp _ _ _ _ ((w.alloc (.cells #[.pointer (some ⟨g1, 0, none⟩)] 24)).alloc (.cells #[.int .i64 bell] 3))
  generalize (w.alloc (.cells #[.pointer (some ⟨g1, 0, none⟩)] 24)).alloc (.cells #[.int .i64 bell] 3) = X0 at *
  have k10 : X0.cell? ⟨g1, 0, none⟩ = some (.int .i64 (n : Int)) := (hBX.cell (p := ⟨g1, 0, none⟩) hg1).trans a10
  have HBX := hide hBX
  clear hBX a10
  go_quiet (fail)
  go_wp2
  go_ret2
  exact ⟨rfl, HBX.out.trans ((below_dN _ nq).mono HBX.out.size)⟩

end Go.Proofs.Ytimfoggjocajiaa

/- The walk of groupRows where the group's rows are told. -/
namespace Go.Proofs.Ytimfoggjocajiaa
open Go.RowKit

theorem run_ptr_nil (w : World) : (binOp BinOp.eql 24 (.pointer none) (.pointer none)).run Try.prog w = .ok (.bool true) w := by kernel_rfl

set_option maxRecDepth 20000 in
set_option maxHeartbeats 8000000 in
theorem groupRows_a (v vg vr : Value) (n : Nat) (gss : List (List Int)) (xs : List Int) (bell : Int) (w : World) (h : GLaw w v vg vr n gss xs) (hz : rchk n xs ≠ 0) (hs : sz (Gen (fun y => y ∈ gss.map pad)) n ≤ 5040) :
    Calls Try.prog 25 #[v, .int .i64 n, vg, vr, .int .i64 (rchk n xs), .int .i64 bell, .int .i64 ((sz (Gen (fun y => y ∈ gss.map pad)) n : Nat) : Int)] w fun e w' => Told w e w' := by
  have h12 := h.twelve
  have h1 := h.one
  have h8 := h.eight
  have q1 := run_ptr_ne
  have q2 := run_ptr_nil
  obtain ⟨i0, hi, hz0, hz1, hz2⟩ := info_parts Try.info23
  have hgl : (gss.map pad).length ≤ 1000000 := by rw [List.length_map]; omega
  have HGL := hide hgl
  have HG := hide h.grp
  have HGR := hide h.rows
  have HXr := hide h.row
  have HW := hide (word_ok n v vr (gss.map pad) xs w h12 hgl h.grp h.row)
  have HE : Hid (∀ w', Below w.heap.size w w' → Calls Try.prog 56 #[v] w' fun e w'' => ElPost n (gss.map pad) w' e w'') := fun w' hb => elements_ok n v _ w' h12 (h.grp.below hb (Nat.le_refl _))
  have HCd : Hid (∀ w', Below w.heap.size w w' → Calls Try.prog 31 #[.int .i64 n, vg, .int .i64 5040] w' fun e w'' => ClosedPost n gss 5040 w' e w'') := fun w' hb => closed_ok n 5040 vg gss w' (h.gens.below hb) h.rows h1 h12 (by omega) (by omega) (by omega)
  have HO : Hid (∀ w', Below w.heap.size w w' → Calls Try.prog 53 #[v] w' fun e w'' => ∃ (u : Value) (vs : List Value), e = .returned u ∧ LL w'' w'.heap.size u vs ((orbsTo (gss.map pad) n n).map natI) ∧ Below w'.heap.size w' w'') := fun w' hb => orbits_ok n v _ w' h12 (h.grp.below hb (Nat.le_refl _))
  have HS := hide hs
  have HZ := hide hz
  have hne : (rchk n xs == 0) = false := beq_eq_false_iff_ne.2 hz
  have hbn : (rchk n xs != 0) = true := by rw [bne_iff_ne]; exact hz
  generalize hsz : sz (Gen (fun y => y ∈ gss.map pad)) n = z at *
  have HSZ := hide hsz
  have hsI : ¬ ((5040 : Int) < (z : Int)) := by omega
  clear h hsz hgl hz
  generalize hfz : rchk n xs = fz at *
  have HFZ := hide hfz
  clear hfz
  go_enter Try.func25, Try.ntmps25
  go_wp2_with fail
  refine HW.out.mono ?_
  rintro ex w1 ⟨hb1, hpost⟩
  rw [HFZ.out] at hpost
  obtain rfl : ex = .returned (.tuple #[.slice none 0 0, .int .i64 fz]) := by
    rcases hpost with h | h | h | h
    · exact h.2
    · exact absurd h.1 HZ.out
    · exact absurd h.1 HZ.out
    · exact absurd h.1 HZ.out
  clear hpost HW
  go_wp2_with fail
  refine (HE.out w1 hb1).mono ?_
  rintro ex w2 ⟨hb2, hpost⟩
  rw [HSZ.out, if_neg (by have := HS.out; omega)] at hpost
  obtain ⟨ve, vse, X, rfl, hXl, hXn, hXm, hXs, hLE⟩ := hpost
  have hB2 := hb1.trans (hb2.mono hb1.size)
  have HLE := hide hLE.ints
  clear hLE hb1 hb2
  go_wp2_with fail
  refine (HCd.out w2 hB2).mono ?_
  rintro ex w3 ⟨hb3, hpost⟩
  obtain ⟨vrs, vws, S, rfl, hAr, hAw, hF⟩ : ∃ vr vw S, ex = .returned (.tuple #[vr, vw]) ∧ IntsAll w3 vr (S.map (fun e => cut n e.1)) ∧ IntsAll w3 vw (S.map (·.2)) ∧ Found n gss S := by
    rcases hpost with ⟨vr, vw, S, h1', h2', h3', h4', _⟩ | ⟨_, S, h1', h2'⟩
    · exact ⟨vr, vw, S, h1', h2', h3', Found.of h12 HGR.out h4'⟩
    · have := found_few h12 HGR.out h1'
      rw [HSZ.out] at this
      have := HS.out
      omega
  have hSl : S.length = z := by rw [← HSZ.out]; exact hF.size h12
  have HF := hide hF
  have hB3 := hB2.trans (hb3.mono hB2.size)
  have HXF : Hid (∀ x, x ∈ X → Fixes (fun b => n ≤ b) x) := fun x hx => gens_fix h12 HGR.out ((hXm x).1 hx)
  have HOrd := hide (rordered_all vrs _ w3 hAr (by rw [List.length_map]; have := HS.out; omega) (fun r hr => by have := (hF.rows h12 r hr).1; omega))
  obtain ⟨R, hR⟩ : ∃ R, R = S.map (fun e => cut n e.1) := ⟨_, rfl⟩
  rw [← hR] at hAr HOrd
  have hRl : R.length = z := by rw [hR, List.length_map]; exact hSl
  have HRows : Hid (∀ r, r ∈ R → r.length = n ∧ ∀ j, j < n → ∃ m : Nat, m < n ∧ r.getD j 0 = (m : Int)) := by
    show ∀ r, r ∈ R → _
    rw [hR]; exact hF.rows h12
  have HR := hide hR
  have HRL := hide hRl
  have HSL := hide hSl
  have HAr := hide hAr
  have HAw := hide hAw
  have HLE3 := hide (HLE.out.below hb3)
  have HXM := hide hXm
  have HXS := hide hXs
  have HXN := hide hXn
  clear hpost hAr hAw hF hR hRl hSl hXm hXs hXn hXl hb3 HLE HCd HE
  go_wp2_with fail
  refine HOrd.out.mono ?_
  rintro ex w4 ⟨vo, Y, rfl, hAo, hYp, hYs, hb4⟩
  have hYe : X.map (cut n) = Y := group_ordered h12 HXF.out HXN.out HXS.out HF.out.nodup (fun x => (HXM.out x).trans (HF.out.mem x).symm) (by rw [HR.out]; exact Found.cuts n S) hYp hYs
  have HSa := hide (sameAll_any ve vo (X.map (cut n)) Y w4 (HLE3.out.below hb4) hAo)
  rw [decide_eq_true hYe] at HSa
  have hB4 := hB3.trans (hb4.mono hB3.size)
  have HB34 := hide hb4
  clear hAo hYp hYs hYe hb4 HOrd HLE3
  go_wp2_with fail
  refine HSa.out.mono ?_
  rintro ex w5 ⟨rfl, hb5⟩
  have hB5 := hB4.trans (hb5.mono hB4.size)
  have HB35 := hide (HB34.out.trans (hb5.mono HB34.out.size))
  clear hb5 HSa hB4 HB34
  go_wp2_with fail
  refine (HO.out w5 hB5).mono ?_
  rintro ex w6 ⟨vob, vobs, rfl, hLO, hb6⟩
  have hB6 := hB5.trans (hb6.mono hB5.size)
  have HB36 := hide (HB35.out.trans (hb6.mono HB35.out.size))
  have HRo := hide (rorbits_ok n vrs R w6 (HAr.out.below HB36.out) h1 h12 HRows.out (by rw [HRL.out]; have := HS.out; omega) (by rw [HRL.out, ← HSL.out]; exact HF.out.pos))
  have HLO := hide hLO.ints
  clear hLO hb6 hB5 HB35 HO
  go_wp2_with fail
  refine HRo.out.mono ?_
  rintro ex w7 ⟨vro, vros, rfl, hLR, hb7⟩
  have hB7 := hB6.trans (hb7.mono hB6.size)
  have HB37 := hide (HB36.out.trans (hb7.mono HB36.out.size))
  have HSb := hide (sameAll_any vob vro _ _ w7 (HLO.out.below hb7) hLR.ints)
  have hoe : (orbsTo (gss.map pad) n n).map natI = (rorbsTo R n n).map natI := by rw [HR.out, HF.out.orbits h12]
  rw [decide_eq_true hoe] at HSb
  clear hLR hb7 hB6 HRo HLO hoe HB36
  go_wp2_with fail
  refine HSb.out.mono ?_
  rintro ex w8 ⟨rfl, hb8⟩
  have hB8 := hB7.trans (hb8.mono hB7.size)
  have hB38 := HB37.out.trans (hb8.mono HB37.out.size)
  have hs8 := hB8.size
  have HB8 := hide hB8
  have hAr8 := HAr.out.below hB38
  have hAw8 := HAw.out.below hB38
  have hzp : 1 ≤ z := by rw [← HSL.out]; exact HF.out.pos
  have hz5 : z ≤ 5040 := HS.out
  obtain ⟨pr, Nr, cr, rfl⟩ : ∃ p N c, vrs = .slice p N c := by obtain ⟨p, c, e⟩ := hAr8.len; exact ⟨p, _, c, e⟩
  obtain ⟨gr, offr, rfl, hNr, hcr1, hcr2, hgr, hcell⟩ := hAr8.rowI (by rw [HRL.out]; exact hzp)
  rw [HRL.out] at hNr hcr1
  have hNr' := hNr.symm
  subst hNr'
  obtain ⟨pw, Nw, cw, rfl⟩ : ∃ p N c, vws = .slice p N c := by obtain ⟨p, c, e⟩ := hAw8.len; exact ⟨p, _, c, e⟩
  obtain ⟨gw, offw, rfl, hNw, hcw1, hcw2, hgw, hcellw⟩ := hAw8.rowI (by rw [List.length_map, HSL.out]; exact hzp)
  rw [List.length_map, HSL.out] at hNw hcw1
  have hNw' := hNw.symm
  subst hNw'
  have HCL := hide hcell
  have HCW := hide hcellw
  have HX8 := hide (HXr.out.below hB8)
  have HG8 := hide (HG.out.below hB8 (Nat.le_refl _))
  clear hcell hcellw hAr8 hAw8 hB38 hb8 hB8 hB7 hB2 hB3 HSb HB37 HAr HAw
  go_wp2
  go_loopw [21, 22] (fun sa si wr => sa = .int .i64 (-1) ∧ si = .int .i64 0 ∧ wr = w8) (fun _ _ _ => 0)
  case atStart => exact ⟨rfl, rfl, rfl⟩
  case round =>
    obtain ⟨rfl, rfl, hww⟩ := hrel
    have hww' := hww.symm
    subst hww'
    have hzI : (0 : Int) < (z : Int) := by omega
    have hbw : Below w8.heap.size w8 w8 := Below.refl _ _
    clear hww
    rcases (show bell < 0 ∨ (n : Int) ≤ bell ∨ (0 ≤ bell ∧ bell < (n : Int)) by omega) with hbl | hbl | hbl
    · have HSt := hide (still_low n bell v (gss.map pad) w8 hbl (HG8.out.below hbw (Nat.le_refl _)))
      go_wp2_with fail
      refine HSt.out.mono ?_
      rintro ex w13 ⟨rfl, hb13⟩
      have HBf := hide (HB8.out.trans ((hbw.trans (hb13.mono hbw.size)).mono hs8))
      clear hb13
      go_wp2
      go_ret
      exact ⟨rfl, HBf.out⟩
    · have hbl0 : ¬ bell < 0 := by omega
      have HSt := hide (still_high n bell v (gss.map pad) w8 h12 hbl (HG8.out.below hbw (Nat.le_refl _)))
      go_wp2_with fail
      refine HSt.out.mono ?_
      rintro ex w13 ⟨rfl, hb13⟩
      have HBf := hide (HB8.out.trans ((hbw.trans (hb13.mono hbw.size)).mono hs8))
      clear hb13
      go_wp2
      go_ret
      exact ⟨rfl, HBf.out⟩
    · obtain ⟨bl, rfl⟩ := Int.eq_ofNat_of_zero_le hbl.1
      have hbn' : bl < n := by omega
      have hd0 : decide ((bl : Int) < 0) = false := decide_eq_false (by omega)
      have hd1 : decide (n ≤ bl) = false := decide_eq_false (by omega)
      have hd2 : decide ((n : Int) ≤ (bl : Int)) = false := decide_eq_false (by omega)
      have HSt := hide (still_ok n bl v (gss.map pad) w8 h1 h12 hbn' HGL.out (HG8.out.below hbw (Nat.le_refl _)))
      clear hbl
      go_wp2_with fail
      refine HSt.out.mono ?_
      rintro ex w13 ⟨v13, hsg, rfl, hGS, hst, hb13⟩
      have hB13 : Below w8.heap.size w8 w13 := hbw.trans (hb13.mono hbw.size)
      have HGS := hide hGS
      have HSTA := hide hst
      obtain ⟨gb2, _, _, _, _, _, _, rfl, _⟩ := hGS
      have HCL13 : Hid (∀ i r, R[i]? = some r → ∃ u, w13.cell? ⟨gr, offr + i, none⟩ = some u ∧ Ints w13 u r) := fun i r hr => by
        obtain ⟨u, h1', h2'⟩ := HCL.out i r hr
        exact ⟨u, (hB13.cell (p := ⟨gr, offr + i, none⟩) hgr).trans h1', h2'.below hB13⟩
      have HB13 := hide (HB8.out.trans (hB13.mono hs8))
      have hgr13 : gr < w13.heap.size := Nat.lt_of_lt_of_le hgr hB13.size
      clear hst hb13 hB13 HSt hbw HCL HCW hgr
      go_wp2
      go_loopw [25, 26] (fun su si wr => ∃ (i : Nat) (u : Value) (vs : List Value), i ≤ z ∧ su = u ∧ si = .int .i64 i ∧ StayR w13 wr u vs bl i R) (fun _ si _ => z - (intOf si).toNat)
      case atStart => exact ⟨0, _, [], Nat.zero_le _, rfl, rfl, StayR.start w13 bl R⟩
      case round =>
        obtain ⟨i, u, vs, hiz, rfl, rfl, hSR⟩ := hrel
        have hsr := hSR.below.size
        by_cases hit : i < z
        · obtain ⟨r, hr⟩ : ∃ r, R[i]? = some r := ⟨_, List.getElem?_eq_getElem (by rw [HRL.out]; exact hit)⟩
          obtain ⟨u2, hcu, hiu⟩ := HCL13.out i r hr
          obtain ⟨hrl, hrm⟩ := HRows.out r (List.mem_of_getElem? hr)
          obtain ⟨m, hmn, hm⟩ := hrm bl hbn'
          have hcu' := (hSR.below.cell (p := ⟨gr, offr + i, none⟩) hgr13).trans hcu
          have HIU := hide hiu
          obtain ⟨p2, c2, e2⟩ := hiu.form
          subst e2
          obtain ⟨b2, o2, rfl, hl1, hl2, hl3, hl4⟩ := hiu.open (by omega)
          have hcm := (hSR.below.cell (p := ⟨b2, o2 + bl, none⟩) hl3).trans (hl4 bl (by omega))
          rw [hm] at hcm
          have HRI := hide hr
          have HM := hide hm
          have HSR := hide hSR
          rw [hrl] at hcu' hl1
          have HRLN := hide hrl
          have hvl : vs.length ≤ 5040 := by
            have h1' := hSR.len
            have h2' := stayL_length bl (R.take i)
            rw [List.length_take] at h2'
            omega
          clear hcu hiu hrm hm hr hl4 hSR hrl
          by_cases hmb : m = bl
          · have HM2 : Hid (r.getD bl 0 = (bl : Int)) := by show _ = _; rw [HM.out, hmb]
            rw [hmb] at hcm
            clear HM hmb hmn
            have HIU' : Hid (Ints w13 (.slice (some ⟨b2, o2, none⟩) n c2) r) := by show Ints _ _ _; have := HIU.out; rw [HRLN.out] at this; exact this
            have HrS := hide HSR.out.row
            go_wp2_with (at_builtin; go_loud (refine wpList_append_own _ rfl _ _ 22 rfl w13.heap.size 23 i0 (.slice none 0 0) 1 24 Try.underlying22 hi hz0 hz1 hz2 rfl (by decide) _ _ _ rfl (HrS.out.alloc _) ⟨wr.heap.size, 0, none⟩ 1 1 [.slice (some ⟨b2, o2, none⟩) n c2] rfl rfl ?d1 ?d2 ?d3 ?d4 ?d5 ?_))
            case d1 => exact cell_one_new _ _ _
            case d2 => intro u hu; simp at hu; subst hu; rfl
            case d3 => unfold maxLen; omega
            case d4 => omega
            case d5 => simp; omega
            intro v9 w9 hown9 hg9 _
            have HS9 := hide (HSR.out.more HRI.out HM2.out HIU'.out hown9 hg9)
            clear hown9 hg9
            go_wp2
            go_roundw
            case rel =>
              have hfin : ∃ (i' : Nat) (u : Value) (vs : List Value), i' ≤ z ∧ v9 = u ∧ Value.int .i64 ((i : Int) + 1) = .int .i64 (i' : Int) ∧ StayR w13 w9 u vs bl i' R := ⟨i + 1, _, _, hit, rfl, by go_num, HS9.out⟩
              first
                | exact hfin
                | ((repeat apply Exists.intro); exact ⟨hfin, rfl⟩)
            case measure => simp [intOf]; omega
          · have hmbI : ¬ (m : Int) = (bl : Int) := by omega
            have HS9 := hide (HSR.out.same HRI.out (by rw [HM.out]; exact hmbI))
            go_wp2
            go_roundw
            case rel =>
              have hfin : ∃ (i' : Nat) (u : Value) (vs : List Value), i' ≤ z ∧ u25 = u ∧ Value.int .i64 ((i : Int) + 1) = .int .i64 (i' : Int) ∧ StayR w13 wr u vs bl i' R := ⟨i + 1, _, vs, hit, rfl, by go_num, HS9.out⟩
              first
                | exact hfin
                | ((repeat apply Exists.intro); exact ⟨hfin, rfl⟩)
            case measure => simp [intOf]; omega
        · obtain rfl : i = z := by omega
          have hRi := HRL.out
          have hdn : StayR w13 wr u25 vs bl R.length R := by rw [hRi]; exact hSR
          have HAst := hide hdn.done
          have hb14 := hSR.below
          have HB14 := hide (HB13.out.trans (hb14.mono HB13.out.size))
          have HGS14 := hide (HGS.out.below hb14 (Nat.le_refl _))
          have HEl := hide (elements_ok n _ hsg wr h12 HGS14.out)
          have hszh : sz (Gen (fun y => y ∈ hsg)) n ≤ 5040 := by
            refine Nat.le_trans (sz_mono (H := Gen (fun y => y ∈ gss.map pad)) (fun x hx => ((HSTA.out x).1 hx).1) h12) ?_
            rw [HSZ.out]; exact HS.out
          have HSH := hide hszh
          clear hdn hSR hb14 hszh hRi
          go_wp2_with fail
          refine HEl.out.mono ?_
          rintro ex w15 ⟨hb15, hpost⟩
          rw [if_neg (by have := HSH.out; omega)] at hpost
          obtain ⟨vx, vxs, XX, rfl, hXl, hXn, hXm, hXs, hLX⟩ := hpost
          have HB15 := hide (HB14.out.trans (hb15.mono HB14.out.size))
          have HGb := hide (gbells_ok n _ hsg w15 (HGS14.out.below hb15 (Nat.le_refl _)))
          have HLX := hide hLX.ints
          have HAs2 := hide (HAst.out.below hb15)
          have HXN := hide hXn
          have HXM := hide hXm
          have HXS := hide hXs
          clear hXl hXn hXm hXs hLX hb15 HEl HAst
          go_wp2_with fail
          refine HGb.out.mono ?_
          rintro ex w16 ⟨rfl, hw16⟩
          subst hw16
          have HOd := hide (rordered_all u25 (stayL bl R) w15 HAs2.out (by have h1' := stayL_length bl R; rw [HRL.out] at h1'; omega) (fun r hr => by have h1' := (HRows.out r ((List.mem_filter.1 hr).1)).1; omega))
          clear HGb HAs2
          go_wp2_with fail
          refine HOd.out.mono ?_
          rintro ex w17 ⟨vo, Y, rfl, hAo, hYp, hYs, hb17⟩
          have HB17 := hide (HB15.out.trans (hb17.mono HB15.out.size))
          have hYe : XX.map (cut n) = Y := by
            refine group_ordered (S := (S.map (·.1)).filter (fun x => decide (x.act bl = bl))) h12 (fun x hx => ?_) HXN.out HXS.out (HF.out.nodup.sublist List.filter_sublist) (fun x => ?_) (R := stayL bl R) ?_ hYp hYs
            · exact gens_fix h12 HGR.out ((HSTA.out x).1 ((HXM.out x).1 hx)).1
            · rw [HXM.out, HSTA.out, List.mem_filter, decide_eq_true_iff, HF.out.mem]
            · rw [HR.out, Found.cuts, stayL_cut h12 hbn']
          have HSc := hide (sameAll_any vx vo (XX.map (cut n)) Y w17 (HLX.out.below hb17) hAo)
          rw [decide_eq_true hYe] at HSc
          clear hAo hYp hYs hYe hb17 HOd HLX
          go_wp2_with fail
          refine HSc.out.mono ?_
          rintro ex w18 ⟨rfl, hb18⟩
          have HB18 := hide (HB17.out.trans (hb18.mono HB17.out.size))
          clear hb18 HSc
          go_wp2
          go_ret
          exact ⟨rfl, HB18.out⟩

end Go.Proofs.Ytimfoggjocajiaa

/- The walk of groupRows where the group's rows are told: the next way. -/
namespace Go.Proofs.Ytimfoggjocajiaa
open Go.RowKit

set_option maxRecDepth 20000 in
set_option maxHeartbeats 8000000 in
theorem groupRows_b (v vg vr : Value) (n : Nat) (gss : List (List Int)) (xs : List Int) (bell : Int) (w : World) (h : GLaw w v vg vr n gss xs) (hz : rchk n xs = 0) (hg : ¬ Gen (fun y => y ∈ gss.map pad) (pad xs)) (hs : sz (Gen (fun y => y ∈ gss.map pad)) n ≤ 5040) :
    Calls Try.prog 25 #[v, .int .i64 n, vg, vr, .int .i64 0, .int .i64 bell, .int .i64 ((sz (Gen (fun y => y ∈ gss.map pad)) n : Nat) : Int)] w fun e w' => Told w e w' := by
  have h12 := h.twelve
  have h1 := h.one
  have h8 := h.eight
  have q1 := run_ptr_ne
  have q2 := run_ptr_nil
  obtain ⟨i0, hi, hz0, hz1, hz2⟩ := info_parts Try.info23
  have hgl : (gss.map pad).length ≤ 1000000 := by rw [List.length_map]; omega
  have HGL := hide hgl
  have HG := hide h.grp
  have HGR := hide h.rows
  have HXr := hide h.row
  have HW := hide (word_ok n v vr (gss.map pad) xs w h12 hgl h.grp h.row)
  have HE : Hid (∀ w', Below w.heap.size w w' → Calls Try.prog 56 #[v] w' fun e w'' => ElPost n (gss.map pad) w' e w'') := fun w' hb => elements_ok n v _ w' h12 (h.grp.below hb (Nat.le_refl _))
  have HCd : Hid (∀ w', Below w.heap.size w w' → Calls Try.prog 31 #[.int .i64 n, vg, .int .i64 5040] w' fun e w'' => ClosedPost n gss 5040 w' e w'') := fun w' hb => closed_ok n 5040 vg gss w' (h.gens.below hb) h.rows h1 h12 (by omega) (by omega) (by omega)
  have HO : Hid (∀ w', Below w.heap.size w w' → Calls Try.prog 53 #[v] w' fun e w'' => ∃ (u : Value) (vs : List Value), e = .returned u ∧ LL w'' w'.heap.size u vs ((orbsTo (gss.map pad) n n).map natI) ∧ Below w'.heap.size w' w'') := fun w' hb => orbits_ok n v _ w' h12 (h.grp.below hb (Nat.le_refl _))
  have HS := hide hs
  have HZ := hide hz
  obtain ⟨hxr, hxl, _, _⟩ := rchk_zero hz
  have HXR := hide hxr
  have HXL := hide hxl
  have HGEN := hide hg
  clear hxr hxl hg
  generalize hsz : sz (Gen (fun y => y ∈ gss.map pad)) n = z at *
  have HSZ := hide hsz
  have hsI : ¬ ((5040 : Int) < (z : Int)) := by omega
  clear h hsz hgl hz
  go_enter Try.func25, Try.ntmps25
  go_wp2_with fail
  refine HW.out.mono ?_
  rintro ex w1 ⟨hb1, hpost⟩
  obtain rfl : ex = .returned (.tuple #[.slice none 0 0, .int .i64 14]) := by
    rcases hpost with h | h | h | h
    · exact absurd HZ.out h.1
    · exact h.2.2
    · exact absurd h.2.1 HGEN.out
    · exact absurd h.2.1 HGEN.out
  clear hpost HW
  go_wp2_with fail
  refine (HE.out w1 hb1).mono ?_
  rintro ex w2 ⟨hb2, hpost⟩
  rw [HSZ.out, if_neg (by have := HS.out; omega)] at hpost
  obtain ⟨ve, vse, X, rfl, hXl, hXn, hXm, hXs, hLE⟩ := hpost
  have hB2 := hb1.trans (hb2.mono hb1.size)
  have HLE := hide hLE.ints
  clear hLE hb1 hb2
  go_wp2_with fail
  refine (HCd.out w2 hB2).mono ?_
  rintro ex w3 ⟨hb3, hpost⟩
  obtain ⟨vrs, vws, S, rfl, hAr, hAw, hF⟩ : ∃ vr vw S, ex = .returned (.tuple #[vr, vw]) ∧ IntsAll w3 vr (S.map (fun e => cut n e.1)) ∧ IntsAll w3 vw (S.map (·.2)) ∧ Found n gss S := by
    rcases hpost with ⟨vr, vw, S, h1', h2', h3', h4', _⟩ | ⟨_, S, h1', h2'⟩
    · exact ⟨vr, vw, S, h1', h2', h3', Found.of h12 HGR.out h4'⟩
    · have := found_few h12 HGR.out h1'
      rw [HSZ.out] at this
      have := HS.out
      omega
  have hSl : S.length = z := by rw [← HSZ.out]; exact hF.size h12
  have HF := hide hF
  have hB3 := hB2.trans (hb3.mono hB2.size)
  have HXF : Hid (∀ x, x ∈ X → Fixes (fun b => n ≤ b) x) := fun x hx => gens_fix h12 HGR.out ((hXm x).1 hx)
  have HOrd := hide (rordered_all vrs _ w3 hAr (by rw [List.length_map]; have := HS.out; omega) (fun r hr => by have := (hF.rows h12 r hr).1; omega))
  obtain ⟨R, hR⟩ : ∃ R, R = S.map (fun e => cut n e.1) := ⟨_, rfl⟩
  rw [← hR] at hAr HOrd
  have hRl : R.length = z := by rw [hR, List.length_map]; exact hSl
  have HRows : Hid (∀ r, r ∈ R → r.length = n ∧ ∀ j, j < n → ∃ m : Nat, m < n ∧ r.getD j 0 = (m : Int)) := by
    show ∀ r, r ∈ R → _
    rw [hR]; exact hF.rows h12
  have HR := hide hR
  have HRL := hide hRl
  have HSL := hide hSl
  have HAr := hide hAr
  have HAw := hide hAw
  have HLE3 := hide (HLE.out.below hb3)
  have HXM := hide hXm
  have HXS := hide hXs
  have HXN := hide hXn
  clear hpost hAr hAw hF hR hRl hSl hXm hXs hXn hXl hb3 HLE HCd HE
  go_wp2_with fail
  refine HOrd.out.mono ?_
  rintro ex w4 ⟨vo, Y, rfl, hAo, hYp, hYs, hb4⟩
  have hYe : X.map (cut n) = Y := group_ordered h12 HXF.out HXN.out HXS.out HF.out.nodup (fun x => (HXM.out x).trans (HF.out.mem x).symm) (by rw [HR.out]; exact Found.cuts n S) hYp hYs
  have HSa := hide (sameAll_any ve vo (X.map (cut n)) Y w4 (HLE3.out.below hb4) hAo)
  rw [decide_eq_true hYe] at HSa
  have hB4 := hB3.trans (hb4.mono hB3.size)
  have HB34 := hide hb4
  clear hAo hYp hYs hYe hb4 HOrd HLE3
  go_wp2_with fail
  refine HSa.out.mono ?_
  rintro ex w5 ⟨rfl, hb5⟩
  have hB5 := hB4.trans (hb5.mono hB4.size)
  have HB35 := hide (HB34.out.trans (hb5.mono HB34.out.size))
  clear hb5 HSa hB4 HB34
  go_wp2_with fail
  refine (HO.out w5 hB5).mono ?_
  rintro ex w6 ⟨vob, vobs, rfl, hLO, hb6⟩
  have hB6 := hB5.trans (hb6.mono hB5.size)
  have HB36 := hide (HB35.out.trans (hb6.mono HB35.out.size))
  have HRo := hide (rorbits_ok n vrs R w6 (HAr.out.below HB36.out) h1 h12 HRows.out (by rw [HRL.out]; have := HS.out; omega) (by rw [HRL.out, ← HSL.out]; exact HF.out.pos))
  have HLO := hide hLO.ints
  clear hLO hb6 hB5 HB35 HO
  go_wp2_with fail
  refine HRo.out.mono ?_
  rintro ex w7 ⟨vro, vros, rfl, hLR, hb7⟩
  have hB7 := hB6.trans (hb7.mono hB6.size)
  have HB37 := hide (HB36.out.trans (hb7.mono HB36.out.size))
  have HSb := hide (sameAll_any vob vro _ _ w7 (HLO.out.below hb7) hLR.ints)
  have hoe : (orbsTo (gss.map pad) n n).map natI = (rorbsTo R n n).map natI := by rw [HR.out, HF.out.orbits h12]
  rw [decide_eq_true hoe] at HSb
  clear hLR hb7 hB6 HRo HLO hoe HB36
  go_wp2_with fail
  refine HSb.out.mono ?_
  rintro ex w8 ⟨rfl, hb8⟩
  have hB8 := hB7.trans (hb8.mono hB7.size)
  have hB38 := HB37.out.trans (hb8.mono HB37.out.size)
  have hs8 := hB8.size
  have HB8 := hide hB8
  have hAr8 := HAr.out.below hB38
  have hAw8 := HAw.out.below hB38
  have hzp : 1 ≤ z := by rw [← HSL.out]; exact HF.out.pos
  have hz5 : z ≤ 5040 := HS.out
  obtain ⟨pr, Nr, cr, rfl⟩ : ∃ p N c, vrs = .slice p N c := by obtain ⟨p, c, e⟩ := hAr8.len; exact ⟨p, _, c, e⟩
  obtain ⟨gr, offr, rfl, hNr, hcr1, hcr2, hgr, hcell⟩ := hAr8.rowI (by rw [HRL.out]; exact hzp)
  rw [HRL.out] at hNr hcr1
  have hNr' := hNr.symm
  subst hNr'
  obtain ⟨pw, Nw, cw, rfl⟩ : ∃ p N c, vws = .slice p N c := by obtain ⟨p, c, e⟩ := hAw8.len; exact ⟨p, _, c, e⟩
  obtain ⟨gw, offw, rfl, hNw, hcw1, hcw2, hgw, hcellw⟩ := hAw8.rowI (by rw [List.length_map, HSL.out]; exact hzp)
  rw [List.length_map, HSL.out] at hNw hcw1
  have hNw' := hNw.symm
  subst hNw'
  have HCL := hide hcell
  have HCW := hide hcellw
  have HX8 := hide (HXr.out.below hB8)
  have HG8 := hide (HG.out.below hB8 (Nat.le_refl _))
  have HKK : Hid (∀ (i : Nat) (r : List Int), R[i]? = some r → ¬ r = xs) := fun i r hr => by
    rw [HR.out, List.getElem?_map] at hr
    obtain ⟨d, hd, rfl⟩ := Option.map_eq_some_iff.1 hr
    exact HF.out.not h12 HGEN.out i d hd
  clear hcell hcellw hAr8 hAw8 hB38 hb8 hB8 hB7 hB2 hB3 HSb HB37 HAr HAw
  go_wp2
  go_loopw [21, 22] (fun sa si wr => ∃ i : Nat, i ≤ z ∧ sa = .int .i64 (-1) ∧ si = .int .i64 i ∧ Below w8.heap.size w8 wr) (fun _ si _ => z - (intOf si).toNat)
  case atStart => exact ⟨0, Nat.zero_le _, rfl, rfl, Below.refl _ _⟩
  case round =>
    obtain ⟨i, hiz, rfl, rfl, hbw⟩ := hrel
    by_cases hit : i < z
    · obtain ⟨r, hr⟩ : ∃ r, R[i]? = some r := ⟨_, List.getElem?_eq_getElem (by rw [HRL.out]; exact hit)⟩
      obtain ⟨u2, hcu, hiu⟩ := HCL.out i r hr
      have hcu' := (hbw.cell (p := ⟨gr, offr + i, none⟩) hgr).trans hcu
      have HSm := hide (same_any u2 vr r xs wr (hiu.below hbw) (HX8.out.below hbw))
      rw [decide_eq_false (HKK.out i r hr)] at HSm
      have hsw := hbw.size
      clear hcu hiu hr
      go_wp2_with fail
      refine HSm.out.mono ?_
      rintro ex w9 ⟨rfl, hb9⟩
      have HB9 := hide (hbw.trans (hb9.mono hsw))
      clear hb9 hbw HSm
      go_wp2
      go_roundw
      case rel =>
        have hfin : ∃ i' : Nat, i' ≤ z ∧ Value.int .i64 (-1) = .int .i64 (-1) ∧ Value.int .i64 ((i : Int) + 1) = .int .i64 (i' : Int) ∧ Below w8.heap.size w8 w9 := ⟨i + 1, hit, rfl, by go_num, HB9.out⟩
        first
          | exact hfin
          | ((repeat apply Exists.intro); exact ⟨hfin, rfl⟩)
          | exact ⟨i + 1, hit, by go_num, HB9.out⟩
      case measure => simp [intOf]; omega
    · obtain rfl : z = i := by omega
      obtain ⟨W, hW⟩ : ∃ W, W = wr := ⟨_, rfl⟩
      subst hW
      rcases (show bell < 0 ∨ (n : Int) ≤ bell ∨ (0 ≤ bell ∧ bell < (n : Int)) by omega) with hbl | hbl | hbl
      · have HSt := hide (still_low n bell v (gss.map pad) W hbl (HG8.out.below hbw (Nat.le_refl _)))
        go_wp2_with fail
        refine HSt.out.mono ?_
        rintro ex w13 ⟨rfl, hb13⟩
        have HBf := hide (HB8.out.trans ((hbw.trans (hb13.mono hbw.size)).mono hs8))
        clear hb13
        go_wp2
        go_ret
        exact ⟨rfl, HBf.out⟩
      · have hbl0 : ¬ bell < 0 := by omega
        have HSt := hide (still_high n bell v (gss.map pad) W h12 hbl (HG8.out.below hbw (Nat.le_refl _)))
        go_wp2_with fail
        refine HSt.out.mono ?_
        rintro ex w13 ⟨rfl, hb13⟩
        have HBf := hide (HB8.out.trans ((hbw.trans (hb13.mono hbw.size)).mono hs8))
        clear hb13
        go_wp2
        go_ret
        exact ⟨rfl, HBf.out⟩
      · obtain ⟨bl, rfl⟩ := Int.eq_ofNat_of_zero_le hbl.1
        have hbn' : bl < n := by omega
        have hd0 : decide ((bl : Int) < 0) = false := decide_eq_false (by omega)
        have hd1 : decide (n ≤ bl) = false := decide_eq_false (by omega)
        have hd2 : decide ((n : Int) ≤ (bl : Int)) = false := decide_eq_false (by omega)
        have HSt := hide (still_ok n bl v (gss.map pad) W h1 h12 hbn' HGL.out (HG8.out.below hbw (Nat.le_refl _)))
        clear hbl
        go_wp2_with fail
        refine HSt.out.mono ?_
        rintro ex w13 ⟨v13, hsg, rfl, hGS, hst, hb13⟩
        have hB13 : Below w8.heap.size w8 w13 := hbw.trans (hb13.mono hbw.size)
        have HGS := hide hGS
        have HSTA := hide hst
        obtain ⟨gb2, _, _, _, _, _, _, rfl, _⟩ := hGS
        have HCL13 : Hid (∀ i r, R[i]? = some r → ∃ u, w13.cell? ⟨gr, offr + i, none⟩ = some u ∧ Ints w13 u r) := fun i r hr => by
          obtain ⟨u, h1', h2'⟩ := HCL.out i r hr
          exact ⟨u, (hB13.cell (p := ⟨gr, offr + i, none⟩) hgr).trans h1', h2'.below hB13⟩
        have HB13 := hide (HB8.out.trans (hB13.mono hs8))
        have hgr13 : gr < w13.heap.size := Nat.lt_of_lt_of_le hgr hB13.size
        clear hst hb13 hB13 HSt hbw HCL HCW hgr
        go_wp2
        go_loopw [25, 26] (fun su si wr => ∃ (i : Nat) (u : Value) (vs : List Value), i ≤ z ∧ su = u ∧ si = .int .i64 i ∧ StayR w13 wr u vs bl i R) (fun _ si _ => z - (intOf si).toNat)
        case atStart => exact ⟨0, _, [], Nat.zero_le _, rfl, rfl, StayR.start w13 bl R⟩
        case round =>
          obtain ⟨i, u, vs, hiz, rfl, rfl, hSR⟩ := hrel
          have hsr := hSR.below.size
          by_cases hit : i < z
          · obtain ⟨r, hr⟩ : ∃ r, R[i]? = some r := ⟨_, List.getElem?_eq_getElem (by rw [HRL.out]; exact hit)⟩
            obtain ⟨u2, hcu, hiu⟩ := HCL13.out i r hr
            obtain ⟨hrl, hrm⟩ := HRows.out r (List.mem_of_getElem? hr)
            obtain ⟨m, hmn, hm⟩ := hrm bl hbn'
            have hcu' := (hSR.below.cell (p := ⟨gr, offr + i, none⟩) hgr13).trans hcu
            have HIU := hide hiu
            obtain ⟨p2, c2, e2⟩ := hiu.form
            subst e2
            obtain ⟨b2, o2, rfl, hl1, hl2, hl3, hl4⟩ := hiu.open (by omega)
            have hcm := (hSR.below.cell (p := ⟨b2, o2 + bl, none⟩) hl3).trans (hl4 bl (by omega))
            rw [hm] at hcm
            have HRI := hide hr
            have HM := hide hm
            have HSR := hide hSR
            rw [hrl] at hcu' hl1
            have HRLN := hide hrl
            have hvl : vs.length ≤ 5040 := by
              have h1' := hSR.len
              have h2' := stayL_length bl (R.take i)
              rw [List.length_take] at h2'
              omega
            clear hcu hiu hrm hm hr hl4 hSR hrl
            by_cases hmb : m = bl
            · have HM2 : Hid (r.getD bl 0 = (bl : Int)) := by show _ = _; rw [HM.out, hmb]
              rw [hmb] at hcm
              clear HM hmb hmn
              have HIU' : Hid (Ints w13 (.slice (some ⟨b2, o2, none⟩) n c2) r) := by show Ints _ _ _; have := HIU.out; rw [HRLN.out] at this; exact this
              have HrS := hide HSR.out.row
              go_wp2_with (at_builtin; go_loud (refine wpList_append_own _ rfl _ _ 22 rfl w13.heap.size 23 i0 (.slice none 0 0) 1 24 Try.underlying22 hi hz0 hz1 hz2 rfl (by decide) _ _ _ rfl (HrS.out.alloc _) ⟨wr.heap.size, 0, none⟩ 1 1 [.slice (some ⟨b2, o2, none⟩) n c2] rfl rfl ?d1 ?d2 ?d3 ?d4 ?d5 ?_))
              case d1 => exact cell_one_new _ _ _
              case d2 => intro u hu; simp at hu; subst hu; rfl
              case d3 => unfold maxLen; omega
              case d4 => omega
              case d5 => simp; omega
              intro v9 w9 hown9 hg9 _
              have HS9 := hide (HSR.out.more HRI.out HM2.out HIU'.out hown9 hg9)
              clear hown9 hg9
              go_wp2
              go_roundw
              case rel =>
                have hfin : ∃ (i' : Nat) (u : Value) (vs : List Value), i' ≤ z ∧ v9 = u ∧ Value.int .i64 ((i : Int) + 1) = .int .i64 (i' : Int) ∧ StayR w13 w9 u vs bl i' R := ⟨i + 1, _, _, hit, rfl, by go_num, HS9.out⟩
                first
                  | exact hfin
                  | ((repeat apply Exists.intro); exact ⟨hfin, rfl⟩)
              case measure => simp [intOf]; omega
            · have hmbI : ¬ (m : Int) = (bl : Int) := by omega
              have HS9 := hide (HSR.out.same HRI.out (by rw [HM.out]; exact hmbI))
              go_wp2
              go_roundw
              case rel =>
                have hfin : ∃ (i' : Nat) (u : Value) (vs : List Value), i' ≤ z ∧ u25 = u ∧ Value.int .i64 ((i : Int) + 1) = .int .i64 (i' : Int) ∧ StayR w13 wr u vs bl i' R := ⟨i + 1, _, vs, hit, rfl, by go_num, HS9.out⟩
                first
                  | exact hfin
                  | ((repeat apply Exists.intro); exact ⟨hfin, rfl⟩)
              case measure => simp [intOf]; omega
          · obtain rfl : i = z := by omega
            have hRi := HRL.out
            have hdn : StayR w13 wr u25 vs bl R.length R := by rw [hRi]; exact hSR
            have HAst := hide hdn.done
            have hb14 := hSR.below
            have HB14 := hide (HB13.out.trans (hb14.mono HB13.out.size))
            have HGS14 := hide (HGS.out.below hb14 (Nat.le_refl _))
            have HEl := hide (elements_ok n _ hsg wr h12 HGS14.out)
            have hszh : sz (Gen (fun y => y ∈ hsg)) n ≤ 5040 := by
              refine Nat.le_trans (sz_mono (H := Gen (fun y => y ∈ gss.map pad)) (fun x hx => ((HSTA.out x).1 hx).1) h12) ?_
              rw [HSZ.out]; exact HS.out
            have HSH := hide hszh
            clear hdn hSR hb14 hszh hRi
            go_wp2_with fail
            refine HEl.out.mono ?_
            rintro ex w15 ⟨hb15, hpost⟩
            rw [if_neg (by have := HSH.out; omega)] at hpost
            obtain ⟨vx, vxs, XX, rfl, hXl, hXn, hXm, hXs, hLX⟩ := hpost
            have HB15 := hide (HB14.out.trans (hb15.mono HB14.out.size))
            have HGb := hide (gbells_ok n _ hsg w15 (HGS14.out.below hb15 (Nat.le_refl _)))
            have HLX := hide hLX.ints
            have HAs2 := hide (HAst.out.below hb15)
            have HXN := hide hXn
            have HXM := hide hXm
            have HXS := hide hXs
            clear hXl hXn hXm hXs hLX hb15 HEl HAst
            go_wp2_with fail
            refine HGb.out.mono ?_
            rintro ex w16 ⟨rfl, hw16⟩
            subst hw16
            have HOd := hide (rordered_all u25 (stayL bl R) w15 HAs2.out (by have h1' := stayL_length bl R; rw [HRL.out] at h1'; omega) (fun r hr => by have h1' := (HRows.out r ((List.mem_filter.1 hr).1)).1; omega))
            clear HGb HAs2
            go_wp2_with fail
            refine HOd.out.mono ?_
            rintro ex w17 ⟨vo, Y, rfl, hAo, hYp, hYs, hb17⟩
            have HB17 := hide (HB15.out.trans (hb17.mono HB15.out.size))
            have hYe : XX.map (cut n) = Y := by
              refine group_ordered (S := (S.map (·.1)).filter (fun x => decide (x.act bl = bl))) h12 (fun x hx => ?_) HXN.out HXS.out (HF.out.nodup.sublist List.filter_sublist) (fun x => ?_) (R := stayL bl R) ?_ hYp hYs
              · exact gens_fix h12 HGR.out ((HSTA.out x).1 ((HXM.out x).1 hx)).1
              · rw [HXM.out, HSTA.out, List.mem_filter, decide_eq_true_iff, HF.out.mem]
              · rw [HR.out, Found.cuts, stayL_cut h12 hbn']
            have HSc := hide (sameAll_any vx vo (XX.map (cut n)) Y w17 (HLX.out.below hb17) hAo)
            rw [decide_eq_true hYe] at HSc
            clear hAo hYp hYs hYe hb17 HOd HLX
            go_wp2_with fail
            refine HSc.out.mono ?_
            rintro ex w18 ⟨rfl, hb18⟩
            have HB18 := hide (HB17.out.trans (hb18.mono HB17.out.size))
            clear hb18 HSc
            go_wp2
            go_ret
            exact ⟨rfl, HB18.out⟩

end Go.Proofs.Ytimfoggjocajiaa
