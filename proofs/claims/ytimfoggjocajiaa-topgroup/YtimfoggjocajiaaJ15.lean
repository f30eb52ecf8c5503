/- Joined: GeT, GeU, GeV, GensM, TgW. -/
import Derived.Test.YtimfoggjocajiaaJ6
import Derived.Deep.QuietTactic
import Derived.Test.YtimfoggjocajiaaJ9
import Derived.BigQuiet
import Derived.Test.YtimfoggjocajiaaJ7
import Derived.Test.YtimfoggjocajiaaJ12
import Derived.Test.YtimfoggjocajiaaJ14
import Derived.Deep.CutBlock
/- Contract: newChain by the bases that Still turns (mkget.py). -/
namespace Go.Proofs.Ytimfoggjocajiaa
open Go.RowKit

theorem link_laidT {w wr w1 w2 : World} {n j c : Nat} {bs : List Nat} {st : Nat → St} (hPre : PreAt wr w.heap.size w.heap.size n (((bs.take j).map lk0).map rawOf) st) (hlt : j < n) (hbl : bs.length = n) (hbj : bs[j]? = some c) (hbw : Below w.heap.size w wr) (hb01 : Below wr.heap.size wr w1) (hs1 : wr.heap.size < w1.heap.size)
    (hM2 : IMap w2 wr.heap.size (0 + 1) (upd (fun _ => none) (c : Int) (pv 1))) (hg2 : w1.grownBy w2 (some wr.heap.size)) :
    ∃ st', PreAt ((w2.alloc (.cells #[.int .i64 (c : Int)] 3)).setCells w.heap.size (j * 4) [.int .i64 (c : Int), .map (some wr.heap.size), .slice (some ⟨w2.heap.size, 0, none⟩) 1 1, .slice none 0 0]) w.heap.size w.heap.size n (((bs.take (j + 1)).map lk0).map rawOf) st' ∧ Below w.heap.size w ((w2.alloc (.cells #[.int .i64 (c : Int)] 3)).setCells w.heap.size (j * 4) [.int .i64 (c : Int), .map (some wr.heap.size), .slice (some ⟨w2.heap.size, 0, none⟩) 1 1, .slice none 0 0]) := by
  have hR : (((bs.take j).map lk0).map rawOf).length = j := by simp; omega
  have hs2 := hg2.size
  have hbs := hbw.size
  have hb2 : Below wr.heap.size wr (w2.alloc (.cells #[.int .i64 (c : Int)] 3)) := (hb01.grown hg2 hb01.size (fun k h => by have := Option.some.inj h; omega)).alloc (by omega) _
  have hM3 := hM2.alloc (.cells #[.int .i64 (c : Int)] 3)
  rw [tabF_one] at hM3
  have hO : (w2.alloc (.cells #[.int .i64 (c : Int)] 3)).ownsRow w.heap.size 3 1 (.slice (some ⟨w2.heap.size, 0, none⟩) 1 1) 1 [.int .i64 (c : Int)] := owns_base (one_owned w2 (c : Int)) (by omega)
  have hst := hPre.step (base := c) (by rw [hR]; exact hlt) hb2 hM3 (by omega) (Nat.le_refl _) hO (by omega)
  rw [hR, show ((bs.take j).map lk0).map rawOf ++ [rawOf (lk0 c)] = ((bs.take (j + 1)).map lk0).map rawOf from by rw [List.take_add_one, hbj]; simp] at hst
  exact ⟨_, hst, (hbw.trans (hb2.mono hbw.size)).trans (below_setCells _ _ _ _ (Nat.le_refl _))⟩

set_option maxRecDepth 20000 in
set_option maxHeartbeats 4000000 in
theorem newChainT_ok (n b2 b3 : Nat) (bs : List Nat) (v1 : Value) (gs : List Pm) (w : World) (h1 : 1 ≤ n) (h12 : n ≤ 12) (hP : Packs w v1 gs) (hgs : gs.length ≤ 8916100448256) (hF : ∀ x, x ∈ gs → Fixes (fun b => n ≤ b) x) (hbl : bs.length = n) (hb12 : ∀ b, b ∈ bs → b < 12) (hba : ∀ b, b < 12 → n ≤ b ∨ b ∈ bs)
    (hBase : ∀ (j c : Nat) (W : World), bs[j]? = some c → Below w.heap.size w W → Calls Try.prog 97 #[.int .i64 (j : Int), .pointer (some ⟨b3, 0, none⟩), .pointer (some ⟨b2, 0, none⟩)] W fun e w' => e = .returned (.int .i64 (c : Int)) ∧ Below W.heap.size W w') :
    Calls Try.prog 98 #[.int .i64 n, v1, .func (.func 97) #[] #[.pointer (some ⟨b3, 0, none⟩), .pointer (some ⟨b2, 0, none⟩)]] w fun e w' => ∃ g C st, e = .returned (.slice (some ⟨g, 0, none⟩) n n) ∧ Chained w' w.heap.size g n bs C st gs ∧ Below w.heap.size w w' := by
  obtain ⟨i0, hi, hz0, hz1, hz2⟩ := info_parts Try.info136
  obtain ⟨pp, pcap, rfl⟩ := hP.form
  have HP := hide hP
  have HFx := hide hF
  have HBL := hide hbl
  have HB12 := hide hb12
  have HBA := hide hba
  have HBase := hide hBase
  have hmm := @run_makeMap Try.prog
  have hl1 := (1 : Pm).len
  clear hP hF hbl hb12 hba hBase
  go_enter Try.func98, Try.ntmps98
  go_wp2_with (at_make; refine wpList_make_full _ rfl _ _ 97 rfl w.heap.size 136 i0 (.agg #[.int .i64 0, .map none, .slice none 0 0, .slice none 0 0]) 4 Try.underlying97 hi hz0 hz1 _ _ _ _ n rfl rfl (by omega) (by omega) ?b2 ?b3 (Nat.le_refl _) ?_)
  case b2 => rw [hz2]; omega
  case b3 => unfold maxLen; omega
  intro w0 hown0 hgrow0
  have hPre0 : PreAt w0 w.heap.size w.heap.size n (((bs.take 0).map lk0).map rawOf) (fun _ => ⟨0, .slice none 0 0, .slice none 0 0⟩) := by
    refine ⟨?_, Nat.le_refl _, fun j r h => by simp at h, fun i j h => by simp at h, fun i j h => by simp at h, fun i j h => by simp at h⟩
    rcases hown0.2 with ⟨h, _⟩ | ⟨g', cap', cur, hv, _, hh, _, _, hs, _⟩
    · cases h
    · injection hv with e1 _ e3
      injection e1 with e1
      injection e1 with e1
      subst e1; subst e3
      exact ⟨cur, hh, by rw [hs, Nat.mul_comm]⟩
  have hB0 : Below w.heap.size w w0 := (Below.refl _ _).grown hgrow0 (Nat.le_refl _) (fun k h => by cases h)
  clear hown0 hgrow0
  go_wp2
  go_loopw [16] (fun i wr => ∃ (j : Nat) (st : Nat → St), j ≤ n ∧ i = .int .i64 j ∧ PreAt wr w.heap.size w.heap.size n (((bs.take j).map lk0).map rawOf) st ∧ Below w.heap.size w wr) (fun i _ => n - (intOf i).toNat)
  case atStart => exact ⟨0, _, by omega, rfl, hPre0, hB0⟩
  case round =>
    clear hPre0 hB0
    obtain ⟨j, st, hj, rfl, hPre, hbw⟩ := hrel
    by_cases hlt : j < n
    · obtain ⟨c, hbj⟩ : ∃ c, bs[j]? = some c := ⟨_, List.getElem?_eq_getElem (by rw [HBL.out]; exact hlt)⟩
      have hc12 : c < 12 := HB12.out c (List.mem_of_getElem? hbj)
      have HBJ := hide hbj
      have HCal := hide (HBase.out j c wr hbj hbw)
      clear hbj
      have HPre := hide hPre
      have hbs := hbw.size
      have hsw : w.heap.size < wr.heap.size := by obtain ⟨cs, ho, _⟩ := hPre.obj; exact (Array.getElem?_eq_some_iff.1 ho).1
      clear hPre
      go_wp2_with fail
      refine HCal.out.mono ?_
      rintro e wc ⟨rfl, hbc⟩
      have hM0 := IMap.made wc
      have hbwc : Below w.heap.size w wc := hbw.trans (hbc.mono hbw.size)
      have HPreC := hide (HPre.out.below hbc (Nat.le_refl _))
      have hswc : w.heap.size < wc.heap.size := Nat.lt_of_lt_of_le hsw hbc.size
      clear HPre HCal hbw hbs hsw hbc
      have HPre := HPreC
      have hbw := hbwc
      have hsw := hswc
      have hbs := hbwc.size
      clear HPreC hbwc hswc
      go_wp2_with fail
      refine (prounds_ok _).mono ?_
      rintro e w1 ⟨rfl, hb1⟩
      replace hb1 := below_alloc hb1
      have hM1 := hM0.below hb1 (by omega)
      have hb01 : Below wc.heap.size wc w1 := ((Below.refl _ _).alloc (Nat.le_refl _) _).trans (hb1.mono (by omega))
      have hs1 : wc.heap.size < w1.heap.size := by have := hb1.size; simp at this; omega
      clear hM0 hb1
      have hgth : ∀ (W : World) (o : Obj), W.heap[w.heap.size]? = wc.heap[w.heap.size]? → w.heap.size < W.heap.size → (W.alloc o).there w.heap.size (j * 4) 4 := fun W o hW hlt2 => by
        obtain ⟨cs, ho, hos⟩ := HPre.out.obj
        exact there_obj ((Below.heap_alloc W o _ hlt2).trans (hW.trans ho)) hos _ _ (by omega)
      have HG := hide hgth
      have HZL : Hid (0 < maxLen) := by unfold Hid maxLen; omega
      have HJ1 : Hid (-9223372036854775808 ≤ (c : Int)) := by show _ ≤ _; omega
      have HJ2 : Hid ((c : Int) ≤ 9223372036854775807) := by show _ ≤ _; omega
      clear hgth
      go_wp2_with (refine wpList_insert rfl _ _ _ 134 rfl 91 Try.underlying134 hM1 HZL.out (c : Int) (pv 1) rfl rfl rfl HJ1.out HJ2.out ?_)
      intro w2 hM2 hg2
      have hth2 := HG.out w2 (.cells #[.int .i64 (c : Int)] 3) ((hg2.block w.heap.size (by omega) (by intro e; have := Option.some.inj e; omega)).trans (hb01.block w.heap.size hsw)) (by have := hg2.size; omega)
      obtain ⟨x0, d0⟩ := Option.isSome_iff_exists.1 (hth2 0 (by omega)).1
      obtain ⟨x1, d1⟩ := Option.isSome_iff_exists.1 (hth2 1 (by omega)).1
      obtain ⟨x2, d2⟩ := Option.isSome_iff_exists.1 (hth2 2 (by omega)).1
      obtain ⟨x3, d3⟩ := Option.isSome_iff_exists.1 (hth2 3 (by omega)).1
      have f0 := (hth2 0 (by omega)).2
      have f1 := (hth2 1 (by omega)).2
      have f2 := (hth2 2 (by omega)).2
      have f3 := (hth2 3 (by omega)).2
      rw [Nat.add_zero] at d0 f0
      have hLL := link_laidT HPre.out hlt HBL.out HBJ.out hbw hb01 hs1 hM2 hg2
      have HLL := hide hLL
      clear hLL hM2 hg2 hth2 hb01 hM1 HG HZL HJ1 HJ2
      obtain ⟨st', HST, HB3⟩ := HLL.out
      replace HST := hide HST
      replace HB3 := hide HB3
      clear HLL
      go_wp2
      go_roundw
      case rel =>
        have hfin : ∃ (j' : Nat) (st : Nat → St), j' ≤ n ∧ Value.int .i64 ((j : Int) + 1) = .int .i64 (j' : Int) ∧ PreAt ((w2.alloc (.cells #[.int .i64 (c : Int)] 3)).setCells w.heap.size (j * 4) [.int .i64 (c : Int), .map (some wc.heap.size), .slice (some ⟨w2.heap.size, 0, none⟩) 1 1, .slice none 0 0]) w.heap.size w.heap.size n (((bs.take j').map lk0).map rawOf) st ∧ Below w.heap.size w ((w2.alloc (.cells #[.int .i64 (c : Int)] 3)).setCells w.heap.size (j * 4) [.int .i64 (c : Int), .map (some wc.heap.size), .slice (some ⟨w2.heap.size, 0, none⟩) 1 1, .slice none 0 0]) :=
          ⟨j + 1, _, by omega, by go_num, HST.out, HB3.out⟩
        first
          | exact hfin
          | ((repeat apply Exists.intro); exact ⟨hfin, rfl⟩)
      case measure => simp [intOf]; omega
    · obtain rfl : j = n := by omega
      have hCh := hPre.all (by rw [List.take_of_length_le (by rw [HBL.out]; exact Nat.le_refl _)]; simp; exact HBL.out)
      rw [List.take_of_length_le (by rw [HBL.out]; exact Nat.le_refl _)] at hCh
      have HCh := hide hCh
      have HBw := hide hbw
      have hbs := hbw.size
      clear hPre hCh hbw
      obtain ⟨wo, hwo⟩ : ∃ wo : World, wo = wr := ⟨_, rfl⟩
      go_wp2
      go_loopw [36] (fun i wr => ∃ (q : Nat) (C : List Lk) (st : Nat → St), q ≤ gs.length ∧ i = .int .i64 q ∧ C.length = j ∧ Hid (C.map (·.base) = bs) ∧ Whole (fun b => j ≤ b) C ∧ Hid (∀ x, Prd C x ↔ Gen (fun y => y ∈ gs.take q) x) ∧ ChainAt wr w.heap.size w.heap.size (C.map rawOf) st ∧ Below w.heap.size w wr ∧ Hid (∀ l, l ∈ C → l.gens.Nodup)) (fun i _ => gs.length - (intOf i).toNat)
      case atStart =>
        refine ⟨0, bs.map lk0, st, by omega, rfl, by simp; exact HBL.out, ?_, whole_lk0 _ _ (fun b hb => ?_), ?_, HCh.out, HBw.out, ?_⟩
        · show (bs.map lk0).map (·.base) = _
          rw [List.map_map]
          exact List.map_id _
        · exact HBA.out b hb
        · intro x
          rw [prd_lk0, List.take_zero]
          exact ⟨fun e => by rw [e]; exact Gen.one, gen_none⟩
        · intro l hl
          obtain ⟨b, _, rfl⟩ := List.mem_map.1 hl
          exact List.nodup_nil
      case round =>
        clear hwo
        obtain ⟨q, C, st, hq, rfl, hlen, hbas, hW, hg, hCh, hbw, hnd⟩ := hrel
        by_cases hlt : q < gs.length
        · obtain ⟨s, hs⟩ : ∃ s, gs[q]? = some s := ⟨_, List.getElem?_eq_getElem hlt⟩
          have hfs := HFx.out s (List.mem_of_getElem? hs)
          have hPk := HP.out.below hbw (Nat.le_refl _)
          obtain ⟨b, off, hpp, hrange, hb⟩ : ∃ b off, pp = some ⟨b, off, none⟩ ∧ wr.rangeAt b (off + q * 12) (s.l.map (Value.int .i8)) ∧ gs.length ≤ pcap := by
            rcases hPk with ⟨e, _⟩ | ⟨b, off, cap, hv, _, hc, _, _, hr⟩
            · rw [e] at hlt; simp at hlt
            · injection hv with e1 _ e3
              exact ⟨b, off, e1, hr q s hs, by omega⟩
          have hin : (Try.prog.info? 91).map (·.size) = some (s.l.map (Value.int .i8)).length := by rw [List.length_map, s.len]; exact Try.size91
          have hsl := s.len
          have HS := hide hs
          have HCh := hide hCh
          have HW := hide hW
          have HLen := hide hlen
          have hbs := hbw.size
          subst hpp
          clear hs hPk hCh hW hlen
          go_wp2_with (first
            | refine wpList_load_mid rfl 91 _ rfl b _ rfl _ _ hrange Try.underlying91 rfl hin ?_
            | (refine wpList_store_arr rfl _ _ rfl wr.heap.size zeros12 s.l (zeros_new wr) rfl rfl hsl ?_; intro w6 hX6 hg6)
            | refine wpList_load_arr rfl _ rfl wr.heap.size s.l hX6 rfl ?_)
          have hb6 : Below wr.heap.size wr w6 := ((Below.refl _ _).alloc (Nat.le_refl _) _).grown hg6 (by simp) (fun k h => by have := Option.some.inj h; omega)
          have hC6 := HCh.out.below hb6 (Nat.le_refl _)
          have hbl : ∀ l, l ∈ C → l.base < 12 := fun l hl => by
            exact HB12.out _ (by rw [← hbas.out]; exact List.mem_map.2 ⟨l, hl, rfl⟩)
          have hT := take_all j 0 (by omega) w.heap.size w.heap.size [] C st s (fun b => j ≤ b) w6 rfl (by rw [HLen.out]; omega) h12 hbl hnd.out hC6 HW.out hfs
          have HT := hide hT
          have HB6 := hide hb6
          have HC6 := hide hC6
          clear hT hb6 hC6 hX6 hg6 hrange
          refine HT.out.mono ?_
          rintro e w7 ⟨v, rfl, C', st', hW7, hT7, hC7, hK7, hf7, hn7, hs7⟩
          have hg7 := chained_take HS.out hW7 hg.out hT7
          have hB7 : Below w.heap.size w w7 := (hbw.trans (HB6.out.mono hbw.size)).trans (hK7.toBelow (by have := HB6.out.size; omega) (fun b x hb hf => by have := (foot_lt HC6.out hf).2; omega))
          have HG7 := hide hg7
          clear hg7
          go_wp2
          go_roundw
          case rel =>
            have hfin : ∃ (q' : Nat) (C : List Lk) (st : Nat → St), q' ≤ gs.length ∧ Value.int .i64 ((q : Int) + 1) = .int .i64 (q' : Int) ∧ C.length = j ∧ Hid (C.map (·.base) = bs) ∧ Whole (fun b => j ≤ b) C ∧ Hid (∀ x, Prd C x ↔ Gen (fun y => y ∈ gs.take q') x) ∧ ChainAt w7 w.heap.size w.heap.size (C.map rawOf) st ∧ Below w.heap.size w w7 ∧ Hid (∀ l, l ∈ C → l.gens.Nodup) :=
              ⟨q + 1, C', st', by omega, by go_num, hT7.len.trans HLen.out, hT7.bases.trans hbas.out, hW7, HG7, hC7, hB7, hn7⟩
            first
              | exact hfin
              | ((repeat apply Exists.intro); exact ⟨hfin, rfl⟩)
          case measure => simp [intOf]; omega
        · have hgf : ∀ x, Prd C x ↔ Gen (fun y => y ∈ gs) x := fun x => by have := hg.out x; rw [List.take_of_length_le (by omega)] at this; exact this
          have HCd := hide (Chained.mk hlen hbas.out hW hgf hCh hnd.out)
          clear hW hCh hgf hg
          go_wp2
          go_ret
          exact ⟨_, C, st, rfl, HCd.out, hbw⟩
end Go.Proofs.Ytimfoggjocajiaa

/- Contract: a group's Still. -/
namespace Go.Proofs.Ytimfoggjocajiaa
open Go.RowKit

theorem stab_prd {F : Nat → Prop} {l : Lk} {c : List Lk} (h : Whole F (l :: c)) (x : Pm) : Prd c x ↔ Prd (l :: c) x ∧ x.act l.base = l.base := by
  constructor
  · intro hx
    exact ⟨⟨(l.base, 1), h.1.first, x, hx, (Pm.one_mul x).symm⟩, prd_fix h.2.1 hx l.base (Or.inr rfl)⟩
  · rintro ⟨⟨e, he, p, hp, rfl⟩, hf⟩
    have hb := prd_fix h.2.1 hp l.base (Or.inr rfl)
    rw [Pm.act_mul, hb, h.1.brings e he] at hf
    have e1 : e.2 = 1 := tab_eq h.1.nodup (b := l.base) (by rw [← hf]; exact he) h.1.first
    rw [e1, Pm.one_mul]
    exact hp

/-- The bases, from a bell on. -/
def turned (bell n : Nat) : List Nat := (List.range n).map (fun j => (bell + j) % n)

theorem turned_len (bell n : Nat) : (turned bell n).length = n := by unfold turned; simp

theorem turned_at {bell n j c : Nat} (h : (turned bell n)[j]? = some c) : j < n ∧ c = (bell + j) % n := by
  have hj : j < n := by have := (List.getElem?_eq_some_iff.1 h).1; rw [turned_len] at this; exact this
  unfold turned at h
  rw [List.getElem?_map, List.getElem?_range hj] at h
  exact ⟨hj, (Option.some.inj h).symm⟩

theorem turned_mem {bell n b : Nat} (hb : bell < n) : b ∈ turned bell n ↔ b < n := by
  unfold turned
  rw [List.mem_map]
  constructor
  · rintro ⟨j, _, rfl⟩
    exact Nat.mod_lt _ (by omega)
  · intro h
    by_cases h' : bell ≤ b
    · exact ⟨b - bell, List.mem_range.2 (by omega), by rw [show bell + (b - bell) = b from by omega]; exact Nat.mod_eq_of_lt h⟩
    · exact ⟨b + n - bell, List.mem_range.2 (by omega), by rw [show bell + (b + n - bell) = b + n from by omega, Nat.add_mod_right]; exact Nat.mod_eq_of_lt h⟩

theorem packs_own {w : World} {B : Nat} {v : Value} {gs : List Pm} (h : w.ownsRow B 91 12 v gs.length (gcells gs)) : Packs w v gs := by
  by_cases h0 : gs.length = 0
  · have : gs = [] := List.length_eq_zero_iff.1 h0
    subst this
    obtain ⟨p, c, e⟩ := owns_slice12 h
    exact Or.inl ⟨rfl, p, c, e⟩
  · obtain ⟨p, c, e⟩ := owns_slice12 h
    have h' := h
    rw [e] at h'
    obtain ⟨b, hb, _, h1, h2⟩ := owns_some h' (by omega)
    subst hb
    refine Or.inr ⟨b, 0, c, e, by omega, h1, h2, (h'.lt b rfl).2, fun i q hi => ?_⟩
    intro j u hu
    have hj : j < 12 := by have := (List.getElem?_eq_some_iff.1 hu).1; rw [List.length_map, q.len] at this; exact this
    have h9 := h'.cells (g := b) rfl (i * 12 + j) _ (gcells_at gs i q hi j hj)
    rw [Addr.add_lit, Nat.zero_add] at h9
    rw [show 0 + i * 12 = i * 12 from by omega, h9, ← hu]
    simp [List.getD, q.len, hj]

theorem below_dr {w x : World} {B : Nat} (h : Below B w x) : Below B w x.drew := ⟨h.os, h.tape, h.output, h.size, h.block⟩

theorem below_dN (w : World) (n : Nat) : Below w.heap.size w (w.drewN n) := ⟨rfl, rfl, rfl, Nat.le_refl _, fun _ _ => rfl⟩

set_option maxRecDepth 20000 in
set_option maxHeartbeats 2000000 in
theorem still1_ok (bell n j b2 b3 g1 : Nat) (w : World) (h1 : 1 ≤ n) (h12 : n ≤ 12) (hb : bell < n) (hj : j < n) (c3 : w.cell? ⟨b3, 0, none⟩ = some (.int .i64 (bell : Int))) (c2 : w.cell? ⟨b2, 0, none⟩ = some (.pointer (some ⟨g1, 0, none⟩))) (c1 : w.cell? ⟨g1, 0, none⟩ = some (.int .i64 (n : Int))) :
    Calls Try.prog 97 #[.int .i64 (j : Int), .pointer (some ⟨b3, 0, none⟩), .pointer (some ⟨b2, 0, none⟩)] w fun e w' => e = .returned (.int .i64 (((bell + j) % n : Nat) : Int)) ∧ Below w.heap.size w w' := by
  have hm : ((bell : Int) + (j : Int)).tmod (n : Int) = (((bell + j) % n : Nat) : Int) := by rw [← Int.natCast_add]; rfl
  go_enter Try.func97, Try.ntmps97
  go_wp2
  go_quiet (fail)
  go_wp2
  go_ret
  exact ⟨by rw [← Int.natCast_add, ← Int.natCast_emod]; rfl, below_dN w nq⟩

theorem whole_head {F : Nat → Prop} {l : Lk} {c : List Lk} (h : Whole F (l :: c)) (x : Pm) : Prd (l :: c) x ↔ Gen (fun y => y ∈ l.gens) x := h.2.2 x

/-- What Still leaves. -/
def StPost (n : Nat) (gs : List Pm) (bell : Nat) (w : World) (e : Ending) (w' : World) : Prop :=
  ∃ v hs, e = .returned (.tuple #[v, .int .i64 0]) ∧ GroupAt w' v n hs ∧ (∀ x, Gen (fun y => y ∈ hs) x ↔ Gen (fun y => y ∈ gs) x ∧ x.act bell = bell) ∧ Below w.heap.size w w'

set_option maxRecDepth 20000 in
set_option maxHeartbeats 4000000 in
theorem still_ok (n bell : Nat) (v : Value) (gs : List Pm) (w : World) (h1 : 1 ≤ n) (h12 : n ≤ 12) (hb : bell < n) (hgs : gs.length ≤ 1000000) (hG : GroupAt w v n gs) :
    Calls Try.prog 52 #[v, .int .i64 (bell : Int)] w fun e w' => StPost n gs bell w e w' := by
  obtain ⟨g1, vg1, B1, c1, bs1, C1, st1, rfl, hg1, a10, a11, a12, hP1, hC1, hb1, rfl⟩ := hG
  have HFX : Hid (∀ s, s ∈ gs → Fixes (fun b => n ≤ b) s) := fun s hs => prd_fix hC1.whole ((hC1.gen s).2 (Gen.of hs))
  have HP := hide hP1
  obtain ⟨pp, pcap, rfl⟩ := hP1.form
  clear hP1 hC1 hb1 a12
  have hd0 : decide ((bell : Int) < 0) = false := decide_eq_false (by omega)
  have hd1 : decide ((n : Int) ≤ (bell : Int)) = false := decide_eq_false (by omega)
  have hBX : Below w.heap.size w ((w.alloc (.cells #[.pointer (some ⟨g1, 0, none⟩)] 24)).alloc (.cells #[.int .i64 (bell : Int)] 3)) := ((Below.refl _ _).alloc (Nat.le_refl _) _).alloc (by simp) _
  have k2 : ((w.alloc (.cells #[.pointer (some ⟨g1, 0, none⟩)] 24)).alloc (.cells #[.int .i64 (bell : Int)] 3)).cell? ⟨w.heap.size, 0, none⟩ = some (.pointer (some ⟨g1, 0, none⟩)) := by
    rw [cell_of_row _ w.heap.size 0 _ _ _ ((Below.heap_alloc _ _ _ (by simp)).trans (heap_alloc_new w _))]; rfl
  have k3 : ((w.alloc (.cells #[.pointer (some ⟨g1, 0, none⟩)] 24)).alloc (.cells #[.int .i64 (bell : Int)] 3)).cell? ⟨w.heap.size + 1, 0, none⟩ = some (.int .i64 (bell : Int)) := by
    have := heap_alloc_new (w.alloc (.cells #[.pointer (some ⟨g1, 0, none⟩)] 24)) (.cells #[.int .i64 (bell : Int)] 3)
    rw [show (w.alloc (.cells #[.pointer (some ⟨g1, 0, none⟩)] 24)).heap.size = w.heap.size + 1 from by simp] at this
    rw [cell_of_row _ (w.heap.size + 1) 0 _ _ _ this]; rfl
  have hsX : ((w.alloc (.cells #[.pointer (some ⟨g1, 0, none⟩)] 24)).alloc (.cells #[.int .i64 (bell : Int)] 3)).heap.size = w.heap.size + 2 := by simp
  go_enter Try.func52, Try.ntmps52
  go_wp2
  change Code.wp _ _ _ _ ((w.alloc (.cells #[.pointer (some ⟨g1, 0, none⟩)] 24)).alloc (.cells #[.int .i64 (bell : Int)] 3))
  generalize (w.alloc (.cells #[.pointer (some ⟨g1, 0, none⟩)] 24)).alloc (.cells #[.int .i64 (bell : Int)] 3) = X0 at *
  have k10 : X0.cell? ⟨g1, 0, none⟩ = some (.int .i64 (n : Int)) := (hBX.cell (p := ⟨g1, 0, none⟩) hg1).trans a10
  have k11 : X0.cell? ⟨g1, 1, none⟩ = some (.slice pp gs.length pcap) := (hBX.cell (p := ⟨g1, 1, none⟩) hg1).trans a11
  have HBX := hide hBX
  have HSX := hide hsX
  clear hBX hsX a10 a11
  go_quiet (fail)
  have hBX : Below w.heap.size w (X0.drewN nq) := HBX.out.trans ((below_dN X0 nq).mono HBX.out.size)
  have hsX : (X0.drewN nq).heap.size = w.heap.size + 2 := HSX.out
  have q2 : (X0.drewN nq).cell? ⟨w.heap.size, 0, none⟩ = some (.pointer (some ⟨g1, 0, none⟩)) := k2
  have q3 : (X0.drewN nq).cell? ⟨w.heap.size + 1, 0, none⟩ = some (.int .i64 (bell : Int)) := k3
  have q10 : (X0.drewN nq).cell? ⟨g1, 0, none⟩ = some (.int .i64 (n : Int)) := k10
  have q11 : (X0.drewN nq).cell? ⟨g1, 1, none⟩ = some (.slice pp gs.length pcap) := k11
  clear HBX HSX k2 k3 k10 k11
  generalize X0.drewN nq = X at *
  have HBX := hide hBX
  have HSX := hide hsX
  have HCs := hide q3
  clear hBX hsX
  go_wp2
  refine wp_region_held_drew (S := fun W' => W'.cell? ⟨w.heap.size, 0, none⟩ = some (.pointer (some ⟨g1, 0, none⟩)) ∧ W'.cell? ⟨g1, 0, none⟩ = some (.int .i64 (n : Int)) ∧ W'.cell? ⟨g1, 1, none⟩ = some (.slice pp gs.length pcap)) (by kernel_rfl) ⟨q2, q10, q11⟩ (fun hS => ?_)
  refine wpAnyH_take (i := 0) (v := .pointer (some ⟨g1, 0, none⟩)) rfl (by kernel_rfl) (by kernel_rfl) (by kernel_rfl) (fun _ _ _ h => h) (Or.inl ⟨by kernel_rfl, fun w' hS' => by obtain ⟨q2, q0, q1⟩ := hS'; go_simp⟩) hS ?_
  refine wpAnyH_take (i := 1) (v := .pointer (some ⟨g1, 0, none⟩)) rfl (by kernel_rfl) (by kernel_rfl) (by kernel_rfl) (fun _ _ _ h => h) (Or.inl ⟨by kernel_rfl, fun w' hS' => by clear hS'; go_simp⟩) hS ?_
  refine wpAnyH_take (i := 2) (v := .pointer (some ⟨g1, 0, none⟩)) rfl (by kernel_rfl) (by kernel_rfl) (by kernel_rfl) (fun _ _ _ h => h) (Or.inl ⟨by kernel_rfl, fun w' hS' => by clear hS'; go_simp⟩) hS ?_
  refine wpAnyH_take (i := 3) (v := .int .i64 (n : Int)) rfl (by kernel_rfl) (by kernel_rfl) (by kernel_rfl) (fun _ _ _ h => h) (Or.inl ⟨by kernel_rfl, fun w' hS' => by obtain ⟨q2, q0, q1⟩ := hS'; go_simp⟩) hS ?_
  refine wpAnyH_take (i := 4) (v := .pointer (some ⟨g1, 0, none⟩)) rfl (by kernel_rfl) (by kernel_rfl) (by kernel_rfl) (fun _ _ _ h => h) (Or.inl ⟨by kernel_rfl, fun w' hS' => by obtain ⟨q2, q0, q1⟩ := hS'; go_simp⟩) hS ?_
  refine wpAnyH_take (i := 5) (v := .pointer (some ⟨g1, 0, none⟩)) rfl (by kernel_rfl) (by kernel_rfl) (by kernel_rfl) (fun _ _ _ h => h) (Or.inl ⟨by kernel_rfl, fun w' hS' => by clear hS'; go_simp⟩) hS ?_
  refine wpAnyH_take (i := 6) (v := .pointer (some ⟨g1, 1, none⟩)) rfl (by kernel_rfl) (by kernel_rfl) (by kernel_rfl) (fun _ _ _ h => h) (Or.inl ⟨by kernel_rfl, fun w' hS' => by clear hS'; go_simp⟩) hS ?_
  refine wpAnyH_take (i := 7) (v := .slice pp gs.length pcap) rfl (by kernel_rfl) (by kernel_rfl) (by kernel_rfl) (fun _ _ _ h => h) (Or.inl ⟨by kernel_rfl, fun w' hS' => by obtain ⟨q2, q0, q1⟩ := hS'; go_simp⟩) hS ?_
  refine wpAnyH_take (i := 8) (v := .func (.func 97) #[] #[.pointer (some ⟨w.heap.size + 1, 0, none⟩), .pointer (some ⟨w.heap.size, 0, none⟩)]) rfl (by kernel_rfl) (by kernel_rfl) (by kernel_rfl) (fun _ _ _ h => h) (Or.inl ⟨by kernel_rfl, fun w' hS' => by clear hS'; go_simp⟩) hS ?_
  have HBase : Hid (∀ (j c : Nat) (W : World), (turned bell n)[j]? = some c → Below X.drew.heap.size X.drew W → Calls Try.prog 97 #[.int .i64 (j : Int), .pointer (some ⟨w.heap.size + 1, 0, none⟩), .pointer (some ⟨w.heap.size, 0, none⟩)] W fun e w' => e = .returned (.int .i64 (c : Int)) ∧ Below W.heap.size W w') := fun j c W hj hW => by
    obtain ⟨hj1, rfl⟩ := turned_at hj
    have hs : X.drew.heap.size = w.heap.size + 2 := HSX.out
    exact still1_ok bell n j _ _ g1 W h1 h12 hb hj1 ((hW.cell (p := ⟨w.heap.size + 1, 0, none⟩) (by show w.heap.size + 1 < _; omega)).trans q3) ((hW.cell (p := ⟨w.heap.size, 0, none⟩) (by show w.heap.size < _; omega)).trans q2) ((hW.cell (p := ⟨g1, 0, none⟩) (by show g1 < _; omega)).trans q10)
  have HN := hide (newChainT_ok n w.heap.size (w.heap.size + 1) (turned bell n) (.slice pp gs.length pcap) gs X.drew h1 h12 (HP.out.below (below_dr HBX.out) (Nat.le_refl _)) (by omega) HFX.out (turned_len bell n) (fun b hb' => by have := (turned_mem hb).1 hb'; omega) (fun b _ => by rcases Nat.lt_or_ge b n with h | h; exact Or.inr ((turned_mem hb).2 h); exact Or.inl h) HBase.out)
  refine wpAnyH_ready (rs := [9]) (by kernel_rfl) (by simp) ?_
  refine AllReadyH.cons rfl (fun K hK => ?_) AllReadyH.nil
  go_simp
  refine HN.out.mono ?_
  rintro e w5 ⟨g5, C5, st5, rfl, hC5, hb5⟩
  have hb5' : Below X.heap.size X w5 := undrew hb5
  have hlt2 : w.heap.size < X.heap.size := by have := HSX.out; omega
  have r2 : w5.cell? ⟨w.heap.size, 0, none⟩ = some (.pointer (some ⟨g1, 0, none⟩)) := (hb5'.cell (p := ⟨w.heap.size, 0, none⟩) hlt2).trans q2
  have r10 : w5.cell? ⟨g1, 0, none⟩ = some (.int .i64 (n : Int)) := (hb5'.cell (p := ⟨g1, 0, none⟩) (by show g1 < _; omega)).trans q10
  have r11 : w5.cell? ⟨g1, 1, none⟩ = some (.slice pp gs.length pcap) := (hb5'.cell (p := ⟨g1, 1, none⟩) (by show g1 < _; omega)).trans q11
  refine hK.out _ _ ⟨r2, r10, r11⟩ (fun hS => ?_)
  clear hK
  refine wpAnyH_take (i := 10) (v := .slice (some ⟨g5, 0, none⟩) n n) rfl (by kernel_rfl) (by kernel_rfl) (by kernel_rfl) (fun _ _ _ h => h) (Or.inl ⟨by kernel_rfl, fun w' hS' => by clear hS'; go_simp⟩) hS ?_
  refine wpAnyH_done (by kernel_rfl) ?_ _
  have HB5 : Hid (Below w.heap.size w w5) := HBX.out.trans (hb5'.mono HBX.out.size)
  have hl := hC5.len
  obtain ⟨l0, c5, rfl⟩ : ∃ l0 c5, C5 = l0 :: c5 := by
    cases C5 with
    | nil => simp at hl; omega
    | cons a t => exact ⟨a, t, rfl⟩
  have hbase0 : l0.base = bell := by
    have h0 : (turned bell n)[0]? = some l0.base := by rw [← hC5.bases]; rfl
    rw [(turned_at h0).2, Nat.add_zero, Nat.mod_eq_of_lt hb]
  have hst : ∀ x, Prd c5 x ↔ Gen (fun y => y ∈ gs) x ∧ x.act bell = bell := fun x => by
    rw [stab_prd hC5.whole x, hC5.gen x, hbase0]
  by_cases hn1 : n = 1
  · subst hn1
    have e5 : c5 = [] := List.length_eq_zero_iff.1 (by simpa using hl)
    subst e5
    have HST : Hid (∀ x, Gen (fun y => y ∈ ([] : List Pm)) x ↔ Gen (fun y => y ∈ gs) x ∧ x.act bell = bell) := fun x => by
      rw [← hst x]
      exact ⟨fun h => gen_none h, fun h => by rw [show x = 1 from h]; exact Gen.one⟩
    clear hst hC5 hbase0 hl hb5 hb5'
    go_wp2_with fail
    refine (generate_ok 1 (.slice none 0 0) [] w5 h1 h12 (Or.inl ⟨rfl, none, 0, rfl⟩) (by simp) (fun x hx => by cases hx)).mono ?_
    rintro e w9 ⟨v9, rfl, hG9, hb9⟩
    have HG9 := hide hG9
    have HB9 : Hid (Below w.heap.size w w9) := HB5.out.trans (hb9.mono HB5.out.size)
    clear hG9 hb9
    go_wp2
    go_ret2
    exact ⟨_, [], rfl, HG9.out, HST.out, HB9.out⟩
  · obtain ⟨l1, c6, rfl⟩ : ∃ l1 c6, c5 = l1 :: c6 := by
      cases c5 with
      | nil => simp at hl; omega
      | cons a t => exact ⟨a, t, rfl⟩
    have HST : Hid (∀ x, Gen (fun y => y ∈ l1.gens) x ↔ Gen (fun y => y ∈ gs) x ∧ x.act bell = bell) := fun x => by
      rw [← hst x]
      exact (hC5.whole.2.1.2.2 x).symm
    have lk := hC5.chain.link 1 (rawOf l1) rfl
    have hc3 : w5.cell? ⟨g5, 7, none⟩ = some (st5 1).vg := lk.c3
    have hPk : Packs w5 (st5 1).vg l1.gens := packs_own lk.gens
    have hgb := gens_bound (hC5.nd l1 (by simp))
    have h1212 : (12 : Nat) ^ 12 = 8916100448256 := by decide
    have HGB : Hid (l1.gens.length ≤ 8916100448256) := by show _ ≤ _; omega
    have HFX2 : Hid (∀ s, s ∈ l1.gens → Fixes (fun b => n ≤ b) s) := fun s hs b hb' => prd_fix hC5.whole.2.1 ((hC5.whole.2.1.2.2 s).2 (Gen.of hs)) b (Or.inl hb')
    obtain ⟨pg, cg, eg⟩ := hPk.form
    rw [eg] at hc3 hPk
    have HPk := hide hPk
    have hn2 : (1 : Int) < (n : Int) := by omega
    clear hst hC5 hbase0 hl hb5 hb5' lk hPk hgb h1212 eg
    go_wp2_with fail
    refine (generate_ok n (.slice pg l1.gens.length cg) l1.gens w5 h1 h12 HPk.out HGB.out HFX2.out).mono ?_
    rintro e w9 ⟨v9, rfl, hG9, hb9⟩
    have HG9 := hide hG9
    have HB9 : Hid (Below w.heap.size w w9) := HB5.out.trans (hb9.mono HB5.out.size)
    clear hG9 hb9
    go_wp2
    go_ret2
    exact ⟨_, l1.gens, rfl, HG9.out, HST.out, HB9.out⟩
end Go.Proofs.Ytimfoggjocajiaa

/- Contract: a group's Still where the bell is none. -/
namespace Go.Proofs.Ytimfoggjocajiaa
open Go.RowKit

set_option maxRecDepth 20000 in
set_option maxHeartbeats 2000000 in
theorem still_low (n : Nat) (bell : Int) (v : Value) (gs : List Pm) (w : World) (hb : bell < 0) (hG : GroupAt w v n gs) :
    Calls Try.prog 52 #[v, .int .i64 bell] w fun e w' => e = .returned (.tuple #[.pointer none, .int .i64 12]) ∧ Below w.heap.size w w' := by
  obtain ⟨g1, vg1, B1, c1, bs1, C1, st1, rfl, hg1, a10, a11, a12, hP1, hC1, hb1, rfl⟩ := hG
  clear hP1 hC1 hb1 a12 a11
  have hd0 : decide (bell < 0) = true := decide_eq_true hb
  have hBX : Below w.heap.size w ((w.alloc (.cells #[.pointer (some ⟨g1, 0, none⟩)] 24)).alloc (.cells #[.int .i64 bell] 3)) := ((Below.refl _ _).alloc (Nat.le_refl _) _).alloc (by simp) _
  have HBX := hide hBX
  clear hBX
  go_enter Try.func52, Try.ntmps52
  go_wp2
  go_quiet (fail)
  go_wp2
  go_ret2
  exact ⟨rfl, HBX.out.trans ((below_dN _ nq).mono HBX.out.size)⟩

set_option maxRecDepth 20000 in
set_option maxHeartbeats 2000000 in
theorem still_high (n : Nat) (bell : Int) (v : Value) (gs : List Pm) (w : World) (h12 : n ≤ 12) (hb : (n : Int) ≤ bell) (hG : GroupAt w v n gs) :
    Calls Try.prog 52 #[v, .int .i64 bell] w fun e w' => e = .returned (.tuple #[.pointer none, .int .i64 12]) ∧ Below w.heap.size w w' := by
  obtain ⟨g1, vg1, B1, c1, bs1, C1, st1, rfl, hg1, a10, a11, a12, hP1, hC1, hb1, rfl⟩ := hG
  clear hP1 hC1 hb1 a12 a11
  have hd0 : decide (bell < 0) = false := decide_eq_false (by omega)
  have hd1 : decide ((n : Int) ≤ bell) = true := decide_eq_true hb
  have hBX : Below w.heap.size w ((w.alloc (.cells #[.pointer (some ⟨g1, 0, none⟩)] 24)).alloc (.cells #[.int .i64 bell] 3)) := ((Below.refl _ _).alloc (Nat.le_refl _) _).alloc (by simp) _
  have k2 : ((w.alloc (.cells #[.pointer (some ⟨g1, 0, none⟩)] 24)).alloc (.cells #[.int .i64 bell] 3)).cell? ⟨w.heap.size, 0, none⟩ = some (.pointer (some ⟨g1, 0, none⟩)) := by
    rw [cell_of_row _ w.heap.size 0 _ _ _ ((Below.heap_alloc _ _ _ (by simp)).trans (heap_alloc_new w _))]; rfl
  have k3 : ((w.alloc (.cells #[.pointer (some ⟨g1, 0, none⟩)] 24)).alloc (.cells #[.int .i64 bell] 3)).cell? ⟨w.heap.size + 1, 0, none⟩ = some (.int .i64 bell) := by
    have := heap_alloc_new (w.alloc (.cells #[.pointer (some ⟨g1, 0, none⟩)] 24)) (.cells #[.int .i64 bell] 3)
    rw [show (w.alloc (.cells #[.pointer (some ⟨g1, 0, none⟩)] 24)).heap.size = w.heap.size + 1 from by simp] at this
    rw [cell_of_row _ (w.heap.size + 1) 0 _ _ _ this]; rfl
  go_enter Try.func52, Try.ntmps52
  go_wp2
  change Code.wp _ _ _ _ ((w.alloc (.cells #[.pointer (some ⟨g1, 0, none⟩)] 24)).alloc (.cells #[.int .i64 bell] 3))
  generalize (w.alloc (.cells #[.pointer (some ⟨g1, 0, none⟩)] 24)).alloc (.cells #[.int .i64 bell] 3) = X0 at *
  have k10 : X0.cell? ⟨g1, 0, none⟩ = some (.int .i64 (n : Int)) := (hBX.cell (p := ⟨g1, 0, none⟩) hg1).trans a10
  have HBX := hide hBX
  clear hBX a10
  go_quiet (fail)
  go_wp2
  go_ret2
  exact ⟨rfl, HBX.out.trans ((below_dN _ nq).mono HBX.out.size)⟩

end Go.Proofs.Ytimfoggjocajiaa

/- Rows that were made of raw numbers, in a later world; what a law answers (out of GNormA). -/
namespace Go.Proofs.Ytimfoggjocajiaa
open Go.RowKit

theorem run_ptr_ne (a : Addr) (w : World) : (binOp BinOp.eql 24 (.pointer (some a)) (.pointer none)).run Try.prog w = .ok (.bool false) w := by kernel_rfl

/-- Rows that were made of raw numbers, in a later world. -/
structure Gens (w wr : World) (n m : Nat) (u : Value) (vs : List Value) (xss : List (List Int)) : Prop where
  row : wr.ownsRow w.heap.size 23 1 u m vs
  all : OwnAll wr w.heap.size vs xss
  len : vs.length = m
  rows : RowsN n xss

theorem Gens.later {w wr w' : World} {n m : Nat} {u : Value} {vs : List Value} {xss : List (List Int)} (h : Gens w wr n m u vs xss) (hb : Below wr.heap.size wr w') : Gens w w' n m u vs xss :=
  ⟨owns_below h.row hb (Nat.le_refl _), h.all.mono (fun _ _ _ h' => owns_below h' hb (Nat.le_refl _)), h.len, h.rows⟩

theorem Gens.made {w wa wr : World} {n m : Nat} {u : Value} {vs : List Value} {xss : List (List Int)} (h : RowsRel wa wr n m u vs xss) (hs : w.heap.size ≤ wa.heap.size) : Gens w wr n m u vs xss :=
  ⟨owns_base h.row hs, OwnAll.low hs h.all, h.len, h.rows⟩

theorem Gens.ints {w wr : World} {n m : Nat} {u : Value} {vs : List Value} {xss : List (List Int)} (h : Gens w wr n m u vs xss) : IntsAll wr u xss := by
  have hr := h.row
  rw [← h.len] at hr
  exact IntsAll.own hr h.all

theorem Gens.size {w wr : World} {n m : Nat} {u : Value} {vs : List Value} {xss : List (List Int)} (h : Gens w wr n m u vs xss) : xss.length = m := by rw [← OwnAll.length h.all]; exact h.len

def Told (w : World) (e : Ending) (w' : World) : Prop := e = .returned (.bool true) ∧ Below w.heap.size w w'

theorem Ints.open {w : World} {p : Option Addr} {n c : Nat} {xs : List Int} (h : Ints w (.slice p n c) xs) (h0 : 0 < xs.length) : ∃ b off, p = some ⟨b, off, none⟩ ∧ xs.length ≤ c ∧ c ≤ 9223372036854775807 ∧ b < w.heap.size ∧ ∀ j, j < xs.length → w.cell? ⟨b, off + j, none⟩ = some (.int .i64 (xs.getD j 0)) := by
  rcases h with ⟨rfl, _⟩ | ⟨b, off, cap, h1, h2, h3, h4, h5, h6⟩
  · simp at h0
  · injection h1 with e1 e2 e3
    exact ⟨b, off, e1, by omega, by omega, h5, h6⟩

end Go.Proofs.Ytimfoggjocajiaa

/- The walk of TopGroup: it answers true at every input. -/
namespace Go.Proofs.Ytimfoggjocajiaa
open Go.RowKit

set_option maxRecDepth 20000 in
theorem tgroup_long (v v2 v3 : Value) (xs ys zs : List Int) (a1 a2 a3 : Int) (w : World) (h : Ints w v xs) (h2 : Ints w v2 ys) (h3 : Ints w v3 zs) (hs : xs.length + ys.length + zs.length ≤ 9223372036854775807) (hl : 400 < xs.length + ys.length + zs.length) :
    Calls Try.prog 10 #[v, .int .i64 a1, .int .i64 a2, v2, v3, .int .i64 a3] w fun e w' => Told w e w' := by
  obtain ⟨p, c, rfl⟩ := h.form
  obtain ⟨p2, c2, rfl⟩ := h2.form
  obtain ⟨p3, c3, rfl⟩ := h3.form
  have hl' : (400 : Int) < (xs.length : Int) + (ys.length : Int) + (zs.length : Int) := by omega
  clear h h2 h3
  go_enter Try.func10, Try.ntmps10
  go_wp2
  go_ret
  exact ⟨rfl, Below.refl _ _⟩

set_option maxRecDepth 20000 in
set_option maxHeartbeats 4000000 in
theorem tgroup_ok (v v2 v3 : Value) (xs ys zs : List Int) (a1 a2 a3 : Int) (w : World) (h : Ints w v xs) (hx : ∀ x, x ∈ xs → I64 x) (h2 : Ints w v2 ys) (hy : ∀ x, x ∈ ys → I64 x) (h3 : Ints w v3 zs) (hz : ∀ x, x ∈ zs → I64 x) (hl : xs.length + ys.length + zs.length ≤ 400) (i1 : I64 a1) (i2 : I64 a2) (i3 : I64 a3) :
    Calls Try.prog 10 #[v, .int .i64 a1, .int .i64 a2, v2, v3, .int .i64 a3] w fun e w' => Told w e w' := by
  have HI := hide h
  have HI2 := hide h2
  have HI3 := hide h3
  have HX := hide hx
  have HY := hide hy
  have HZ := hide hz
  obtain ⟨p, c, rfl⟩ := h.form
  obtain ⟨p2, c2, rfl⟩ := h2.form
  obtain ⟨p3, c3, rfl⟩ := h3.form
  obtain ⟨l1, r1⟩ := i1
  obtain ⟨l2, r2⟩ := i2
  obtain ⟨l3, r3⟩ := i3
  have q1 := run_ptr_ne
  have hl' : ¬ ((400 : Int) < (xs.length : Int) + (ys.length : Int) + (zs.length : Int)) := by omega
  have hyl : ys.length ≤ 400 := by omega
  have hzl : zs.length ≤ 400 := by omega
  obtain ⟨i0, hi, hz0, hz1, hz2⟩ := info_parts Try.info3
  clear h hx h2 hy h3 hz
  go_enter Try.func10, Try.ntmps10
  go_wp2_with fail
  refine (pick_any a1 9 _ l1 r1 (by omega) (by omega)).mono ?_
  rintro ex wp ⟨k1, k1a, k1b, rfl, rfl⟩
  obtain ⟨n0, rfl⟩ := Int.eq_ofNat_of_zero_le k1a
  obtain ⟨n, hn⟩ : ∃ n : Nat, n = n0 + 1 := ⟨_, rfl⟩
  have hnI : (1 : Int) + (n0 : Int) = (n : Int) := by omega
  have h1 : 1 ≤ n := by omega
  have h9 : n ≤ 9 := by omega
  have h12 : n ≤ 12 := by omega
  clear hn k1a k1b l1 r1
  go_wp2_with fail
  refine (pick_any a2 4 _ l2 r2 (by omega) (by omega)).mono ?_
  rintro ex wp ⟨k2, k2a, k2b, rfl, rfl⟩
  obtain ⟨m, rfl⟩ := Int.eq_ofNat_of_zero_le k2a
  have hm4 : m < 4 := by omega
  have HR1 : Hid (Calls Try.prog 27 #[.slice p xs.length c, .int .i64 0, .int .i64 n, .int .i64 m] w fun e w' => ∃ u vs xss, e = .returned u ∧ RowsRel w w' n m u vs xss) := rowsOf_ok2 (.slice p xs.length c) xs 0 n m w HI.out HX.out (by omega) h1 h12 (by omega)
  clear k2a k2b l2 r2
  go_wp2_with fail
  refine HR1.out.mono ?_
  rintro ex w1 ⟨u1, vs1, gss, rfl, hR1⟩
  have hB1 := hR1.below
  have hs1 := hB1.size
  have HGN1 := hide (Gens.made (w := w) hR1 (Nat.le_refl _))
  have hgl : gss.length = m := HGN1.out.size
  have HM5 := hide (make_ok n u1 gss w1 HGN1.out.ints h1 h12 (by omega) HGN1.out.rows)
  obtain ⟨gp, gc, eu1⟩ := owns_slice HGN1.out.row
  subst eu1
  have HGL : Hid ((gss.map pad).length = m) := by show _ = _; rw [List.length_map]; exact hgl
  clear HR1 hR1 hgl
  go_wp2_with fail
  refine HM5.out.mono ?_
  rintro ex w5 ⟨g5, rfl, hG5, hb5⟩
  have hB5 : Below w.heap.size w w5 := hB1.trans (hb5.mono hs1)
  have hs5 := hB5.size
  have HG5 := hide hG5
  obtain ⟨gb1, _, _, _, _, _, _, rfl, _⟩ := hG5
  generalize gss.map pad = gs at *
  clear HM5 HGN1 hb5 hB1 hs1
  have hmI : (m : Int) < 4 := by omega
  go_upto_block 0 with fail
  go_cut [16] from 62 (fun su wc => ∃ A : List Int, A.length ≤ ys.length ∧ Hid (∀ z, z ∈ A → (1 : Int) ≤ z ∧ z ≤ (m : Int)) ∧ wc.ownsRow w5.heap.size 3 1 su A.length (A.map (Value.int .i64)) ∧ Below w5.heap.size w5 wc)
  case first =>
    go_wp2
    go_loopw [16, 18] (fun su si wr => ∃ (k : Nat) (u : Value) (A : List Int), k ≤ ys.length ∧ Hid (A.length = k) ∧ su = u ∧ si = .int .i64 k ∧ Hid (∀ z, z ∈ A → (1 : Int) ≤ z ∧ z ≤ (m : Int)) ∧ wr.ownsRow w5.heap.size 3 1 u A.length (A.map (Value.int .i64)) ∧ Below w5.heap.size w5 wr) (fun _ si _ => ys.length - (intOf si).toNat)
    case atStart => exact ⟨0, _, [], Nat.zero_le _, rfl, rfl, rfl, (fun z hz => by cases hz), World.ownsRow_nil _ _ _ _, Below.refl _ _⟩
    case round =>
      obtain ⟨k, u, A, hk, hAl, rfl, rfl, hA, hown, hbw⟩ := hrel
      by_cases hgo : k < ys.length ∧ 0 < m
      · obtain ⟨hkt, hm0⟩ := hgo
        have hBw : Below w.heap.size w wr := hB5.trans (hbw.mono hs5)
        obtain ⟨b, off, rfl, hc1, hc2, hb, hcell⟩ := (HI2.out.below hBw).open (by omega)
        obtain ⟨y, hy, hcy⟩ := cellAt hcell hkt
        have hyI : I64 y := by
          have := hy.out
          rw [List.getElem?_eq_getElem hkt] at this
          rw [← show ys[k] = y from this]
          exact HY.out _ (List.getElem_mem hkt)
        obtain ⟨yl, yr⟩ := hyI
        have HPK := hide (pick_any y m wr yl yr (by omega) (by omega))
        have hm0I : (0 : Int) < (m : Int) := by omega
        have hktI : (k : Int) < (ys.length : Int) := by omega
        have HOW := hide hown
        have hAn : A.length ≤ 400 := by have := hAl.out; omega
        have hs6 := hbw.size
        clear hcell hy hown
        go_wp2_with fail
        refine HPK.out.mono ?_
        rintro ex wq ⟨q, qa, qb, rfl, rfl⟩
        have HQ : Hid ((1 : Int) ≤ (1 + q) ∧ (1 + q) ≤ (m : Int)) := And.intro (by omega) (by omega)
        have HOA : Hid (∀ o : Obj, (wr.alloc o).ownsRow w5.heap.size 3 1 u16 A.length (A.map (Value.int .i64))) := fun o => HOW.out.alloc o
        go_wp2_with (at_builtin; refine wpList_append_own _ rfl _ _ 23 rfl w5.heap.size 3 i0 (.int .i64 0) 1 8 Try.underlying23 hi hz0 hz1 hz2 rfl (by decide) _ _ _ rfl (HOA.out _) ⟨wr.heap.size, 0, none⟩ 1 1 [.int .i64 (1 + q)] rfl rfl ?c1 ?c2 ?c3 ?c4 ?c5 ?_)
        case c1 => exact cell_one_new _ _ _
        case c2 => intro u hu; simp at hu; subst hu; rfl
        case c3 => unfold maxLen; omega
        case c4 => omega
        case c5 => simp; omega
        intro v8 w8 hown8 hg8 _
        have hb8 : Below w5.heap.size w5 w8 := (hbw.alloc hs6 _).grown hg8 (by simp; omega) (fun g hg => (HOW.out.lt g hg).1)
        have HO8 : Hid (w8.ownsRow w5.heap.size 3 1 v8 (A ++ [(1 + q)]).length ((A ++ [(1 + q)]).map (Value.int .i64))) := by
          show World.ownsRow _ _ _ _ _ _ _
          rw [List.length_append, List.map_append]; exact hown8
        have HA8 : Hid (∀ z, z ∈ A ++ [(1 + q)] → (1 : Int) ≤ z ∧ z ≤ (m : Int)) := fun z hz => by
          rcases List.mem_append.1 hz with hz | hz
          · exact hA.out z hz
          · rw [List.mem_singleton.1 hz]; exact HQ.out
        have HL8 : Hid ((A ++ [(1 + q)]).length = k + 1) := by show _ = _; rw [List.length_append, hAl.out]; rfl
        have HB8 := hide hb8
        clear hown8 hg8 hb8 HOA HOW HPK
        go_wp2
        go_roundw
        case rel =>
          have hfin : ∃ (k' : Nat) (u : Value) (A : List Int), k' ≤ ys.length ∧ Hid (A.length = k') ∧ v8 = u ∧ Value.int .i64 ((k : Int) + 1) = .int .i64 (k' : Int) ∧ Hid (∀ z, z ∈ A → (1 : Int) ≤ z ∧ z ≤ (m : Int)) ∧ w8.ownsRow w5.heap.size 3 1 u A.length (A.map (Value.int .i64)) ∧ Below w5.heap.size w5 w8 := ⟨k + 1, _, A ++ [(1 + q)], hkt, HL8, rfl, by go_num, HA8, HO8.out, HB8.out⟩
          first
            | exact hfin
            | ((repeat apply Exists.intro); exact ⟨hfin, rfl⟩)
        case measure => simp [intOf]; omega
      · have HO := hide hown
        have HB := hide hbw
        have hAn : A.length ≤ ys.length := by have := hAl.out; omega
        clear hown hbw
        rcases (show (¬ (k : Int) < (ys.length : Int)) ∨ ((k : Int) < (ys.length : Int) ∧ m = 0) by rcases Nat.lt_or_ge k ys.length with h | h; exact Or.inr ⟨by omega, by omega⟩; exact Or.inl (by omega)) with hend | ⟨hend, hm0⟩
        · go_wp2
          go_meet
          case rel => exact ⟨A, hAn, hA, HO.out, HB.out⟩
        · subst hm0
          go_wp2
          go_meet
          case rel => exact ⟨A, hAn, hA, HO.out, HB.out⟩
  case rest =>
  obtain ⟨AU, hlAU, HAU, hown, hbw⟩ := hcut
  obtain ⟨up, uc, e5⟩ := owns_slice hown
  subst e5
  have hB6 : Below w.heap.size w wc := hB5.trans (hbw.mono hs5)
  have hs6 := hB6.size
  have HOU := hide hown
  have HBB6 := hide hbw
  generalize hw6 : wc = w6 at *
  clear hown hbw hw6
  go_upto_block 2 with fail
  go_cut [17] from 62 (fun su wc => ∃ A : List Int, A.length ≤ zs.length ∧ Hid (∀ z, z ∈ A → (-(m : Int)) ≤ z ∧ z ≤ (-1 : Int)) ∧ wc.ownsRow w6.heap.size 3 1 su A.length (A.map (Value.int .i64)) ∧ Below w6.heap.size w6 wc)
  case first =>
    go_wp2
    go_loopw [17, 19] (fun su si wr => ∃ (k : Nat) (u : Value) (A : List Int), k ≤ zs.length ∧ Hid (A.length = k) ∧ su = u ∧ si = .int .i64 k ∧ Hid (∀ z, z ∈ A → (-(m : Int)) ≤ z ∧ z ≤ (-1 : Int)) ∧ wr.ownsRow w6.heap.size 3 1 u A.length (A.map (Value.int .i64)) ∧ Below w6.heap.size w6 wr) (fun _ si _ => zs.length - (intOf si).toNat)
    case atStart => exact ⟨0, _, [], Nat.zero_le _, rfl, rfl, rfl, (fun z hz => by cases hz), World.ownsRow_nil _ _ _ _, Below.refl _ _⟩
    case round =>
      obtain ⟨k, u, A, hk, hAl, rfl, rfl, hA, hown, hbw⟩ := hrel
      by_cases hgo : k < zs.length ∧ 0 < m
      · obtain ⟨hkt, hm0⟩ := hgo
        have hBw : Below w.heap.size w wr := hB6.trans (hbw.mono hs6)
        obtain ⟨b, off, rfl, hc1, hc2, hb, hcell⟩ := (HI3.out.below hBw).open (by omega)
        obtain ⟨y, hy, hcy⟩ := cellAt hcell hkt
        have hyI : I64 y := by
          have := hy.out
          rw [List.getElem?_eq_getElem hkt] at this
          rw [← show zs[k] = y from this]
          exact HZ.out _ (List.getElem_mem hkt)
        obtain ⟨yl, yr⟩ := hyI
        have HPK := hide (pick_any y m wr yl yr (by omega) (by omega))
        have hm0I : (0 : Int) < (m : Int) := by omega
        have hktI : (k : Int) < (zs.length : Int) := by omega
        have HOW := hide hown
        have hAn : A.length ≤ 400 := by have := hAl.out; omega
        have hs7 := hbw.size
        clear hcell hy hown
        go_wp2_with fail
        refine HPK.out.mono ?_
        rintro ex wq ⟨q, qa, qb, rfl, rfl⟩
        have HQ : Hid ((-(m : Int)) ≤ (-1 - q) ∧ (-1 - q) ≤ (-1 : Int)) := And.intro (by omega) (by omega)
        have HOA : Hid (∀ o : Obj, (wr.alloc o).ownsRow w6.heap.size 3 1 u17 A.length (A.map (Value.int .i64))) := fun o => HOW.out.alloc o
        go_wp2_with (at_builtin; refine wpList_append_own _ rfl _ _ 23 rfl w6.heap.size 3 i0 (.int .i64 0) 1 8 Try.underlying23 hi hz0 hz1 hz2 rfl (by decide) _ _ _ rfl (HOA.out _) ⟨wr.heap.size, 0, none⟩ 1 1 [.int .i64 (-1 - q)] rfl rfl ?c1 ?c2 ?c3 ?c4 ?c5 ?_)
        case c1 => exact cell_one_new _ _ _
        case c2 => intro u hu; simp at hu; subst hu; rfl
        case c3 => unfold maxLen; omega
        case c4 => omega
        case c5 => simp; omega
        intro v8 w8 hown8 hg8 _
        have hb8 : Below w6.heap.size w6 w8 := (hbw.alloc hs7 _).grown hg8 (by simp; omega) (fun g hg => (HOW.out.lt g hg).1)
        have HO8 : Hid (w8.ownsRow w6.heap.size 3 1 v8 (A ++ [(-1 - q)]).length ((A ++ [(-1 - q)]).map (Value.int .i64))) := by
          show World.ownsRow _ _ _ _ _ _ _
          rw [List.length_append, List.map_append]; exact hown8
        have HA8 : Hid (∀ z, z ∈ A ++ [(-1 - q)] → (-(m : Int)) ≤ z ∧ z ≤ (-1 : Int)) := fun z hz => by
          rcases List.mem_append.1 hz with hz | hz
          · exact hA.out z hz
          · rw [List.mem_singleton.1 hz]; exact HQ.out
        have HL8 : Hid ((A ++ [(-1 - q)]).length = k + 1) := by show _ = _; rw [List.length_append, hAl.out]; rfl
        have HB8 := hide hb8
        clear hown8 hg8 hb8 HOA HOW HPK
        go_wp2
        go_roundw
        case rel =>
          have hfin : ∃ (k' : Nat) (u : Value) (A : List Int), k' ≤ zs.length ∧ Hid (A.length = k') ∧ v8 = u ∧ Value.int .i64 ((k : Int) + 1) = .int .i64 (k' : Int) ∧ Hid (∀ z, z ∈ A → (-(m : Int)) ≤ z ∧ z ≤ (-1 : Int)) ∧ w8.ownsRow w6.heap.size 3 1 u A.length (A.map (Value.int .i64)) ∧ Below w6.heap.size w6 w8 := ⟨k + 1, _, A ++ [(-1 - q)], hkt, HL8, rfl, by go_num, HA8, HO8.out, HB8.out⟩
          first
            | exact hfin
            | ((repeat apply Exists.intro); exact ⟨hfin, rfl⟩)
        case measure => simp [intOf]; omega
      · have HO := hide hown
        have HB := hide hbw
        have hAn : A.length ≤ zs.length := by have := hAl.out; omega
        clear hown hbw
        rcases (show (¬ (k : Int) < (zs.length : Int)) ∨ ((k : Int) < (zs.length : Int) ∧ m = 0) by rcases Nat.lt_or_ge k zs.length with h | h; exact Or.inr ⟨by omega, by omega⟩; exact Or.inl (by omega)) with hend | ⟨hend, hm0⟩
        · go_wp2
          go_meet
          case rel => exact ⟨A, hAn, hA, HO.out, HB.out⟩
        · subst hm0
          go_wp2
          go_meet
          case rel => exact ⟨A, hAn, hA, HO.out, HB.out⟩
  case rest =>
  obtain ⟨AV, hlAV, HAV, hown, hbw⟩ := hcut
  obtain ⟨vp, vc, e6⟩ := owns_slice hown
  subst e6
  have hB7 : Below w.heap.size w wc := hB6.trans (hbw.mono hs6)
  have hs7 := hB7.size
  have HOV := hide hown
  have HBB7 := hide hbw
  generalize hw7 : wc = w7 at *
  clear hown hbw hw7
  have HG7 := hide (HG5.out.below (HBB6.out.trans (HBB7.out.mono HBB6.out.size)) (Nat.le_refl _))
  have hsm : gs.length = m := HGL.out
  have HU7 : Hid (Ints w7 (.slice up AU.length uc) AU) := (Ints.own HOU.out).below HBB7.out
  have HV7 : Hid (Ints w7 (.slice vp AV.length vc) AV) := Ints.own HOV.out
  obtain ⟨x, hsx⟩ := say_some (gs := gs) AU 1 (fun z hz => lett_up (HAU.out z hz).1 (by rw [hsm]; exact (HAU.out z hz).2))
  obtain ⟨y, hsy⟩ := say_some (gs := gs) AV 1 (fun z hz => lett_down (HAV.out z hz).2 (by rw [hsm]; exact (HAV.out z hz).1))
  have hgx := say_gen AU 1 x Gen.one hsx
  have hgy := say_gen AV 1 y Gen.one hsy
  have HFX := hide (HG7.out.fix hgx)
  have HFY := hide (HG7.out.fix hgy)
  have HGX := hide hgx
  have HGY := hide hgy
  have HSX := hide hsx
  have HSY := hide hsy
  have hm6 : gs.length ≤ 1000000 := by omega
  have hAU4 : AU.length ≤ 400 := by omega
  have hAV4 : AV.length ≤ 400 := by omega
  have HS8 := hide (say_ok n _ _ gs AU w7 h12 HG7.out hm6 HU7.out (fun z hz => by have := HAU.out z hz; exact ⟨by omega, by omega⟩) (by omega))
  clear hgx hgy hsx hsy HOV HOU
  go_wp2_with fail
  refine HS8.out.mono ?_
  rintro ex w8 ⟨hpost, hb8⟩
  obtain ⟨vx, rfl, hownx⟩ : ∃ v, ex = .returned (.tuple #[v, .int .i64 0]) ∧ w8.ownsRow w7.heap.size 3 1 v n ((cut n x).map (Value.int .i64)) := by
    rcases hpost with ⟨h0, _⟩ | ⟨v, p', h0, h1, h2⟩
    · rw [HSX.out] at h0; cases h0
    · rw [HSX.out] at h0; rw [← Option.some.inj h0] at h2; exact ⟨v, h1, h2⟩
  clear hpost
  have HS9 := hide (say_ok n _ _ gs AV w8 h12 (HG7.out.below hb8 (Nat.le_refl _)) hm6 (HV7.out.below hb8) (fun z hz => by have := HAV.out z hz; exact ⟨by omega, by omega⟩) (by omega))
  obtain ⟨xp, xc, evx⟩ := owns_slice hownx
  subst evx
  have HOX := hide hownx
  have HB8 := hide hb8
  clear hownx hb8 HS8
  go_wp2_with fail
  refine HS9.out.mono ?_
  rintro ex w9 ⟨hpost, hb9⟩
  obtain ⟨vy, rfl, howny⟩ : ∃ v, ex = .returned (.tuple #[v, .int .i64 0]) ∧ w9.ownsRow w8.heap.size 3 1 v n ((cut n y).map (Value.int .i64)) := by
    rcases hpost with ⟨h0, _⟩ | ⟨v, p', h0, h1, h2⟩
    · rw [HSY.out] at h0; cases h0
    · rw [HSY.out] at h0; rw [← Option.some.inj h0] at h2; exact ⟨v, h1, h2⟩
  clear hpost
  have hB79 : Below w7.heap.size w7 w9 := HB8.out.trans (hb9.mono HB8.out.size)
  have HG9 := hide (HG7.out.below hB79 (Nat.le_refl _))
  have HX9 : Hid (Ints w9 (.slice xp n xc) (cut n x)) := (Ints.own HOX.out).below hb9
  have HCX := hide (cut_row h12 HFX.out)
  have HCY := hide (cut_row h12 HFY.out)
  have HCXL := hide (cut_length h12 x)
  have HCYL := hide (cut_length h12 y)
  have HUn := hide (undo_own _ (cut n y) w9 (Ints.own howny) HCY.out (by rw [HCYL.out]; exact h1) (by rw [HCYL.out]; exact h12))
  obtain ⟨yp, yc, evy⟩ := owns_slice howny
  subst evy
  have HB79 := hide hB79
  clear howny hb9 hB79 HS9 HOX HB8
  go_wp2_with fail
  refine HUn.out.mono ?_
  rintro ex w10 ⟨vu, us, rfl, hownu, hundo, hb10⟩
  obtain ⟨ur, ul, uby⟩ := by_undo h12 HFX.out HFY.out hundo
  have HBy := hide (rby_own _ vu (cut n x) us w10 (HX9.out.below hb10) (Ints.own hownu) (fun j hj => by have := ur.at hj; rw [HCXL.out]; rw [ul] at this; exact this) (by rw [HCXL.out]; exact h1) (by omega))
  have HUBY := hide uby
  have HUL := hide ul
  obtain ⟨up2, uc2, evu⟩ := owns_slice hownu
  subst evu
  have HB10 := hide hb10
  have HXa := hide (HX9.out.below hb10)
  clear hownu hundo hb10 uby ul ur HUn
  go_wp2_with fail
  refine HBy.out.mono ?_
  rintro ex w11 ⟨vb, rfl, hownb, hb11⟩
  rw [HUBY.out, HUL.out] at hownb
  have hgxy : Gen (fun z => z ∈ gs) (x * y⁻¹) := Gen.mul' HGX.out HGY.out.inv
  have hB711 : Below w7.heap.size w7 w11 := HB79.out.trans ((HB10.out.trans (hb11.mono HB10.out.size)).mono HB79.out.size)
  have hfxy := HG7.out.fix hgxy
  have hrz : rchk n (cut n (x * y⁻¹)) = 0 := rchk_ok h1 h12 (cut_row h12 hfxy) (cut_length h12 _)
  have HHas := hide (ghas_ok n _ vb gs (cut n (x * y⁻¹)) w11 (HG7.out.below hB711 (Nat.le_refl _)) (Ints.own hownb) hrz)
  have HPC := hide (pad_cut h12 hfxy)
  have HGXY := hide hgxy
  obtain ⟨bp, bc, evb⟩ := owns_slice hownb
  subst evb
  have HB711 := hide hB711
  have HXb := hide (HXa.out.below hb11)
  clear hownb hb11 hB711 hgxy hfxy hrz HBy HB10
  go_wp2_with fail
  refine HHas.out.mono ?_
  rintro ex w12 ⟨tin, htin, rfl, hb12⟩
  obtain rfl : tin = true := htin.2 (by rw [HPC.out]; exact HGXY.out)
  have hB12 : Below w7.heap.size w7 w12 := HB711.out.trans (hb12.mono HB711.out.size)
  have HB12 := hide hB12
  have HXc := hide (HXb.out.below hb12)
  clear htin hb12 hB12 HHas HB711 HB79
  have HPB := hide (pick_any a3 n w12 l3 r3 (by omega) (by omega))
  go_wp2_with fail
  refine HPB.out.mono ?_
  rintro ex wp ⟨k3, k3a, k3b, rfl, rfl⟩
  obtain ⟨bell, rfl⟩ := Int.eq_ofNat_of_zero_le k3a
  have hbell : bell < n := by omega
  have HSt := hide (still_ok n bell _ gs w12 h1 h12 hbell hm6 (HG7.out.below HB12.out (Nat.le_refl _)))
  clear k3a k3b HPB
  go_wp2_with fail
  refine HSt.out.mono ?_
  rintro ex w13 ⟨v13, hs, rfl, hGS, hst, hb13⟩
  have hB13 : Below w7.heap.size w7 w13 := HB12.out.trans (hb13.mono HB12.out.size)
  have HG13 := hide (HG7.out.below hB13 (Nat.le_refl _))
  have HGS := hide hGS
  have HSTA := hide hst
  obtain ⟨gb2, _, _, _, _, _, _, rfl, _⟩ := hGS
  have HB13 := hide hB13
  have HXd := hide (HXc.out.below hb13)
  have HOr := hide (orbits_ok n _ gs w13 h12 HG13.out)
  clear hst hb13 hB13 HSt HB12 HG9
  go_wp2_with fail
  refine HOr.out.mono ?_
  rintro ex w14 ⟨vo, vos, rfl, hLL, hb14⟩
  obtain ⟨X, hX⟩ : ∃ X, X = orbsTo gs n n := ⟨_, rfl⟩
  rw [← hX] at hLL
  have hXl : X.length ≤ n := by rw [hX]; exact orbsTo_length gs n n
  have HXL : Hid (∀ O, O ∈ X → bell ∈ O → O.length = (orbS gs n bell).length) := fun O hO hb => orbsTo_len (by rw [← hX]; exact hO) hb
  have HXB : Hid (bell ∈ X.flatten) := by show _ ∈ _; rw [hX]; exact orbsTo_all n (Nat.le_refl _) bell hbell
  have HXO : Hid (∀ O, O ∈ X → 1 ≤ O.length ∧ O.length ≤ n ∧ ∀ b, b ∈ O → b < n) := fun O hO => by
    obtain ⟨a, ha, e⟩ := orbsTo_form n O (by rw [← hX]; exact hO)
    rw [e]
    exact ⟨orbS_pos ha, orbS_le gs n a, fun b hb => (mem_orbS.1 hb).1⟩
  have hX1 : 1 ≤ X.length := by
    cases hXe : X with
    | nil => have := HXB.out; rw [hXe] at this; simp at this
    | cons a t => simp
  have hvl : vos.length = X.length := by rw [hLL.len, List.length_map]
  have hrow := hLL.row
  rw [hvl] at hrow
  obtain ⟨ob, oc, eo, ho1, ho2, ho3, ho4⟩ := owns_form hrow hX1
  subst eo
  have HEL : Hid (∀ i O, X[i]? = some O → ∃ u b2 c2, w14.cell? ⟨ob, i, none⟩ = some u ∧ u = .slice (some ⟨b2, 0, none⟩) O.length c2 ∧ O.length ≤ c2 ∧ c2 ≤ 9223372036854775807 ∧ ∀ j z, O[j]? = some z → w14.cell? ⟨b2, j, none⟩ = some (.int .i64 ((z : Nat) : Int))) := fun i O hO => by
    obtain ⟨u, hu, hown⟩ := word_at hrow hLL.all (i := i) (X := natI O) (by rw [List.getElem?_map, hO]; rfl) (by rw [List.length_map])
    have hnl : (natI O).length = O.length := by unfold natI; rw [List.length_map]
    rw [hnl] at hown
    obtain ⟨b2, c2, e2, h1', h2', h3', h4'⟩ := owns_form hown (HXO.out O (List.mem_of_getElem? hO)).1
    refine ⟨u, b2, c2, hu, e2, h3', h4', fun j z hz => ?_⟩
    subst e2
    have := hown.cells (g := b2) rfl j (.int .i64 ((z : Nat) : Int)) (by unfold natI; rw [List.getElem?_map, List.getElem?_map, hz]; rfl)
    rw [Addr.add_lit, Nat.zero_add] at this
    exact this
  obtain ⟨ol, hol⟩ : ∃ ol, ol = (orbS gs n bell).length := ⟨_, rfl⟩
  rw [← hol] at HXL
  have HOL := hide hol
  have holn : ol ≤ n := by rw [hol]; exact orbS_le gs n bell
  have HX := hide hX
  have HB14 : Hid (Below w7.heap.size w7 w14) := HB13.out.trans (hb14.mono HB13.out.size)
  have HGS14 := hide (HGS.out.below hb14 (Nat.le_refl _))
  have HXe := hide (HXd.out.below hb14)
  clear hX hLL hrow hvl hol HOr HG13 HGS hb14 HB13
  generalize hxn : X.length = xn at *
  have HXN := hide hxn
  clear hxn
  go_upto_block 4 with fail
  go_cut [25] from 62 (fun sc wc => sc = .int .i64 (ol : Int) ∧ wc = w14)
  case first =>
    go_wp2
    go_loopw [25, 27] (fun sc si wr => ∃ (i c : Nat), i ≤ xn ∧ c ≤ n ∧ sc = .int .i64 c ∧ si = .int .i64 i ∧ Hid (Cnted X bell ol i 0 c) ∧ wr = w14) (fun _ si _ => xn - (intOf si).toNat)
    case atStart => exact ⟨0, 0, Nat.zero_le _, Nat.zero_le _, rfl, rfl, Cnted.start X bell ol, rfl⟩
    case round =>
      obtain ⟨i, c0, hi', hc0, rfl, rfl, hC, rfl⟩ := hrel
      by_cases hlt : i < xn
      · obtain ⟨O, hO⟩ : ∃ O, X[i]? = some O := ⟨_, List.getElem?_eq_getElem (by rw [HXN.out]; exact hlt)⟩
        obtain ⟨u, b2, c2', hcu, rfl, he1, he2, hez⟩ := HEL.out i O hO
        obtain ⟨q1', q2', q3'⟩ := HXO.out O (List.mem_of_getElem? hO)
        have HZ2 := hide hez
        have HO := hide hO
        have hOL : Hid (bell ∈ O → O.length = ol) := fun h => HXL.out O (List.mem_of_getElem? hO) h
        have HQ3 := hide q3'
        clear hez hO q3'
        generalize hoo : O.length = oo at *
        have HOO := hide hoo
        clear hoo
        go_wp2
        go_loopw [25, 28] (fun sc sj wr' => ∃ (j c : Nat), j ≤ oo ∧ c ≤ n ∧ sc = .int .i64 c ∧ sj = .int .i64 j ∧ Hid (Cnted X bell ol i j c) ∧ wr' = wr) (fun _ sj _ => oo - (intOf sj).toNat)
        case atStart => exact ⟨0, c0, Nat.zero_le _, hc0, rfl, rfl, hC, rfl⟩
        case round =>
          obtain ⟨j, c1, hj', hc1, rfl, rfl, hC1, rfl⟩ := hrel
          by_cases hjt : j < oo
          · obtain ⟨z, hz⟩ : ∃ z, O[j]? = some z := ⟨_, List.getElem?_eq_getElem (by rw [HOO.out]; exact hjt)⟩
            have hcz := HZ2.out j z hz
            have hzn := HQ3.out z (List.mem_of_getElem? hz)
            have HZ3 := hide hz
            clear hz
            by_cases hzb : z = bell
            · subst hzb
              have hoe : oo = ol := hOL.out (List.mem_of_getElem? HZ3.out)
              have HC2 := hide (Cnted.hit X z ol i j)
              go_wp2
              go_roundw
              case rel =>
                exact ⟨j + 1, ol, hjt, by omega, by first | rfl | rw [hoe], by go_num, HC2, trivial⟩
              case measure => simp [intOf]; omega
            · have hzI : ((z : Int) == (bell : Int)) = false := by rw [beq_eq_false_iff_ne]; omega
              have HC2 : Hid (Cnted X bell ol i (j + 1) c1) := hC1.out.miss HO.out HZ3.out hzb
              go_wp2
              go_roundw
              case rel =>
                exact ⟨j + 1, c1, hjt, hc1, rfl, by go_num, HC2, trivial⟩
              case measure => simp [intOf]; omega
          · obtain rfl : j = oo := by omega
            have HC2 : Hid (Cnted X bell ol (i + 1) 0 c1) := Cnted.next (by have := hC1.out; rw [← HOO.out] at this; exact this) HO.out
            go_wp2
            go_roundw
            case rel =>
              exact ⟨i + 1, c1, hlt, hc1, rfl, by go_num, HC2, trivial⟩
            case measure => simp [intOf]; omega
      · obtain rfl : i = xn := by omega
        have hce : c0 = ol := Cnted.done (by have := hC.out; rw [← HXN.out] at this; exact this) HXB.out
        subst hce
        go_wp2
        go_meet
        case rel => exact ⟨rfl, rfl⟩
  case rest =>
  obtain ⟨rfl, rfl⟩ := hcut
  have HG14 := hide (HG7.out.below HB14.out (Nat.le_refl _))
  have hFX : ∀ z, Gen (fun y => y ∈ gs) z → Fixes (fun b => n ≤ b) z := fun z hz => HG7.out.fix hz
  have hso := sz_orb h12 hbell hFX HSTA.out
  rw [← HOL.out] at hso
  have hdv := sz_fct (Gen.sub (fun y => y ∈ gs)) h12 hFX
  have hpos := sz_pos (Gen.sub (fun y => y ∈ gs)) h12
  obtain ⟨X5, x51, x52, x53⟩ := sz_list (Gen.sub (fun y => y ∈ gs)) h12 hFX
  have HSZ : Hid (∀ W, Below wc.heap.size wc W → Calls Try.prog 18 #[.pointer (some ⟨gb1, 0, none⟩)] W fun e w' => e = .returned (.int .i64 (sz (Gen (fun y => y ∈ gs)) n : Nat)) ∧ Below W.heap.size W w') := fun W hb => gsize_ok n _ gs W h12 (HG14.out.below hb (Nat.le_refl _))
  have HSH : Hid (∀ W, Below wc.heap.size wc W → Calls Try.prog 18 #[.pointer (some ⟨gb2, 0, none⟩)] W fun e w' => e = .returned (.int .i64 (sz (Gen (fun y => y ∈ hs)) n : Nat)) ∧ Below W.heap.size W w') := fun W hb => gsize_ok n _ hs W h12 (HGS14.out.below hb (Nat.le_refl _))
  have HEl : Hid (∀ W, Below wc.heap.size wc W → Calls Try.prog 56 #[.pointer (some ⟨gb1, 0, none⟩)] W fun e w' => ElPost n gs W e w') := fun W hb => elements_ok n _ gs W h12 (HG14.out.below hb (Nat.le_refl _))
  have HX14 : Hid (Ints wc (.slice xp n xc) (cut n x)) := HXe.out
  have HWd : Hid (∀ W, Below wc.heap.size wc W → Calls Try.prog 55 #[.pointer (some ⟨gb1, 0, none⟩), .slice xp n xc] W fun e w' => WordPost n gs (cut n x) W e w') := fun W hb => word_ok n _ _ gs (cut n x) W h12 hm6 (HG14.out.below hb (Nat.le_refl _)) (HX14.out.below hb)
  unfold WordPost ElPost at *
  have hf9 : fct n ≤ 362880 := fct_nine h9
  have hle : sz (Gen (fun y => y ∈ gs)) n ≤ fct n := Nat.le_of_dvd (fct_pos n) hdv
  generalize sz (Gen (fun y => y ∈ gs)) n = zg at *
  generalize sz (Gen (fun y => y ∈ hs)) n = zh at *
  have hzh : zh ≤ zg := by rw [hso]; rcases Nat.eq_zero_or_pos ol with h | h; rw [h] at hso; omega; exact Nat.le_mul_of_pos_left _ h
  have hmulI : (ol : Int) * (zh : Int) = (zg : Int) := by rw [hso]; simp
  have hmodI : ((fct n : Nat) : Int) % (zg : Int) = 0 := by have := Nat.mod_eq_zero_of_dvd hdv; omega
  have hmodT : Int.tmod ((fct n : Nat) : Int) (zg : Int) = 0 := by rw [Int.tmod_eq_emod_of_nonneg (by omega)]; exact hmodI
  have hzI : ((zg : Int) == 0) = false := by rw [beq_eq_false_iff_ne]; omega
  have hzgI : (0 : Int) < (zg : Int) := by omega
  generalize hfn : fct n = fn at *
  have HFN := hide hfn
  have HSO := hide hso
  clear hso hdv hfn hFX
  go_wp2_with fail
  refine (HSZ.out wc (Below.refl _ _)).mono ?_
  rintro ex wa ⟨rfl, hba⟩
  go_wp2_with fail
  refine (HSH.out wa hba).mono ?_
  rintro ex wb ⟨rfl, hbb⟩
  have hbB : Below wc.heap.size wc wb := hba.trans (hbb.mono hba.size)
  have HFa := hide (factorial_any n wb h12)
  rw [HFN.out] at HFa
  clear hba hbb
  go_wp2_with fail
  refine HFa.out.mono ?_
  rintro ex wf ⟨rfl, rfl⟩
  go_wp2_with fail
  refine (HSZ.out wb hbB).mono ?_
  rintro ex wd ⟨rfl, hbd⟩
  have hbD : Below wc.heap.size wc wd := hbB.trans (hbd.mono hbB.size)
  clear hbB hbd HFa
  go_wp2_with fail
  refine (HSZ.out wd hbD).mono ?_
  rintro ex we ⟨rfl, hbe⟩
  have hbE : Below wc.heap.size wc we := hbD.trans (hbe.mono hbD.size)
  clear hbD hbe
  have HBW : Hid (∀ W, Below wc.heap.size wc W → Below w.heap.size w W) := fun W hb => (hB7.trans (HB14.out.mono hs7)).trans (hb.mono (Nat.le_trans hs7 HB14.out.size))
  by_cases h800 : 800 < zg
  · have h8I : (800 : Int) < (zg : Int) := by omega
    go_wp2
    go_ret
    exact ⟨rfl, HBW.out we hbE⟩
  · have h8I : ¬ (800 : Int) < (zg : Int) := by omega
    have HW := hide (HWd.out we hbE)
    have hrz : rchk n (cut n x) = 0 := rchk_ok h1 h12 HCX.out HCXL.out
    have hpc := pad_cut h12 HFX.out
    rw [hrz, hpc] at HW
    have HXX := hide (fun z (hz : Gen (fun y => y ∈ gs) z) => (x52 z).2 hz)
    have HX53 := hide x53
    clear hrz hpc x51 x52 x53 HWd
    go_wp2_with fail
    refine HW.out.mono ?_
    rintro ex wf ⟨hbf, hpost⟩
    obtain ⟨vw, wo, iw, Sw, rfl, hrun, hmem, hown⟩ : ∃ (u : Value) (wd : List Int) (i : Nat) (S : List (Pm × List Int)), ex = .returned (.tuple #[u, .int .i64 0]) ∧ Run (glet 0 gs) i S ∧ (x, wd) ∈ S ∧ wf.ownsRow we.heap.size 3 1 u wd.length (wd.map (Value.int .i64)) := by
      rcases hpost with h | h | h | h
      · exact absurd rfl h.1
      · exact absurd HGX.out h.2.1
      · have := h.2.2.1; omega
      · exact h.2.2.2
    obtain ⟨hw1, hw2, hw3⟩ := word_is HXX.out hrun hmem HSX.out
    rw [HX53.out] at hw3
    have hbF : Below wc.heap.size wc wf := hbE.trans (hbf.mono hbE.size)
    have HSa := hide (say_ok n _ vw gs wo wf h12 (HG14.out.below hbF (Nat.le_refl _)) hm6 (Ints.own hown) (fun z hz => by obtain ⟨q, hq⟩ := say_lett wo 1 x hw1 z hz; have := lett_bound hq; exact ⟨by omega, by omega⟩) (by omega))
    have HW1 := hide hw1
    obtain ⟨wp', wc', evw⟩ := owns_slice hown
    subst evw
    have hw2I : (wo.length : Int) ≤ (AU.length : Int) := by omega
    clear hpost hrun hmem hown hbE hbf hw1 HW
    go_wp2_with fail
    refine HSa.out.mono ?_
    rintro ex wg ⟨hpost, hbg⟩
    obtain ⟨vz, rfl, hownz⟩ : ∃ v, ex = .returned (.tuple #[v, .int .i64 0]) ∧ wg.ownsRow wf.heap.size 3 1 v n ((cut n x).map (Value.int .i64)) := by
      rcases hpost with ⟨h0, _⟩ | ⟨v, p', h0, h1, h2⟩
      · rw [HW1.out] at h0; cases h0
      · rw [HW1.out] at h0; rw [← Option.some.inj h0] at h2; exact ⟨v, h1, h2⟩
    have hbG : Below wc.heap.size wc wg := hbF.trans (hbg.mono hbF.size)
    have HZ := hide (Ints.own hownz)
    obtain ⟨zp, zc, evz⟩ := owns_slice hownz
    subst evz
    clear hpost hownz hbF hbg HSa
    go_wp2_with fail
    refine (HEl.out wg hbG).mono ?_
    rintro ex wh ⟨hbh, hpost⟩
    rw [if_neg (by omega)] at hpost
    obtain ⟨ve, vse, XE, rfl, hXEl, _, _, _, hLE⟩ := hpost
    have hbH : Below wc.heap.size wc wh := hbG.trans (hbh.mono hbG.size)
    have hlE : vse.length = zg := by rw [hLE.len, List.length_map]; exact hXEl
    obtain ⟨ep, ec, eve⟩ := owns_slice hLE.row
    rw [hlE] at eve
    subst eve
    have HSm := hide (same_any _ _ (cut n x) (cut n x) wh (HZ.out.below hbh) (HX14.out.below hbH))
    have hdt : decide (cut n x = cut n x) = true := decide_eq_true rfl
    rw [hdt] at HSm
    clear hLE hXEl hlE hbG hbh hdt
    go_wp2_with fail
    refine HSm.out.mono ?_
    rintro ex wi ⟨rfl, hbi⟩
    have hbI : Below wc.heap.size wc wi := hbH.trans (hbi.mono hbH.size)
    clear hbH hbi HSm
    go_wp2_with fail
    refine (HSZ.out wi hbI).mono ?_
    rintro ex wj ⟨rfl, hbj⟩
    have hbJ : Below wc.heap.size wc wj := hbI.trans (hbj.mono hbI.size)
    clear hbI hbj
    go_wp2
    go_ret
    exact ⟨rfl, HBW.out wj hbJ⟩

theorem topGroup_walk (v : Value) (xs : List Int) (a1 a2 : Int) (v2 : Value) (ys : List Int) (v3 : Value) (zs : List Int) (a3 : Int) (w : World) (h : Ints w v xs) (hx : ∀ x, x ∈ xs → I64 x) (hs : xs.length ≤ 17592186044416) (i1 : I64 a1) (i2 : I64 a2) (h2 : Ints w v2 ys) (hy : ∀ x, x ∈ ys → I64 x) (hs2 : ys.length ≤ 17592186044416) (h3 : Ints w v3 zs) (hz : ∀ x, x ∈ zs → I64 x) (hs3 : zs.length ≤ 17592186044416) (i3 : I64 a3) :
    Calls Try.prog 10 #[v, .int .i64 a1, .int .i64 a2, v2, v3, .int .i64 a3] w fun e w' => e = .returned (.bool true) ∧ Below w.heap.size w w' := by
  rcases Nat.lt_or_ge 400 (xs.length + ys.length + zs.length) with hl | hl
  · exact tgroup_long v v2 v3 xs ys zs a1 a2 a3 w h h2 h3 (by omega) hl
  · exact tgroup_ok v v2 v3 xs ys zs a1 a2 a3 w h hx h2 hy h3 hz hl i1 i2 i3

end Go.Proofs.Ytimfoggjocajiaa
