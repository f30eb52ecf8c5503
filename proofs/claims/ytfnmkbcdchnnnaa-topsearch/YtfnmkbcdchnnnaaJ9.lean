/- Joined: TrK, TtD, TtO, TtA, Eql, Mirr, MirM, TtP, TtE, TtG, TtJ. -/
import Derived.Test.YtfnmkbcdchnnnaaJ7
import Derived.Test.YtfnmkbcdchnnnaaJ8
import Derived.Test.YtfnmkbcdchnnnaaJ5
import Derived.Test.YtfnmkbcdchnnnaaJ6
import Derived.Test.YtfnmkbcdchnnnaaJ3
import Derived.Deep.RegionHeld3
import Derived.Deep.QuietTactic
import Derived.Deep.CutRange
/- Plain: the first lists of a list of lists; the rows of a lead. -/
namespace Go.Proofs.Ytfnmkbcdchnnnaa
open Go.RowKit Go.Maps

/-- The first lists of a list of lists. -/
theorem LL.front {w : World} {base g N cap k : Nat} {vs : List Value} {X : List (List Int)} (h : LL w base (.slice (some ⟨g, 0, none⟩) N cap) vs X) (hN : vs.length = N) (hk : k ≤ N) (h1 : 1 ≤ k) (hg : g < w.heap.size) (hc : N ≤ cap) (hc2 : cap ≤ 9223372036854775807) :
    IntsAll w (.slice (some ⟨g, 0, none⟩) k cap) (X.take k) := by
  have hr := h.row
  rw [hN] at hr
  have hXl := h.len
  refine ⟨vs.take k, Or.inr ⟨g, 0, cap, ?_, ?_, ?_, hc2, hg, fun j hj => ?_⟩, ?_, fun j hj => ?_⟩
  · rw [List.length_take, hN, Nat.min_eq_left hk]
  · rw [List.length_take, hN, Nat.min_eq_left hk]; exact h1
  · rw [List.length_take, hN, Nat.min_eq_left hk]; omega
  · have hj' : j < k := by rw [List.length_take, hN, Nat.min_eq_left hk] at hj; exact hj
    rw [Nat.zero_add, owns_val hr (by omega)]
    simp [List.getD, hj']
  · rw [List.length_take, List.length_take, hXl]
  · have hj' : j < k := by rw [List.length_take] at hj; omega
    have hjX : j < X.length := by rw [← hXl, hN]; omega
    have := Ints.own (h.at hjX)
    have e1 : (vs.take k).getD j undef = vs.getD j undef := by simp [List.getD, hj']
    have e2 : (X.take k).getD j [] = X.getD j [] := by simp [List.getD, hj']
    rw [e1, e2]
    exact this

/-- The rows of a lead, but the last one. -/
def ldr (n : Nat) (ts : List (List Bool)) : List (List Int) := (leadTo n ts ts.length).take ts.length

theorem ldr_length (n : Nat) (ts : List (List Bool)) : (ldr n ts).length = ts.length := by unfold ldr; rw [List.length_take, leadTo_length]; omega

theorem ldr_rows {n : Nat} {ts : List (List Bool)} (h : ∀ t, t ∈ ts → tsz t = n) : ∀ r, r ∈ ldr n ts → Rw n r := by
  intro r hr
  have hr' := List.mem_of_mem_take hr
  obtain ⟨j, hj, e⟩ := List.getElem_of_mem hr'
  have hl : (leadTo n ts ts.length).length = ts.length + 1 := leadTo_length n ts ts.length
  have h2 := leadTo_get (n := n) (ts := ts) (k := ts.length) (j := j) (by omega)
  rw [List.getD_eq_getElem?_getD, List.getElem?_eq_getElem hj, Option.getD_some, e] at h2
  have := prd_row n (ts.take j) (fun t ht => h t (List.mem_of_mem_take ht))
  rw [← h2] at this
  exact ⟨this.1, this.2⟩

end Go.Proofs.Ytfnmkbcdchnnnaa

/- Contract: truth.Heads, over what call.Rows tells. -/
namespace Go.Proofs.Ytfnmkbcdchnnnaa
open Go.RowKit

/-- What call.Rows tells. -/
def RowsPost (T : List (List Int)) (w : World) (e : Ending) (w' : World) : Prop := ∃ u vs, e = .returned (.tuple #[u, .int .i64 0]) ∧ LL w' w.heap.size u vs T ∧ Below w.heap.size w w'

theorem LL.keptRow {w w' : World} {base : Nat} {v : Value} {vs : List Value} {xss : List (List Int)} {u : Value} {k : Nat} {us : List Value} (h : LL w base v vs xss) (hu : w.ownsRow base 24 1 u k us) (hg : w.grownBy w' u.ownBlock) (hne : v.ownBlock = none ∨ v.ownBlock ≠ u.ownBlock) : LL w' base v vs xss :=
  ⟨h.row.kept hg hne, h.all.mono (fun _ _ _ h' => owns_kept_ty h' hu hg)⟩

theorem Box.keep {w w' : World} {b B : Nat} {s : ByteArray} {n : Int} {v : Value} (h : Box w b s n v) (hb : Below B w w') (hlt : b < B) : Box w' b s n v :=
  ⟨(hb.cell (p := ⟨b, 0, none⟩) hlt).trans h.c0, (hb.cell (p := ⟨b, 1, none⟩) hlt).trans h.c1, (hb.cell (p := ⟨b, 2, none⟩) hlt).trans h.c2, Nat.lt_of_lt_of_le h.lt hb.size⟩

/-- The heads. -/
def headsOf (T : List (List Int)) (k N : Nat) : List (List Int) := (List.range N).map (fun i => T.getD (i * k) [])

theorem headsOf_snoc (T : List (List Int)) (k j : Nat) : headsOf T k (j + 1) = headsOf T k j ++ [T.getD (j * k) []] := by
  unfold headsOf
  rw [List.range_succ, List.map_append]
  rfl

end Go.Proofs.Ytfnmkbcdchnnnaa

/- Contract: call.leadOf: the rows of a lead that ends with a call. -/
namespace Go.Proofs.Ytfnmkbcdchnnnaa
open Go.RowKit

/-- The changes of a lead that ends with a call. -/
def calledBy (ts ss : List (List Bool)) : List (List Bool) := ts.take (ts.length - ss.length) ++ ss

theorem calledBy_length {ts ss : List (List Bool)} (h : ss.length ≤ ts.length) : (calledBy ts ss).length = ts.length := by
  unfold calledBy; rw [List.length_append, List.length_take]; omega

theorem calledBy_mem {n : Nat} {ts ss : List (List Bool)} (h1 : ∀ t, t ∈ ts → tsz t = n) (h2 : ∀ t, t ∈ ss → tsz t = n) : ∀ t, t ∈ calledBy ts ss → tsz t = n := by
  intro t ht
  rcases List.mem_append.1 ht with h | h
  · exact h1 t (List.mem_of_mem_take h)
  · exact h2 t h

set_option maxRecDepth 20000 in
set_option maxHeartbeats 4000000 in
theorem leadOf_ok (s : ByteArray) (n : Nat) (vp : Option Addr) (vc : Nat) (ts : List (List Bool)) (sg : Int) (up : Option Addr) (uc : Nat) (ss : List (List Bool)) (w : World) (h1 : 1 ≤ n) (h12 : n ≤ 12) (hl1 : 1 ≤ ts.length) (hl2 : ts.length ≤ 200)
    (hts : ∀ t, t ∈ ts → tsz t = n) (hv : IntsAll w (.slice vp ts.length vc) (ts.map tpl)) (hss : ∀ t, t ∈ ss → tsz t = n) (hu : IntsAll w (.slice up ss.length uc) (ss.map tpl)) (hle : ss.length ≤ ts.length) :
    Calls Try.prog 59 #[meth s n (.slice vp ts.length vc), .agg #[.int .i32 sg, .slice up ss.length uc]] w fun e w' => ∃ u vs, e = .returned u ∧ LL w' w.heap.size u vs ((calledBy ts ss).map trow) ∧ Below w.heap.size w w' := by
  obtain ⟨j0, hji, hq0, hq1, hq2⟩ := info_parts Try.info24
  obtain ⟨b, off, cap, hve, hbl, hc1, hc2, hxx⟩ := hv.cell (by rw [List.length_map]; exact hl1)
  obtain ⟨rfl, rfl⟩ : vp = some ⟨b, off, none⟩ ∧ vc = cap := by simpa using hve
  clear hxx
  rw [List.length_map] at hc1
  have hcut := hv.cut (k := ts.length - ss.length) (List.length_map _) (by omega)
  have hB0 : Below w.heap.size w ((w.alloc (.cells #[.string s, .int .i64 n, .slice (some ⟨b, off, none⟩) ts.length vc] 41)).alloc (.cells #[.int .i32 sg, .slice up ss.length uc] 85)) := ((Below.refl _ _).alloc (Nat.le_refl _) _).alloc (by simp) _
  have hB1 := hB0.alloc hB0.size (.cells #[.slice (some ⟨b, off, none⟩) (ts.length - ss.length) vc, .slice up ss.length uc] 23)
  have hnew := heap_alloc_new ((w.alloc (.cells #[.string s, .int .i64 n, .slice (some ⟨b, off, none⟩) ts.length vc] 41)).alloc (.cells #[.int .i32 sg, .slice up ss.length uc] 85)) (.cells #[.slice (some ⟨b, off, none⟩) (ts.length - ss.length) vc, .slice up ss.length uc] 23)
  have hbox := ((Box.start w s n (.slice (some ⟨b, off, none⟩) ts.length vc) 41).below ((Below.refl _ _).alloc (Nat.le_refl _) (.cells #[.int .i32 sg, .slice up ss.length uc] 85))).below ((Below.refl _ _).alloc (Nat.le_refl _) (.cells #[.slice (some ⟨b, off, none⟩) (ts.length - ss.length) vc, .slice up ss.length uc] 23))
  have HCO := hide (concat_ok (w.heap.size + 2) _ _ _ _ (((w.alloc (.cells #[.string s, .int .i64 n, .slice (some ⟨b, off, none⟩) ts.length vc] 41)).alloc (.cells #[.int .i32 sg, .slice up ss.length uc] 85)).alloc (.cells #[.slice (some ⟨b, off, none⟩) (ts.length - ss.length) vc, .slice up ss.length uc] 23)) (by simp) (by
      rw [show ((w.alloc (.cells #[.string s, .int .i64 n, .slice (some ⟨b, off, none⟩) ts.length vc] 41)).alloc (.cells #[.int .i32 sg, .slice up ss.length uc] 85)).heap.size = w.heap.size + 2 from by simp] at hnew
      unfold World.cell?; simp only [hnew]; rfl) (by
      rw [show ((w.alloc (.cells #[.string s, .int .i64 n, .slice (some ⟨b, off, none⟩) ts.length vc] 41)).alloc (.cells #[.int .i32 sg, .slice up ss.length uc] 85)).heap.size = w.heap.size + 2 from by simp] at hnew
      unfold World.cell?; simp only [hnew]; rfl) (hcut.below hB1) (hu.below hB1) (by rw [List.length_take, List.length_map, List.length_map]; omega) (by rw [List.length_take, List.length_map]; omega) (by rw [List.length_map]; omega))
  rw [← List.map_take, ← List.map_append, show ts.take (ts.length - ss.length) ++ ss = calledBy ts ss from rfl] at HCO
  have HZL := hide (calledBy_length hle)
  have HZM := hide (calledBy_mem hts hss)
  have HBX := hide hbox
  have HB1 := hide hB1
  clear hts hss hv hu hcut hbox hnew hB1 hB0 hve
  generalize calledBy ts ss = Z at *
  generalize ts.length = K at *
  generalize ss.length = M at *
  obtain ⟨D, rfl⟩ : ∃ D, K = D + M := ⟨K - M, by omega⟩
  rw [show D + M - M = D from by omega] at HCO HBX HB1
  unfold meth
  go_enter Try.func59, Try.ntmps59
  go_wp2_with fail
  refine HCO.out.mono ?_
  rintro e w1 ⟨v, rfl, hI1, hb1⟩
  have hB1 : Below w.heap.size w w1 := HB1.out.trans (hb1.mono HB1.out.size)
  have hx1 := HBX.out.below hb1
  obtain ⟨zb, zo, zc, hve, hzb, hzc, hzm, hzcell⟩ := hI1.cell (by rw [List.length_map, HZL.out]; omega)
  rw [List.length_map, HZL.out] at hve hzc
  subst hve
  have HX1 := hide hx1
  have HZC := hide hzcell
  have hbs1 := hB1.size
  clear HCO HBX HB1 hb1 hx1 hI1 hzcell
  go_wp2
  go_loopw [6, 27] (fun hv i wr => ∃ (j : Nat) (vs : List Value), j ≤ D + M ∧ i = .int .i64 j ∧ Hid (vs.length = j) ∧ Hid (LL wr w1.heap.size hv vs ((Z.take j).map trow)) ∧ Below w1.heap.size w1 wr) (fun _ i _ => D + M - (intOf i).toNat)
  case atStart => exact ⟨0, [], by omega, rfl, (show ([] : List Value).length = 0 from rfl), LL.nil _ _, Below.refl _ _⟩
  case round =>
    obtain ⟨j, vs, hj, rfl, hvl, hL, hbw⟩ := hrel
    have hbs := hbw.size
    obtain ⟨hp, hc, rfl⟩ := owns_slice hL.out.row
    by_cases hlt : j < D + M
    · have hjz : j < Z.length := by rw [HZL.out]; exact hlt
      obtain ⟨p, c, gx, hix⟩ := HZC.out j (by rw [List.length_map]; exact hjz)
      have ht : tsz Z[j] = n := HZM.out _ (List.getElem_mem hjz)
      have hix2 := hix.out
      have hgk : (Z.map tpl).getD j [] = tpl Z[j] := by simp [List.getD, hjz]
      rw [hgk] at hix2 gx
      have gy := (hbw.cell (p := ⟨zb, zo + j, none⟩) hzb).trans gx
      have HRow := hide (prow_ok Z[j] n _ wr ht h1 h12 (hix2.below hbw))
      have HTN : Hid ((Z.take (j + 1)).map trow = (Z.take j).map trow ++ [trow Z[j]]) := by show _ = _; rw [List.take_succ_eq_append_getElem hjz, List.map_append]; rfl
      have HTL : Hid ((trow Z[j]).length = n) := by show _ = _; rw [trow_length, ht]
      have gb := (HX1.out.below hbw).c1
      generalize Z[j] = t at *
      generalize (tpl t).length = pl at *
      clear gx hix hix2 hgk ht
      have hvl2 := hvl.out
      rw [hvl2]
      go_wp2_with fail
      refine HRow.out.mono ?_
      rintro e w3 ⟨rv, rfl, hrv, hb3⟩
      have hL3 := hL.out.below hb3
      have hbs3 := hb3.size
      have hbw3 : Below w1.heap.size w1 w3 := hbw.trans (hb3.mono hbs)
      have hrv2 := owns_base hrv hbs
      obtain ⟨rp, rc, rfl⟩ := owns_slice hrv2
      have hrow := hL3.row
      have HL3 := hide hL3
      rw [hvl2] at hrow
      have HRV := hide hrv2
      clear hL hrv hrv2 hL3 HRow hb3
      go_wp2_with (at_builtin; refine wpList_append_keep _ rfl _ _ 23 rfl w1.heap.size 24 j0 (.slice none 0 0) 1 24 Try.underlying23 hji hq0 hq1 hq2 rfl (by decide) _ _ _ rfl (hrow.alloc _) ⟨w3.heap.size, 0, none⟩ 1 1 [.slice rp n rc] rfl rfl ?c1 ?c2 ?c3 ?c4 ?c5 ?_)
      case c1 => exact cell_one_new _ _ _
      case c2 => intro u hu; simp at hu; subst hu; rfl
      case c3 => unfold maxLen; omega
      case c4 => omega
      case c5 => simp; omega
      · intro v' w5 hown5 hg5 _
        have hg5' := hg5
        rw [← hvl2] at hown5 hg5'
        have hL5 := HL3.out.push (X := trow t) (by rw [HTL.out]; exact HRV.out) hown5 hg5'
        rw [← HTN.out] at hL5
        have HB5 := hide (HL3.out.step hbw3 (Nat.le_refl _) (by omega) hg5')
        have HL5 := hide hL5
        have HV5 : Hid ((vs ++ [Value.slice rp n rc]).length = j + 1) := by show _ = _; rw [List.length_append, hvl2]; rfl
        clear hL5 hown5 hg5 hg5' hrow
        go_wp2
        go_roundw
        case rel => exact ⟨j + 1, _, by omega, by go_num, HV5, HL5, HB5.out⟩
        case measure => simp [intOf]; omega
    · obtain rfl : j = D + M := by omega
      have hF := hL.out
      rw [show Z.take (D + M) = Z from by rw [← HZL.out]; exact List.take_length] at hF
      have HF := hide hF
      clear hL hF
      go_wp2
      go_ret
      exact ⟨_, vs, rfl, HF.out.low hbs1, hB1.trans (hbw.mono hbs1)⟩

end Go.Proofs.Ytfnmkbcdchnnnaa

/- Plain: BOTH PROOFS AGREE: the rows of leads are unlike just when those of the first lead are, the heads are, and no two heads are a false one apart. -/
namespace Go.Proofs.Ytfnmkbcdchnnnaa
open Go.RowKit

/-- The rows of leads with these heads. -/
def touchRows (Hs P : List (List Int)) : List (List Int) := Hs.flatMap (fun h => P.map (fun p => by_ h p))

theorem by_cancel {n : Nat} (h12 : n ≤ 12) {h a b : List Int} (hh : Rw n h) (ha : Rw n a) (hb : Rw n b) (e : by_ h a = by_ h b) : a = b := by
  refine Rw.eq h12 ha hb ?_
  have := congrArg pad e
  rw [hh.pad_by h12 ha, hh.pad_by h12 hb] at this
  exact Pm.mul_cancel this

/-- Rows of two leads are one just when what makes one head of the other makes one of their rows of the other. -/
theorem by_meet {n : Nat} (h12 : n ≤ 12) {h h' a b : List Int} (hh : Rw n h) (hh' : Rw n h') (ha : Rw n a) (hb : Rw n b) : by_ h a = by_ h' b ↔ by_ (un h) h' = by_ a (un b) := by
  constructor
  · intro e
    refine Rw.eq h12 (hh.un.by hh') (ha.by hb.un) ?_
    have e' := congrArg pad e
    rw [hh.pad_by h12 ha, hh'.pad_by h12 hb] at e'
    rw [hh.un.pad_by h12 hh', ha.pad_by h12 hb.un, hh.pad_un h12, hb.pad_un h12]
    refine Pm.mul_cancel (x := pad h) ?_
    rw [Pm.mul_inv_cancel, ← Pm.mul_assoc, e', Pm.mul_assoc, Pm.mul_inv, Pm.mul_one]
  · intro e
    refine Rw.eq h12 (hh.by ha) (hh'.by hb) ?_
    have e' := congrArg pad e
    rw [hh.un.pad_by h12 hh', ha.pad_by h12 hb.un, hh.pad_un h12, hb.pad_un h12] at e'
    rw [hh.pad_by h12 ha, hh'.pad_by h12 hb]
    have e2 : pad h' = pad h * (pad a * (pad b)⁻¹) := by rw [← e', Pm.mul_inv_cancel]
    rw [e2, Pm.mul_assoc, Pm.mul_assoc, Pm.inv_mul, Pm.mul_one]

theorem by_un_rnd {n : Nat} (h12 : n ≤ 12) {h h' : List Int} (hh : Rw n h) (hh' : Rw n h') : by_ (un h) h' = rnd n ↔ h = h' := by
  constructor
  · intro e
    refine Rw.eq h12 hh hh' ?_
    have e' := congrArg pad e
    rw [hh.un.pad_by h12 hh', hh.pad_un h12, pad_rnd h12] at e'
    rw [← Pm.mul_one (pad h), ← e', Pm.mul_inv_cancel]
  · rintro rfl
    refine Rw.eq h12 (hh.un.by hh) (Rw.rnd n) ?_
    rw [hh.un.pad_by h12 hh, hh.pad_un h12, Pm.inv_mul, pad_rnd h12]

theorem apart_iff {n : Nat} (h12 : n ≤ 12) {P : List (List Int)} (hP : ∀ p, p ∈ P → Rw n p) (h0 : P ≠ []) {h h' : List Int} (hh : Rw n h) (hh' : Rw n h') :
    (∀ x, x ∈ P.map (fun p => by_ h p) → ∀ y, y ∈ P.map (fun p => by_ h' p) → x ≠ y) ↔ (h ≠ h' ∧ by_ (un h) h' ∉ hds n P) := by
  have hm : ∀ d, d ∈ hds n P ↔ d ∈ pr P ∧ d ≠ rnd n := (hdsTo_fact n (pr P)).2.1
  constructor
  · intro H
    obtain ⟨p0, hp0⟩ := List.exists_mem_of_ne_nil P h0
    refine ⟨fun e => ?_, fun hd => ?_⟩
    · subst e
      exact H _ (List.mem_map.2 ⟨p0, hp0, rfl⟩) _ (List.mem_map.2 ⟨p0, hp0, rfl⟩) rfl
    · obtain ⟨one, h1, other, h2, e⟩ := pr_mem.1 ((hm _).1 hd).1
      exact H _ (List.mem_map.2 ⟨other, h2, rfl⟩) _ (List.mem_map.2 ⟨one, h1, rfl⟩) ((by_meet h12 hh hh' (hP _ h2) (hP _ h1)).2 e.symm)
  · rintro ⟨hne, hnd⟩ x hx y hy e
    obtain ⟨a, ha, rfl⟩ := List.mem_map.1 hx
    obtain ⟨b, hb, rfl⟩ := List.mem_map.1 hy
    have e2 := (by_meet h12 hh hh' (hP _ ha) (hP _ hb)).1 e
    refine hnd ((hm _).2 ⟨pr_mem.2 ⟨b, hb, a, ha, e2.symm⟩, fun e3 => ?_⟩)
    exact hne ((by_un_rnd h12 hh hh').1 e3)

theorem both_proofs {n : Nat} (h12 : n ≤ 12) {Hs P : List (List Int)} (hP : ∀ p, p ∈ P → Rw n p) (hH : ∀ h, h ∈ Hs → Rw n h) (h0 : P ≠ []) (h1 : Hs ≠ []) :
    (touchRows Hs P).Nodup ↔ (P.Nodup ∧ Hs.Nodup ∧ Hs.Pairwise (fun h h' => by_ (un h) h' ∉ hds n P)) := by
  unfold touchRows List.Nodup
  rw [List.pairwise_flatMap]
  have e1 : (∀ h, h ∈ Hs → List.Pairwise (· ≠ ·) (P.map (fun p => by_ h p))) ↔ List.Pairwise (· ≠ ·) P := by
    have key : ∀ h, h ∈ Hs → (List.Pairwise (· ≠ ·) (P.map (fun p => by_ h p)) ↔ List.Pairwise (· ≠ ·) P) := by
      intro h hh
      rw [List.pairwise_map]
      exact List.Pairwise.iff_of_mem (fun {a b} ha hb => ⟨fun hne e => hne (by rw [e]), fun hne e => hne (by_cancel h12 (hH h hh) (hP a ha) (hP b hb) e)⟩)
    obtain ⟨h, hh⟩ := List.exists_mem_of_ne_nil Hs h1
    exact ⟨fun H => (key h hh).1 (H h hh), fun H h hh => (key h hh).2 H⟩
  have e2 : List.Pairwise (fun h h' => ∀ x, x ∈ P.map (fun p => by_ h p) → ∀ y, y ∈ P.map (fun p => by_ h' p) → x ≠ y) Hs ↔ (List.Pairwise (· ≠ ·) Hs ∧ Hs.Pairwise (fun h h' => by_ (un h) h' ∉ hds n P)) := by
    rw [← List.pairwise_and_iff]
    exact List.Pairwise.iff_of_mem (fun {a b} ha hb => apart_iff h12 hP h0 (hH a ha) (hH b hb))
  constructor
  · rintro ⟨a, b⟩
    exact ⟨e1.1 a, e2.1 b⟩
  · rintro ⟨a, b⟩
    exact ⟨e1.2 a, e2.2 b⟩

end Go.Proofs.Ytfnmkbcdchnnnaa

/- Contract: slices.Equal of lists of ints. -/
namespace Go.Proofs.Ytfnmkbcdchnnnaa
open Go.RowKit

set_option maxHeartbeats 800000 in
theorem equal_any (v1 v2 : Value) (xs ys : List Int) (w : World) (h1 : Ints w v1 xs) (h2 : Ints w v2 ys) :
    Calls Try.prog 39 #[v1, v2] w fun e w' => e = .returned (.bool (decide (xs = ys))) ∧ Below w.heap.size w w' := by
  by_cases hlen : xs.length = ys.length
  · rcases h1 with ⟨rfl, p, c, rfl⟩ | ⟨b, off, cap, rfl, h0, hc, hm, hb, hcell⟩
    · obtain rfl : ys = [] := List.length_eq_zero_iff.1 (by simpa using hlen.symm)
      obtain ⟨p2, c2, rfl⟩ := h2.form
      clear h2
      go_enter Try.func39, Try.ntmps39
      go_wp2
      go_loop [13] (fun i => i = .int .i64 0) (fun _ => 0)
      case atStart => rfl
      case round =>
        subst hrel
        go_wp2
        go_ret
        exact ⟨rfl, Below.refl _ _⟩
    · rcases h2 with ⟨rfl, p, c, rfl⟩ | ⟨b2, off2, cap2, rfl, h02, hc2, hm2, hb2, hcell2⟩
      · simp at hlen; subst hlen; simp at h0
      · have hl : (((xs.length : Nat) : Int) != ((ys.length : Nat) : Int)) = false := by rw [hlen]; simp
        have HL : Hid (xs.length = ys.length) := hlen
        clear hlen
        go_enter Try.func39, Try.ntmps39
        go_wp2
        go_loopw [13] (fun i wr => ∃ k : Nat, k ≤ xs.length ∧ i = .int .i64 k ∧ Hid (xs.take k = ys.take k) ∧ Below w.heap.size w wr) (fun i _ => xs.length - (intOf i).toNat)
        case atStart => exact ⟨0, by omega, rfl, by simp [Hid], Below.refl _ _⟩
        case round =>
          obtain ⟨k, hk, rfl, ht, hbw⟩ := hrel
          by_cases hlt : k < xs.length
          · have hlt2 : k < ys.length := by have := HL.out; omega
            obtain ⟨x, hx, hcx⟩ := cellAt hcell hlt
            obtain ⟨y, hy, hcy⟩ := cellAt hcell2 hlt2
            have gx : wr.cell? ⟨b, off + k, none⟩ = some (.int .i64 x) := (hbw.cell (by exact hb)).trans hcx
            have gy : wr.cell? ⟨b2, off2 + k, none⟩ = some (.int .i64 y) := (hbw.cell (by exact hb2)).trans hcy
            clear hcx hcy hcell hcell2
            by_cases hxy : x = y
            · subst hxy
              go_wp2
              go_region
              all_goals
                go_wp2
                go_roundw
                case rel => exact ⟨k + 1, by omega, by go_num, take_eq_snoc ht.out hlt hlt2 (by rw [hx.out, hy.out]), by first | exact hbw | exact hbw.drew | exact hbw.drew.drew⟩
                case measure => simp [intOf]; omega
            · have hne : (x != y) = true := by simpa using hxy
              have HXY : Hid (¬ x = y) := hxy
              clear hxy
              go_wp2
              go_region
              all_goals
                go_wp2
                go_ret
                refine ⟨ret_bool ?_, by first | exact hbw | exact hbw.drew | exact hbw.drew.drew⟩
                symm
                rw [decide_eq_false_iff_not]
                intro e
                exact HXY.out (by rw [← hx.out, ← hy.out, e])
          · clear hcell hcell2
            go_wp2
            go_ret
            refine ⟨ret_bool ?_, hbw⟩
            symm
            rw [decide_eq_true_iff]
            have h3 := ht.out
            have h4 := HL.out
            rwa [List.take_of_length_le (by omega), List.take_of_length_le (by omega)] at h3
  · obtain ⟨p1, c1, rfl⟩ := h1.form
    obtain ⟨p2, c2, rfl⟩ := h2.form
    have hl : (((xs.length : Nat) : Int) != ((ys.length : Nat) : Int)) = true := by rw [bne_iff_ne]; omega
    have hd : decide (xs = ys) = false := by rw [decide_eq_false_iff_not]; intro e; exact hlen (by rw [e])
    clear hlen h1 h2
    go_enter Try.func39, Try.ntmps39
    go_wp2
    go_ret
    exact ⟨ret_bool hd.symm, Below.refl _ _⟩

end Go.Proofs.Ytfnmkbcdchnnnaa

/- Contracts: slices.Equal, method.Mirrored. -/
namespace Go.Proofs.Ytfnmkbcdchnnnaa
open Go.RowKit

/-- Are lists, but for the last one, the same from the back? -/
def Mir (css : List (List Int)) : Prop := ∀ i, i < css.length - 1 → css.getD i [] = css.getD (css.length - 2 - i) []

theorem ret_b0 {a b : Bool} (h : a = b) : Ending.returned (.tuple #[.bool a, .int .i64 0]) = .returned (.tuple #[.bool b, .int .i64 0]) := by rw [h]

end Go.Proofs.Ytfnmkbcdchnnnaa

/- Plain: what is mirrored comes back. Memory: a list that grows behind another header of it, in a struct. -/
namespace Go.Proofs.Ytfnmkbcdchnnnaa
open Go.RowKit

theorem by_rnd_left {n : Nat} {X : List Int} (h : ∀ y ∈ X, 0 ≤ y ∧ y < (n : Nat)) : by_ (rnd n) X = X := by
  unfold by_
  conv => rhs; rw [← List.map_id X]
  apply List.map_congr_left
  intro y hy
  have := h y hy
  rw [rnd_get (by omega)]
  show _ = y
  omega

theorem by_rnd_right {X : List Int} : by_ X (rnd X.length) = X := by
  refine ext_getD (by rw [by_length, rnd_length]) (fun j hj => ?_)
  rw [by_length, rnd_length] at hj
  rw [by_get (by rw [rnd_length]; exact hj), rnd_get hj, Int.toNat_natCast]

theorem fold_by (n : Nat) : ∀ (ts : List (List Bool)) (r : List Int), r.length = n → (∀ t, t ∈ ts → tsz t = n) → ts.foldl (fun r t => by_ r (trow t)) r = by_ r (prd n ts)
  | [], r, hr, _ => by show r = by_ r (rnd n); rw [← hr, by_rnd_right]
  | t :: ts, r, hr, h => by
    have ht : tsz t = n := h t (by simp)
    have hs : ∀ t', t' ∈ ts → tsz t' = n := fun t' ht' => h t' (List.mem_cons_of_mem _ ht')
    have hp := prd_row n ts hs
    have e1 : (t :: ts).foldl (fun r t => by_ r (trow t)) r = by_ (by_ r (trow t)) (prd n ts) := fold_by n ts _ (by rw [by_length, trow_length, ht]) hs
    have e2 : prd n (t :: ts) = by_ (by_ (rnd n) (trow t)) (prd n ts) := fold_by n ts _ (by rw [by_length, trow_length, ht]) hs
    rw [e1, e2, by_rnd_left (fun y hy => by rw [← ht]; exact trow_mem t y hy), by_assoc hp.1 (by rw [hp.2, trow_length, ht])]

theorem prd_cons {n : Nat} {t : List Bool} {ts : List (List Bool)} (ht : tsz t = n) (h : ∀ t, t ∈ ts → tsz t = n) : prd n (t :: ts) = by_ (trow t) (prd n ts) := by
  have e2 : prd n (t :: ts) = by_ (by_ (rnd n) (trow t)) (prd n ts) := fold_by n ts _ (by rw [by_length, trow_length, ht]) h
  rw [e2, by_rnd_left (fun y hy => by rw [← ht]; exact trow_mem t y hy)]

theorem prd_rev (n : Nat) : ∀ (ts : List (List Bool)), (∀ t, t ∈ ts → tsz t = n) → by_ (prd n ts) (prd n ts.reverse) = rnd n
  | [], _ => by
    show by_ (rnd n) (rnd n) = rnd n
    have := by_rnd_right (X := rnd n)
    rwa [rnd_length] at this
  | t :: ts, h => by
    have ht : tsz t = n := h t (by simp)
    have hs : ∀ t', t' ∈ ts → tsz t' = n := fun t' ht' => h t' (List.mem_cons_of_mem _ ht')
    have hsr : ∀ t', t' ∈ ts.reverse → tsz t' = n := fun t' ht' => hs t' (by simpa using ht')
    have ih := prd_rev n ts hs
    have hA := prd_row n ts hs
    have hB := prd_row n ts.reverse hsr
    have hBT := isRow_by hB.1 (trow_row t) (by rw [trow_length, ht, hB.2])
    rw [List.reverse_cons, prd_snoc, prd_cons ht hs, by_assoc hBT (by rw [by_length, trow_length, ht, hA.2]), ← by_assoc (trow_row t) (by rw [trow_length, ht, hB.2]), ih,
      by_rnd_left (fun y hy => by rw [← ht]; exact trow_mem t y hy), trow_twice, ht]

/-- There, and back but for the turn. -/
def pal (ts : List (List Bool)) : List (List Bool) := ts ++ ts.dropLast.reverse

theorem pal_rev {ts : List (List Bool)} (h : 1 ≤ ts.length) : (pal ts).reverse = pal ts := by
  obtain ⟨dl, c, rfl⟩ : ∃ dl c, ts = dl ++ [c] := by
    rcases List.eq_nil_or_concat ts with rfl | ⟨l, b, rfl⟩
    · simp at h
    · exact ⟨l, b, by simp⟩
  simp [pal]

theorem pal_mem {n : Nat} {ts : List (List Bool)} (h : ∀ t, t ∈ ts → tsz t = n) : ∀ t, t ∈ pal ts → tsz t = n := by
  intro t ht
  rcases List.mem_append.1 ht with h' | h'
  · exact h t h'
  · exact h t ((List.dropLast_sublist ts).subset (by simpa using h'))

theorem pal_length {ts : List (List Bool)} (h : 1 ≤ ts.length) : (pal ts).length = 2 * ts.length - 1 := by
  simp [pal]; omega

theorem pal_twice {n : Nat} {ts : List (List Bool)} (hl : 1 ≤ ts.length) (h : ∀ t, t ∈ ts → tsz t = n) : by_ (prd n (pal ts)) (prd n (pal ts)) = rnd n := by
  have := prd_rev n (pal ts) (pal_mem h)
  rwa [pal_rev hl] at this

theorem pal_mir {ts : List (List Bool)} (hl : 1 ≤ ts.length) (q : List Bool) : Mir ((pal ts ++ [q]).map tpl) := by
  intro i hi
  have hlen : ((pal ts ++ [q]).map tpl).length = (pal ts).length + 1 := by simp
  rw [hlen] at hi ⊢
  have hi' : i < (pal ts).length := by omega
  have hk : (pal ts).length + 1 - 2 - i < (pal ts).length := by omega
  have e : (pal ts)[i] = (pal ts)[(pal ts).length + 1 - 2 - i] := by
    have h1 : (pal ts).reverse[i]'(by rw [List.length_reverse]; exact hi') = (pal ts)[(pal ts).length - 1 - i] := by rw [List.getElem_reverse]
    have h2 : (pal ts).reverse[i]'(by rw [List.length_reverse]; exact hi') = (pal ts)[i] := by
      congr 1
      exact pal_rev hl
    rw [← h2, h1]
    congr 1
  have g : ∀ k (hk : k < (pal ts).length), ((pal ts ++ [q]).map tpl).getD k [] = tpl (pal ts)[k] := by
    intro k hk
    rw [List.map_append]
    simp only [List.getD]
    rw [List.getElem?_append_left (by simpa using hk), List.getElem?_map, List.getElem?_eq_getElem hk]
    rfl
  rw [g i hi', g _ hk, e]

/-- The changes so far, when the next one to be told back is the d-th. -/
def sofar (ts : List (List Bool)) (d : Nat) : List (List Bool) := ts ++ (ts.dropLast.drop d).reverse

theorem sofar_start (ts : List (List Bool)) : sofar ts (ts.length - 1) = ts := by
  unfold sofar; rw [List.drop_of_length_le (by simp)]; simp

theorem sofar_end (ts : List (List Bool)) : sofar ts 0 = pal ts := by unfold sofar pal; simp

theorem sofar_step {ts : List (List Bool)} {d : Nat} (h : d < ts.length - 1) : sofar ts d = sofar ts (d + 1) ++ [ts[d]'(by omega)] := by
  have hd : d < ts.dropLast.length := by simp; omega
  unfold sofar
  rw [List.drop_eq_getElem_cons hd, List.reverse_cons, List.append_assoc, List.getElem_dropLast]

/-! memory -/

theorem owns_ne_ty {w : World} {base e n B : Nat} {v : Value} {xs : List Value} {c : Array Value} {t : TypeId} (h : w.ownsRow base e 1 v n xs) (hB : w.heap[B]? = some (.cells c t)) (hne : t ≠ e) : v.ownBlock ≠ some B := by
  rcases h.2 with ⟨rfl, _⟩ | ⟨g, cap, cur, rfl, _, hh, _⟩
  · intro h; cases h
  · intro h
    have e1 : g = B := Option.some.inj h
    subst e1
    rw [hB] at hh
    injection hh with hh
    injection hh with _ h2
    exact hne h2

theorem owns_set_other {w : World} {base e n B j : Nat} {v x : Value} {xs : List Value} (h : w.ownsRow base e 1 v n xs) (hne : v.ownBlock ≠ some B) : (w.setCell ⟨B, j, none⟩ x).ownsRow base e 1 v n xs := by
  refine ⟨h.1, ?_⟩
  rcases h.2 with h2 | ⟨g, cap, cur, rfl, hg, hh, r⟩
  · exact Or.inl h2
  · refine Or.inr ⟨g, cap, cur, rfl, hg, ?_, r⟩
    have : B ≠ g := fun e => hne (by rw [e]; rfl)
    simp [World.setCell, Array.getElem?_modify, this, hh]

/-- What the loop of TopMirror knows. -/
structure MirRel (w wr : World) (B n : Nat) (s : ByteArray) (g H : Nat) (vs : List Value) (u : Value) (us : List Value) (qs : List (List Bool)) : Prop where
  box : wr.heap[B]? = some (.cells #[.string s, .int .i64 n, u] 41)
  ll : LL wr w.heap.size u us (qs.map tpl)
  pre : us.take H = vs
  cells : ∀ j, j < H → wr.cell? ⟨g, j, none⟩ = some (vs.getD j undef)
  glt : g < wr.heap.size
  gty : ∃ cur, wr.heap[g]? = some (.cells cur 24)
  below : Below w.heap.size w wr

theorem MirRel.later {w wr w' : World} {B n : Nat} {s : ByteArray} {g H : Nat} {vs : List Value} {u : Value} {us : List Value} {qs : List (List Bool)} (h : MirRel w wr B n s g H vs u us qs) (hb : Below wr.heap.size wr w') : MirRel w w' B n s g H vs u us qs := by
  have hBl : B < wr.heap.size := (Array.getElem?_eq_some_iff.1 h.box).1
  obtain ⟨cur, hc⟩ := h.gty
  exact ⟨(hb.block B hBl).trans h.box, h.ll.below hb, h.pre, fun j hj => (hb.cell (p := ⟨g, j, none⟩) h.glt).trans (h.cells j hj), Nat.lt_of_lt_of_le h.glt hb.size, ⟨cur, (hb.block g h.glt).trans hc⟩, h.below.trans (hb.mono h.below.size)⟩

/-- One more list behind. -/
theorem MirRel.step {w wr w5 : World} {B n : Nat} {s : ByteArray} {g H : Nat} {vs : List Value} {u v' x : Value} {us : List Value} {qs : List (List Bool)} {t : List Bool} (h : MirRel w wr B n s g H vs u us qs) (hB : w.heap.size ≤ B) (hH : H ≤ us.length)
    (hx : wr.ownsRow w.heap.size 3 1 x (tpl t).length ((tpl t).map (Value.int .i64)))
    (hown : w5.ownsRow w.heap.size 24 1 v' (us.length + 1) (us ++ [x])) (hg : wr.grownBy w5 u.ownBlock) (hk : v'.ownBlock = u.ownBlock ∨ (v'.ownBlock = some wr.heap.size ∧ wr.grownBy w5 none)) :
    MirRel w (w5.setCell ⟨B, 2, none⟩ v') B n s g H vs v' (us ++ [x]) (qs ++ [t]) ∧ w5.heap[B]? = some (.cells #[.string s, .int .i64 n, u] 41) := by
  have hBl : B < wr.heap.size := (Array.getElem?_eq_some_iff.1 h.box).1
  have hnB : u.ownBlock ≠ some B := owns_ne_ty h.ll.row h.box (by decide)
  have hbox : w5.heap[B]? = some (.cells #[.string s, .int .i64 n, u] 41) := (hg.block B hBl (fun e => hnB e.symm)).trans h.box
  have hnB' : v'.ownBlock ≠ some B := owns_ne_ty hown hbox (by decide)
  obtain ⟨cur, hcur⟩ := h.gty
  have hgB : g ≠ B := by
    intro e
    subst e
    rw [h.box] at hcur
    injection hcur with hcur
    injection hcur with _ h2
    exact absurd h2 (by decide)
  -- the block of the first header
  have hgt : ∃ cur', w5.heap[g]? = some (.cells cur' 24) := by
    by_cases e : u.ownBlock = some g
    · rcases hk with hk | ⟨_, hk⟩
      · rcases hown.2 with ⟨rfl, _⟩ | ⟨g', cap', cur', rfl, _, hh, _⟩
        · rw [← hk] at e; cases e
        · have : g' = g := by rw [← hk] at e; exact Option.some.inj e
          subst this
          exact ⟨cur', hh⟩
      · exact ⟨cur, (hk.block g h.glt (by simp)).trans hcur⟩
    · exact ⟨cur, (hg.block g h.glt (fun e' => e e'.symm)).trans hcur⟩
  have hgl5 : g < w5.heap.size := Nat.lt_of_lt_of_le h.glt hg.size
  have hcells : ∀ j, j < H → w5.cell? ⟨g, j, none⟩ = some (vs.getD j undef) := by
    intro j hj
    by_cases e : u.ownBlock = some g
    · rcases hk with hk | ⟨_, hk⟩
      · have h1 := hown.cells (g := g) (hk.trans e) j (us.getD j undef) (by rw [List.getElem?_append_left (by omega)]; simp [List.getD, List.getElem?_eq_getElem (show j < us.length by omega)])
        rw [Addr.add_lit, Nat.zero_add] at h1
        rw [h1, ← h.pre]
        simp [List.getD, hj]
      · exact (World.cell?_of_block (w := wr) (a := ⟨g, j, none⟩) (hk.block g h.glt (by simp))).trans (h.cells j hj)
    · exact (World.cell?_of_block (w := wr) (a := ⟨g, j, none⟩) (hg.block g h.glt (fun e' => e e'.symm))).trans (h.cells j hj)
  have hll : LL w5 w.heap.size v' (us ++ [x]) ((qs ++ [t]).map tpl) := by
    rw [List.map_append]
    exact ⟨by rw [List.length_append]; exact hown, OwnAll.snoc (owns_kept_ty hx h.ll.row hg) (h.ll.all.mono (fun _ _ _ h' => owns_kept_ty h' h.ll.row hg))⟩
  refine ⟨⟨?_, ⟨owns_set_other hll.row hnB', hll.all.mono (fun _ _ _ h' => owns_set_other h' (owns_ne_ty h' hbox (by decide)))⟩, ?_, ?_, by simp [World.setCell]; exact hgl5, ?_, ?_⟩, hbox⟩
  · simp [World.setCell, Array.getElem?_modify, hbox]
  · rw [List.take_append_of_le_length hH]; exact h.pre
  · intro j hj
    rw [World.cell?_setCell_other _ _ _ _ (by intro e; simp only [Addr.mk.injEq] at e; exact hgB e.1.symm)]
    exact hcells j hj
  · obtain ⟨c', hc'⟩ := hgt
    exact ⟨c', by simp [World.setCell, Array.getElem?_modify, hgB.symm, hc']⟩
  · have hb5 : Below w.heap.size w w5 := h.below.grown hg h.below.size (fun g' hg' => (h.ll.row.lt g' hg').1)
    exact hb5.setCell (by exact hB) _

end Go.Proofs.Ytfnmkbcdchnnnaa

/- Plain: the rows of a touch are its leads' heads, changed by the rows of the first lead. -/
namespace Go.Proofs.Ytfnmkbcdchnnnaa
open Go.RowKit

theorem touchRows_snoc (Hs P : List (List Int)) (h : List Int) : touchRows (Hs ++ [h]) P = touchRows Hs P ++ P.map (fun p => by_ h p) := by
  simp [touchRows, List.flatMap_append]

theorem take_more {α : Type} (T : List α) (a K : Nat) : T.take (a + K) = T.take a ++ (T.drop a).take K := by
  rw [List.take_add]

theorem prd_append {n : Nat} (a b : List (List Bool)) (ha : ∀ t, t ∈ a → tsz t = n) (hb : ∀ t, t ∈ b → tsz t = n) : prd n (a ++ b) = by_ (prd n a) (prd n b) := by
  rw [← fold_by n b (prd n a) (prd_row n a ha).2 hb]
  simp [prd, List.foldl_append]

/-- The rows of a touch whose leads have all changes but the last in common. -/
theorem touch_rows {n N K : Nat} {ts F : List (List Bool)} (hK : 1 ≤ K) (hts : ts.length = K) (hF : F.length = N * K)
    (hFn : ∀ t, t ∈ F → tsz t = n) (htn : ∀ t, t ∈ ts → tsz t = n) (hd : ∀ m q, m < N → q < K → (F.drop (m * K)).take q = ts.take q) :
    ∀ m, m ≤ N → (leadTo n F (N * K)).take (m * K) = touchRows (headsOf (leadTo n F (N * K)) K m) (ldr n ts)
  | 0, _ => by simp [headsOf, touchRows]
  | m + 1, hm => by
    have ih := touch_rows hK hts hF hFn htn hd m (by omega)
    rw [headsOf_snoc, touchRows_snoc, ← ih, Nat.succ_mul, take_more]
    congr 1
    have hmK : m * K + K ≤ N * K := by rw [← Nat.succ_mul]; exact Nat.mul_le_mul_right _ hm
    refine List.ext_getElem (by simp [leadTo_length, ldr_length, hts]; omega) (fun q h1 h2 => ?_)
    have hq : q < K := by rw [List.length_take] at h1; omega
    rw [List.getElem_take, List.getElem_drop, List.getElem_map]
    have g1 := leadTo_get (n := n) (ts := F) (k := N * K) (j := m * K + q) (by omega)
    have g2 := leadTo_get (n := n) (ts := F) (k := N * K) (j := m * K) (by omega)
    have g3 := leadTo_get (n := n) (ts := ts) (k := ts.length) (j := q) (by omega)
    have l1 : m * K + q < (leadTo n F (N * K)).length := by rw [leadTo_length]; omega
    have l3 : q < (leadTo n ts ts.length).length := by rw [leadTo_length]; omega
    rw [List.getD_eq_getElem?_getD, List.getElem?_eq_getElem l1, Option.getD_some] at g1
    rw [List.getD_eq_getElem?_getD, List.getElem?_eq_getElem l3, Option.getD_some] at g3
    have e3 : (ldr n ts)[q]'(by rw [ldr_length]; omega) = prd n (ts.take q) := by
      rw [← g3]
      simp [ldr]
    rw [g1, e3, g2, take_more, hd m q (by omega) hq]
    exact prd_append _ _ (fun t ht => hFn t (List.mem_of_mem_take ht)) (fun t ht => htn t (List.mem_of_mem_take ht))

/-- Where a lead's changes lie among all. -/
theorem flat_drop {α : Type} {K : Nat} : ∀ (G : List (List α)) (m : Nat), (∀ g, g ∈ G → g.length = K) → (h : m < G.length) → (G.flatten).drop (m * K) = G[m] ++ (G.drop (m + 1)).flatten
  | [], m, _, h => by simp at h
  | g :: G, 0, _, _ => by simp
  | g :: G, m + 1, hg, h => by
    have hl : g.length = K := hg g (by simp)
    have ih := flat_drop G m (fun g' h' => hg g' (List.mem_cons_of_mem _ h')) (by simpa using h)
    rw [List.flatten_cons, Nat.succ_mul, Nat.add_comm, ← List.drop_drop, List.drop_append_of_le_length (by omega), ← hl, List.drop_length, List.nil_append, hl, ih]
    rfl

theorem flat_length {α : Type} {K : Nat} : ∀ (G : List (List α)), (∀ g, g ∈ G → g.length = K) → G.flatten.length = G.length * K
  | [], _ => by simp
  | g :: G, hg => by
    rw [List.flatten_cons, List.length_append, flat_length G (fun g' h' => hg g' (List.mem_cons_of_mem _ h')), hg g (by simp), List.length_cons, Nat.succ_mul, Nat.add_comm]

end Go.Proofs.Ytfnmkbcdchnnnaa

/- Calls in memory; contracts: call.Sign's rest, truth.ByHeads' closure, slices.ContainsFunc where none is found. -/
namespace Go.Proofs.Ytfnmkbcdchnnnaa
open Go.RowKit

/-- The slice value v reads as calls: signs, and changes as places. -/
def CallsAt (w : World) (v : Value) (cs : List (Int × List (List Int))) : Prop :=
  ∃ b off cap, v = .slice (some ⟨b, off, none⟩) cs.length cap ∧ b < w.heap.size ∧ cs.length ≤ cap ∧ cap ≤ 9223372036854775807 ∧
    ∀ k, k < cs.length → ∃ u, w.cell? ⟨b, off + k * 2, none⟩ = some (.int .i32 (cs.getD k (0, [])).1) ∧ w.cell? ⟨b, off + k * 2 + 1, none⟩ = some u ∧ IntsAll w u (cs.getD k (0, [])).2

theorem CallsAt.below {w w' : World} {v : Value} {cs : List (Int × List (List Int))} (h : CallsAt w v cs) (hb : Below w.heap.size w w') : CallsAt w' v cs := by
  obtain ⟨b, off, cap, h1, h2, h3, h4, h5⟩ := h
  refine ⟨b, off, cap, h1, Nat.lt_of_lt_of_le h2 hb.size, h3, h4, fun k hk => ?_⟩
  obtain ⟨u, a1, a2, a3⟩ := h5 k hk
  exact ⟨u, (hb.cell (p := ⟨b, off + k * 2, none⟩) h2).trans a1, (hb.cell (p := ⟨b, off + k * 2 + 1, none⟩) h2).trans a2, a3.below hb⟩

theorem Try.size85 : (Try.prog.info? 85).map (·.size) = some 2 := by kernel_rfl

end Go.Proofs.Ytfnmkbcdchnnnaa

/- Contracts: call.Sign of a small letter; call.find where none is found. -/
namespace Go.Proofs.Ytfnmkbcdchnnnaa
open Go.RowKit

set_option maxRecDepth 20000 in
set_option maxHeartbeats 1000000 in
theorem cdigit_no (r : Int) (w : World) (h1 : 97 ≤ r) (h2 : r ≤ 122) : Calls Try.prog 92 #[.int .i32 r] w fun e w' => e = .returned (.bool false) ∧ w = w' := by
  have h3 : ¬ r ≤ 57 := by omega
  have h4 : 48 ≤ r := by omega
  go_enter Try.func92, Try.ntmps92
  go_wp2
  go_ret
  first | exact ⟨rfl, rfl⟩ | exact ⟨by simp; omega, rfl⟩

set_option maxRecDepth 20000 in
set_option maxHeartbeats 1000000 in
theorem sign_ok (r : Int) (w : World) (h1 : 97 ≤ r) (h2 : r ≤ 122) : Calls Try.prog 72 #[.int .i32 r] w fun e w' => e = .returned (.bool true) ∧ w = w' := by
  have HD := hide (cdigit_no r w h1 h2)
  have e1 : (r == 40) = false := by rw [beq_eq_false_iff_ne]; omega
  have e2 : (r == 41) = false := by rw [beq_eq_false_iff_ne]; omega
  have h3 : ¬ 127 ≤ r := by omega
  have h4 : 33 ≤ r := by omega
  have h5 : r ≤ 12287 := by omega
  go_enter Try.func72, Try.ntmps72
  go_wp2_with fail
  refine HD.out.mono ?_
  rintro e w' ⟨rfl, rfl⟩
  go_wp2
  go_ret
  first | exact ⟨rfl, rfl⟩ | exact ⟨by simp; omega, rfl⟩

set_option maxRecDepth 20000 in
set_option maxHeartbeats 1000000 in
theorem isSign_ok (r s : Int) (u : Value) (B : Nat) (w : World) (hB : w.cell? ⟨B, 0, none⟩ = some (.int .i32 s)) (hb : B < w.heap.size) (hne : r ≠ s) :
    Calls Try.prog 94 #[.agg #[.int .i32 r, u], .pointer (some ⟨B, 0, none⟩)] w fun e w' => e = .returned (.bool false) ∧ Below w.heap.size w w' := by
  have hne' : (r == s) = false := by rw [beq_eq_false_iff_ne]; exact hne
  have hB1 : Below w.heap.size w (w.alloc (.cells #[.int .i32 r, u] 85)) := (Below.refl _ _).alloc (Nat.le_refl _) _
  have g1 : (w.alloc (.cells #[.int .i32 r, u] 85)).cell? ⟨B, 0, none⟩ = some (.int .i32 s) := (hB1.cell (p := ⟨B, 0, none⟩) hb).trans hB
  have g2 : (w.alloc (.cells #[.int .i32 r, u] 85)).cell? ⟨w.heap.size, 0, none⟩ = some (.int .i32 r) := by
    have h9 := heap_alloc_new w (.cells #[.int .i32 r, u] 85)
    unfold World.cell?
    simp only [h9]
    rfl
  clear hB
  go_enter Try.func94, Try.ntmps94
  go_wp2
  go_ret
  exact ⟨rfl, hB1⟩

set_option maxRecDepth 20000 in
set_option maxHeartbeats 1000000 in
theorem indexSign_none (s : Int) (B : Nat) (b off m cap : Nat) (w : World) (hB : w.cell? ⟨B, 0, none⟩ = some (.int .i32 s)) (hb : B < w.heap.size) (hbl : b < w.heap.size)
    (hcell : ∀ k, k < m → ∃ r u, w.cell? ⟨b, off + k * 2, none⟩ = some (.int .i32 r) ∧ w.cell? ⟨b, off + k * 2 + 1, none⟩ = some u ∧ r ≠ s ∧ u.oneCell' = true) (hm3 : m ≤ 1000) :
    Calls Try.prog 93 #[.slice (some ⟨b, off, none⟩) m cap, .func (.func 94) #[] #[.pointer (some ⟨B, 0, none⟩)]] w fun e w' => e = .returned (.int .i64 (-1)) ∧ Below w.heap.size w w' := by
  have HC := hide hcell
  have HB := hide hB
  clear hcell hB
  go_enter Try.func93, Try.ntmps93
  go_wp2
  go_loopw [8] (fun i wr => ∃ k : Nat, k ≤ m ∧ i = .int .i64 k ∧ Below w.heap.size w wr) (fun i _ => m - (intOf i).toNat)
  case atStart => exact ⟨0, by omega, rfl, Below.refl _ _⟩
  case round =>
    obtain ⟨k, hk, rfl, hbw⟩ := hrel
    have hbs := hbw.size
    by_cases hlt : k < m
    · obtain ⟨r, u, a1, a2, a3, a4⟩ := HC.out k hlt
      have g1 : wr.cell? ⟨b, off + k * 2, none⟩ = some (.int .i32 r) := (hbw.cell (by exact hbl)).trans a1
      have g2 : wr.cell? ⟨b, off + k * 2 + 1, none⟩ = some u := (hbw.cell (p := ⟨b, off + k * 2 + 1, none⟩) (by exact hbl)).trans a2
      have HK := hide (isSign_ok r s u B wr ((hbw.cell (p := ⟨B, 0, none⟩) hb).trans HB.out) (by omega) a3)
      clear a1 a2 a3
      go_wp2_with fail
      refine HK.out.mono ?_
      rintro e w2 ⟨rfl, hb2⟩
      have hB2 : Below w.heap.size w w2 := hbw.trans (hb2.mono hbs)
      clear hb2
      go_wp2
      go_roundw
      case rel => exact ⟨k + 1, by omega, by go_num, hB2⟩
      case measure => simp [intOf]; omega
    · go_wp2
      go_ret
      exact ⟨rfl, hbw⟩

set_option maxRecDepth 20000 in
set_option maxHeartbeats 1000000 in
theorem find_none (s : Int) (b off m cap : Nat) (w : World) (hbl : b < w.heap.size)
    (hcell : ∀ k, k < m → ∃ r u, w.cell? ⟨b, off + k * 2, none⟩ = some (.int .i32 r) ∧ w.cell? ⟨b, off + k * 2 + 1, none⟩ = some u ∧ r ≠ s ∧ u.oneCell' = true) (hm3 : m ≤ 1000) :
    Calls Try.prog 73 #[.slice (some ⟨b, off, none⟩) m cap, .int .i32 s] w fun e w' => e = .returned (.int .i64 (-1)) ∧ Below w.heap.size w w' := by
  have hmf : ∀ (fn : Fn) (first cap : Array Value) (w : World), (Instr.makeFunc fn first cap).run Try.prog w = .ok (.func fn first cap) w := fun _ _ _ _ => rfl
  have hB1 : Below w.heap.size w (w.alloc (.cells #[.int .i32 s] 21)) := (Below.refl _ _).alloc (Nat.le_refl _) _
  have h9 := heap_alloc_new w (.cells #[.int .i32 s] 21)
  have HI := hide (indexSign_none s w.heap.size b off m cap (w.alloc (.cells #[.int .i32 s] 21)) (by unfold World.cell?; simp only [h9]; rfl) (by simp) (by simp; omega) (fun k hk => by
    obtain ⟨r, u, a1, a2, a3⟩ := hcell k hk
    exact ⟨r, u, (hB1.cell (p := ⟨b, off + k * 2, none⟩) hbl).trans a1, (hB1.cell (p := ⟨b, off + k * 2 + 1, none⟩) hbl).trans a2, a3⟩) hm3)
  clear hcell h9
  go_enter Try.func73, Try.ntmps73
  go_wp2_with fail
  refine HI.out.mono ?_
  rintro e w2 ⟨rfl, hb2⟩
  have hB2 : Below w.heap.size w w2 := hB1.trans (hb2.mono (by simp))
  clear hb2 hB1
  go_wp2
  go_ret
  exact ⟨rfl, hB2⟩

set_option maxRecDepth 20000 in
set_option maxHeartbeats 2000000 in
theorem checkOne_ok (sn : ByteArray) (n : Int) (vp : Option Addr) (k vc : Nat) (s : Int) (cv : Value) (css : List (List Int)) (b off m cap : Nat) (w : World) (h1 : 1 ≤ n) (h2 : n ≤ 12) (hs1 : 97 ≤ s) (hs2 : s ≤ 122) (hbl : b < w.heap.size)
    (hcell : ∀ k, k < m → ∃ r u, w.cell? ⟨b, off + k * 2, none⟩ = some (.int .i32 r) ∧ w.cell? ⟨b, off + k * 2 + 1, none⟩ = some u ∧ r ≠ s ∧ u.oneCell' = true) (hm3 : m ≤ 1000)
    (hcv : IntsAll w cv css) (hl : css.length ≤ k) (hok : ∀ j, j < css.length → okc n 0 (css.getD j []) = true) :
    Calls Try.prog 53 #[meth sn n (.slice vp k vc), .slice (some ⟨b, off, none⟩) m cap, .agg #[.int .i32 s, cv]] w fun e w' => e = .returned (.int .i64 0) ∧ Below w.heap.size w w' := by
  obtain ⟨cp, cc, rfl⟩ := hcv.len
  have hBW : Below w.heap.size w ((w.alloc (.cells #[.string sn, .int .i64 n, .slice vp k vc] 41)).alloc (.cells #[.int .i32 s, .slice cp css.length cc] 85)) := ((Below.refl _ _).alloc (Nat.le_refl _) _).alloc (by simp) _
  have hbox := ((Box.start w sn n (.slice vp k vc) 41).below ((Below.refl _ _).alloc (Nat.le_refl _) (.cells #[.int .i32 s, .slice cp css.length cc] 85)))
  have h9 := heap_alloc_new (w.alloc (.cells #[.string sn, .int .i64 n, .slice vp k vc] 41)) (.cells #[.int .i32 s, .slice cp css.length cc] 85)
  rw [show (w.alloc (.cells #[.string sn, .int .i64 n, .slice vp k vc] 41)).heap.size = w.heap.size + 1 from by simp] at h9
  have c0 : ((w.alloc (.cells #[.string sn, .int .i64 n, .slice vp k vc] 41)).alloc (.cells #[.int .i32 s, .slice cp css.length cc] 85)).cell? ⟨w.heap.size + 1, 0, none⟩ = some (.int .i32 s) := by
    unfold World.cell?; simp only [h9]; rfl
  have c1 : ((w.alloc (.cells #[.string sn, .int .i64 n, .slice vp k vc] 41)).alloc (.cells #[.int .i32 s, .slice cp css.length cc] 85)).cell? ⟨w.heap.size + 1, 1, none⟩ = some (.slice cp css.length cc) := by
    unfold World.cell?; simp only [h9]; rfl
  have HSG := hide (fun W => sign_ok s W hs1 hs2)
  have HFD := hide (fun W (hb : Below w.heap.size w W) => find_none s b off m cap W (Nat.lt_of_lt_of_le hbl hb.size) (fun k hk => by
    obtain ⟨r, u, a1, a2, a3⟩ := hcell k hk
    exact ⟨r, u, (hb.cell (p := ⟨b, off + k * 2, none⟩) hbl).trans a1, (hb.cell (p := ⟨b, off + k * 2 + 1, none⟩) hbl).trans a2, a3⟩) hm3)
  have HCV := hide hcv
  have HOK := hide hok
  have HBX := hide hbox
  clear hcell hcv hok h9 hbox
  unfold meth
  go_enter Try.func53, Try.ntmps53
  go_wp2_with fail
  refine (HSG.out _).mono ?_
  rintro e w' ⟨rfl, rfl⟩
  go_wp2_with fail
  refine (HFD.out _ hBW).mono ?_
  rintro e w2 ⟨rfl, hb2⟩
  have hB2 : Below w.heap.size w w2 := hBW.trans (hb2.mono hBW.size)
  have d1 : w2.cell? ⟨w.heap.size + 1, 1, none⟩ = some (.slice cp css.length cc) := (hb2.cell (p := ⟨w.heap.size + 1, 1, none⟩) (by simp)).trans c1
  have hx2 := HBX.out.below hb2
  have e1 := hx2.c1
  have e2 := hx2.c2
  have hgt : ¬ (((k : Nat) : Int) < ((css.length : Nat) : Int)) := by omega
  have hgd : decide (((k : Nat) : Int) < ((css.length : Nat) : Int)) = false := decide_eq_false hgt
  have hgn : decide (k < css.length) = false := decide_eq_false (by omega)
  have HB2 := hide hB2
  have HE1 := hide e1
  clear c0 c1 hb2 HSG HFD hBW HBX hx2 hB2 hl hgt
  go_wp2
  go_loopw [32] (fun i wr => ∃ j : Nat, j ≤ css.length ∧ i = .int .i64 j ∧ Hid (Below w.heap.size w wr) ∧ Hid (wr.cell? ⟨w.heap.size, 1, none⟩ = some (.int .i64 n))) (fun i _ => css.length - (intOf i).toNat)
  case atStart => exact ⟨0, by omega, rfl, HB2, HE1⟩
  case round =>
    clear e1 HB2 HE1 d1 e2
    obtain ⟨j, hj, rfl, hbw, hen⟩ := hrel
    have hB2 := hbw.out
    have e1 := hen.out
    by_cases hlt : j < css.length
    · obtain ⟨b3, off3, cap3, he, hb3, hlc3, hcm3, hcell3⟩ := (HCV.out.below hB2).cell (by omega)
      simp only [Value.slice.injEq] at he
      obtain ⟨rfl, he2, rfl⟩ := he
      clear he2
      obtain ⟨q, c, hce, hint⟩ := hcell3 j hlt
      have HPC := hide (pcheck_any n _ _ _ h1 h2 hint.out)
      rw [show pck n (css.getD j []) = 0 from by unfold pck; rw [if_pos (HOK.out j hlt)]] at HPC
      clear hint hcell3
      generalize (css.getD j []).length = pl at hce HPC
      go_wp2_with fail
      refine HPC.out.mono ?_
      rintro e w' ⟨rfl, rfl⟩
      go_wp2
      go_roundw
      case rel => exact ⟨j + 1, by omega, by go_num, hbw, hen⟩
      case measure => simp [intOf]; omega
    · go_wp2
      go_ret
      exact ⟨rfl, hB2⟩

end Go.Proofs.Ytfnmkbcdchnnnaa

/- Contract: call.Check, where all may be. -/
namespace Go.Proofs.Ytfnmkbcdchnnnaa
open Go.RowKit

theorem below_drewJ (w : World) : Below w.heap.size w w.drew := (Below.refl _ _).drew

/-- What calls must be. -/
structure CallsOk (n : Int) (k : Nat) (cs : List (Int × List (List Int))) : Prop where
  sign : ∀ j, j < cs.length → 97 ≤ (cs.getD j (0, [])).1 ∧ (cs.getD j (0, [])).1 ≤ 122
  dist : ∀ i j, i < j → j < cs.length → (cs.getD i (0, [])).1 ≠ (cs.getD j (0, [])).1
  few : ∀ j, j < cs.length → (cs.getD j (0, [])).2.length ≤ k
  ok : ∀ j, j < cs.length → ∀ q, q < (cs.getD j (0, [])).2.length → okc n 0 ((cs.getD j (0, [])).2.getD q []) = true

set_option maxRecDepth 20000 in
set_option maxHeartbeats 4000000 in
theorem ccheck_ok (s : ByteArray) (n : Nat) (vp : Option Addr) (vc : Nat) (css : List (List Int)) (cv : Value) (cs : List (Int × List (List Int))) (w : World) (hs : s.size ≤ 9223372036854775807) (hn : nm s = true) (h1 : 2 ≤ n) (h2 : n ≤ 12) (hl1 : 1 ≤ css.length) (hl2 : css.length ≤ 200)
    (hv : IntsAll w (.slice vp css.length vc) css) (hok : ∀ k, k < css.length → okc n 0 (css.getD k []) = true) (hcv : CallsAt w cv cs) (hco : CallsOk n css.length cs) (hc1 : 1 ≤ cs.length) (hc2 : cs.length ≤ 8) :
    Calls Try.prog 40 #[meth s n (.slice vp css.length vc), cv] w fun e w' => e = .returned (.int .i64 0) ∧ Below w.heap.size w w' := by
  have hB0 : Below w.heap.size w (w.alloc (.cells #[.string s, .int .i64 n, .slice vp css.length vc] 41)) := (Below.refl _ _).alloc (Nat.le_refl _) _
  have HMC := hide (mcheck_ok s n (.slice vp css.length vc) css (w.alloc (.cells #[.string s, .int .i64 n, .slice vp css.length vc] 41)) hs hn h1 h2 hl1 hl2 (hv.below hB0) hok)
  have hbox := Box.start w s n (.slice vp css.length vc) 41
  obtain ⟨b, off, cap, rfl, hb, hlc, hcm, hcell⟩ := hcv
  have HC := hide hcell
  have HCO := hide hco
  have HBX := hide hbox
  clear hn hv hok hco hcell hbox
  generalize css.length = K at *
  unfold meth at HMC
  unfold meth
  go_enter Try.func40, Try.ntmps40
  go_wp2_with fail
  refine HMC.out.mono ?_
  rintro e w1 ⟨rfl, hb1⟩
  have hB1 : Below w.heap.size w w1 := hB0.trans (hb1.mono (by simp))
  have HX1 := hide (HBX.out.below hb1)
  clear HMC HBX hb1 hB0
  go_wp2
  go_loopw [24] (fun i wr => ∃ j : Nat, j ≤ cs.length ∧ i = .int .i64 j ∧ Hid (Box wr w.heap.size s n (.slice vp K vc)) ∧ Below w.heap.size w wr) (fun i _ => cs.length - (intOf i).toNat)
  case atStart => exact ⟨0, by omega, rfl, HX1, hB1⟩
  case round =>
    clear HX1 hB1
    obtain ⟨j, hj, rfl, hX, hbw⟩ := hrel
    have hbs := hbw.size
    by_cases hlt : j < cs.length
    · obtain ⟨u, a1, a2, a3⟩ := HC.out j hlt
      have g1 : wr.cell? ⟨b, off + j * 2, none⟩ = some (.int .i32 (cs.getD j (0, [])).1) := (hbw.cell (by exact hb)).trans a1
      have g2 : wr.cell? ⟨b, off + j * 2 + 1, none⟩ = some u := (hbw.cell (p := ⟨b, off + j * 2 + 1, none⟩) (by exact hb)).trans a2
      obtain ⟨up, uc, rfl⟩ := a3.len
      have HCK := hide (fun W (hW : Below w.heap.size w W) => checkOne_ok s n vp K vc (cs.getD j (0, [])).1 (.slice up (cs.getD j (0, [])).2.length uc) (cs.getD j (0, [])).2 b off j cap W (by omega) (by omega) (HCO.out.sign j hlt).1 (HCO.out.sign j hlt).2 (Nat.lt_of_lt_of_le hb hW.size) (fun i hi => by
        obtain ⟨u', b1, b2, b3⟩ := HC.out i (by omega)
        obtain ⟨p', c', e'⟩ := b3.len
        exact ⟨_, u', (hW.cell (p := ⟨b, off + i * 2, none⟩) hb).trans b1, (hW.cell (p := ⟨b, off + i * 2 + 1, none⟩) hb).trans b2, HCO.out.dist i j hi hlt, by rw [e']; rfl⟩) (by omega) (a3.below hW) (HCO.out.few j hlt) (HCO.out.ok j hlt))
      clear a1 a2 a3
      generalize (cs.getD j (0, [])).1 = sg at *
      generalize (cs.getD j (0, [])).2.length = ul at *
      go_upto_region 9 with fail
      have hXA := hX.out.below ((Below.refl wr.heap.size wr).alloc (Nat.le_refl _) (.cells #[.int .i32 sg, .slice up ul uc] 85))
      have h9 := heap_alloc_new wr (.cells #[.int .i32 sg, .slice up ul uc] 85)
      have hBA : Below w.heap.size w (wr.alloc (.cells #[.int .i32 sg, .slice up ul uc] 85)) := hbw.alloc hbs _
      have hRA : wr.heap.size < (wr.alloc (.cells #[.int .i32 sg, .slice up ul uc] 85)).heap.size := by simp
      have d0 : (wr.alloc (.cells #[.int .i32 sg, .slice up ul uc] 85)).cell? ⟨wr.heap.size, 0, none⟩ = some (.int .i32 sg) := by unfold World.cell?; simp only [h9]; rfl
      have d1 : (wr.alloc (.cells #[.int .i32 sg, .slice up ul uc] 85)).cell? ⟨wr.heap.size, 1, none⟩ = some (.slice up ul uc) := by unfold World.cell?; simp only [h9]; rfl
      have b0 := hXA.c0
      have b1 := hXA.c1
      have b2 := hXA.c2
      have hbl := hXA.lt
      have HXA := hide hXA
      clear h9 g1 g2 hX hXA
      generalize (wr.alloc (.cells #[.int .i32 sg, .slice up ul uc] 85)) = WA at *
      generalize wr.heap.size = RA at *
      refine wp_region_held_drew (S := fun W' => Below WA.heap.size WA W') (by kernel_rfl) (below_drewJ WA) (fun hS => ?_)
      refine wpAnyH_take (i := 0) (v := .agg #[.string s, .int .i64 (n : Int), .slice vp K vc]) rfl (by kernel_rfl) (by kernel_rfl) (by kernel_rfl) (fun _ _ _ h => h) (Or.inl ⟨by kernel_rfl, fun w' hS' => by have q0 := (Below.cell hS' (p := ⟨w.heap.size, 0, none⟩) (by exact hbl)).trans b0; have q1 := (Below.cell hS' (p := ⟨w.heap.size, 1, none⟩) (by exact hbl)).trans b1; have q2 := (Below.cell hS' (p := ⟨w.heap.size, 2, none⟩) (by exact hbl)).trans b2; clear hS'; go_simp⟩) hS ?_
      refine wpAnyH_take (i := 1) (v := .slice (some ⟨b, off, none⟩) cs.length cap) rfl (by kernel_rfl) (by kernel_rfl) (by kernel_rfl) (fun _ _ _ h => h) (Or.inl ⟨by kernel_rfl, fun w' hS' => by clear hS'; go_simp⟩) hS ?_
      refine wpAnyH_take (i := 2) (v := .int .i64 (j : Int)) rfl (by kernel_rfl) (by kernel_rfl) (by kernel_rfl) (fun _ _ _ h => h) (Or.inl ⟨by kernel_rfl, fun w' hS' => by clear hS'; go_simp⟩) hS ?_
      refine wpAnyH_take (i := 3) (v := .slice (some ⟨b, off, none⟩) j cap) rfl (by kernel_rfl) (by kernel_rfl) (by kernel_rfl) (fun _ _ _ h => h) (Or.inl ⟨by kernel_rfl, fun w' hS' => by clear hS'; go_simp; intro h0; exact absurd h0 (by omega)⟩) hS ?_
      refine wpAnyH_take (i := 4) (v := .agg #[.int .i32 sg, .slice up ul uc]) rfl (by kernel_rfl) (by kernel_rfl) (by kernel_rfl) (fun _ _ _ h => h) (Or.inl ⟨by kernel_rfl, fun w' hS' => by have q0 := (Below.cell hS' (p := ⟨RA, 0, none⟩) (by exact hRA)).trans d0; have q1 := (Below.cell hS' (p := ⟨RA, 1, none⟩) (by exact hRA)).trans d1; clear hS'; go_simp⟩) hS ?_
      refine wpAnyH_ready (rs := [5]) (by kernel_rfl) (by simp) ?_
      refine AllReadyH.cons rfl (fun K hK => ?_) AllReadyH.nil
      go_simp
      have hS0 := below_drewJ WA
      refine (HCK.out WA.drew (hBA.trans (hS0.mono hBA.size))).mono ?_
      rintro ex wo ⟨rfl, hbo⟩
      have hSo : Below WA.heap.size WA wo := hS0.trans (hbo.mono hS0.size)
      refine hK.out _ _ hSo (fun hS => ?_)
      clear hK
      refine wpAnyH_take (i := 6) (v := .int .i64 0) rfl (by kernel_rfl) (by kernel_rfl) (by kernel_rfl) (fun _ _ _ h => h) (Or.inl ⟨by kernel_rfl, fun w' hS' => by clear hS'; go_simp⟩) hS ?_
      refine wpAnyH_done (by kernel_rfl) ?_ _
      have HXo := hide (HXA.out.below hSo)
      have hBo : Below w.heap.size w wo := hBA.trans (hSo.mono hBA.size)
      clear hSo hbo hS0 HCK HXA
      go_wp2
      go_roundw
      case rel => exact ⟨j + 1, by omega, by go_num, HXo, hBo⟩
      case measure => simp [intOf]; omega
    · go_wp2
      go_ret
      exact ⟨rfl, hbw⟩

end Go.Proofs.Ytfnmkbcdchnnnaa
