/- Joined: TtF, TtR, Course, MethOf, LdR, SbX, SbY, SbZ. -/
import Derived.Test.YtoiiadiimfohiaaJ13
import Derived.Test.YtoiiadiimfohiaaJ9
import Derived.Test.YtoiiadiimfohiaaJ4
import Derived.Test.YtoiiadiimfohiaaJ10
import Derived.Test.YtoiiadiimfohiaaJ11
import Derived.Test.YtoiiadiimfohiaaJ7
import Derived.BigQuiet
/- Contract: truth.ByHeads, over what call.Rows tells. -/
namespace Go.Proofs.Ytoiiadiimfohiaa
open Go.RowKit

theorem cell_of' {w : World} {b : Nat} {x : Value} {t : TypeId} (h : w.heap[b]? = some (.cells #[x] t)) : w.cell? ⟨b, 0, none⟩ = some x := by simp [World.cell?, h]

def ByPost (n : Nat) (P Hs : List (List Int)) (w : World) (e : Ending) (w' : World) : Prop :=
  ∃ t : Bool, e = .returned (.tuple #[.bool t, .int .i64 0]) ∧ (t = true ↔ P.Nodup ∧ Hs.Nodup ∧ Hs.Pairwise (fun h h' => by_ (un h) h' ∉ hds n P)) ∧ Below w.heap.size w w'

theorem headsOf_length (T : List (List Int)) (k N : Nat) : (headsOf T k N).length = N := by simp [headsOf]

set_option maxRecDepth 20000 in
set_option maxHeartbeats 4000000 in
theorem byHeads_ok (s : ByteArray) (n : Nat) (vp : Option Addr) (vc : Nat) (ts : List (List Bool)) (cv : Value) (cs : List (Int × List (List Int))) (lp : Option Addr) (lc : Nat) (ls : List Int) (T : List (List Int)) (w : World)
    (hs : s.size ≤ 9223372036854775807) (hn : nm s = true) (h1 : 2 ≤ n) (h2 : n ≤ 12) (hl1 : 1 ≤ ts.length) (hl2 : ts.length ≤ 200) (hts : ∀ t, t ∈ ts → tsz t = n) (hv : IntsAll w (.slice vp ts.length vc) (ts.map tpl))
    (hcv : CallsAt w cv cs) (hcl : ∀ l, l ∈ ls → (cs.getD l.toNat (0, [])).2.length ≤ 1) (hlv : Ints w (.slice lp ls.length lc) ls) (hN1 : 1 ≤ ls.length) (hN2 : ls.length ≤ 400) (hls : ∀ l, l ∈ ls → 0 ≤ l ∧ l < (cs.length : Int))
    (hT : T.length = ls.length * ts.length + 1) (hTr : ∀ h, h ∈ headsOf T ts.length ls.length → Rw n h)
    (hR : ∀ W, Below w.heap.size w W → Calls Try.prog 25 #[meth s n (.slice vp ts.length vc), cv, .slice lp ls.length lc] W (RowsPost T W)) :
    Calls Try.prog 10 #[meth s n (.slice vp ts.length vc), cv, .slice lp ls.length lc] w (ByPost n (ldr n ts) (headsOf T ts.length ls.length) w) := by
  have hmf : ∀ (fn : Fn) (first cap : Array Value) (w : World), (Instr.makeFunc fn first cap).run Try.prog w = .ok (.func fn first cap) w := fun _ _ _ _ => rfl
  have hBW : Below w.heap.size w ((w.alloc (.cells #[.string s, .int .i64 n, .slice vp ts.length vc] 24)).alloc (.cells #[cv] 25)) := ((Below.refl _ _).alloc (Nat.le_refl _) _).alloc (by simp) _
  have HH := hide (heads_ok s n vp ts.length vc cv lp ls.length lc T ((w.alloc (.cells #[.string s, .int .i64 n, .slice vp ts.length vc] 24)).alloc (.cells #[cv] 25)) hl1 hN2 hl2 hT (fun W hb => hR W (hBW.trans (hb.mono hBW.size))))
  have hbox := ((Box.start w s n (.slice vp ts.length vc) 24).below ((Below.refl _ _).alloc (Nat.le_refl _) (.cells #[cv] 25)))
  have hcb : ((w.alloc (.cells #[.string s, .int .i64 n, .slice vp ts.length vc] 24)).alloc (.cells #[cv] 25)).cell? ⟨w.heap.size + 1, 0, none⟩ = some cv := by
    have h9 := heap_alloc_new (w.alloc (.cells #[.string s, .int .i64 n, .slice vp ts.length vc] 24)) (.cells #[cv] 25)
    rw [show (w.alloc (.cells #[.string s, .int .i64 n, .slice vp ts.length vc] 24)).heap.size = w.heap.size + 1 from by simp] at h9
    exact cell_of' h9
  have HCV := hide hcv
  have HCL := hide hcl
  have HLV := hide hlv
  have HLS := hide hls
  have HTR := hide hTr
  have HF := hide (fun W (hb : Below w.heap.size w W) => false_ok s n (.slice vp ts.length vc) ts W hs hn h1 h2 hl1 hl2 hts (hv.below hb))
  have HRW := hide (ldr_rows hts)
  have HRL := hide (ldr_length n ts)
  have HBX := hide hbox
  have HCB := hide hcb
  obtain ⟨cb, coff, ccap, rfl, _, _, _, _⟩ := hcv
  clear hR hcl hlv hls hTr hn hts hv hT hbox
  unfold meth at HH HF
  unfold meth
  go_enter Try.func10, Try.ntmps10
  go_wp2_with fail
  refine HH.out.mono ?_
  rintro e w2 ⟨hd, hvs, rfl, hL2, hb2⟩
  have hB2 : Below w.heap.size w w2 := hBW.trans (hb2.mono hBW.size)
  have hbs2 := hB2.size
  have hcb2 : w2.cell? ⟨w.heap.size + 1, 0, none⟩ = some (.slice (some ⟨cb, coff, none⟩) cs.length ccap) := (hb2.cell (p := ⟨w.heap.size + 1, 0, none⟩) (by simp)).trans HCB.out
  have HB2x := hide (HBX.out.below hb2)
  have HCF := hide (containsFunc_none (w.heap.size + 1) (.slice lp ls.length lc) ls w2 (HLV.out.below hB2) hN1 (fun l hl => by
    obtain ⟨l1, l2⟩ := HLS.out l hl
    obtain ⟨c, rfl⟩ := Int.eq_ofNat_of_zero_le l1
    exact longer_ok c (w.heap.size + 1) _ cs w2 hcb2 (HCV.out.below hB2) (by omega) (by have := HCL.out _ hl; rwa [Int.toNat_natCast] at this)))
  obtain ⟨hdp, hdc, rfl⟩ := owns_slice hL2.row
  have hhl : hvs.length = ls.length := by rw [hL2.len, headsOf_length]
  have HI2 := hide hL2.ints
  rw [hhl]
  rw [hhl] at HI2
  have g0 := HB2x.out.c0
  have g1 := HB2x.out.c1
  have g2 := HB2x.out.c2
  clear hL2 hb2 hcb2 HH HCB HBX hhl
  go_wp2_with fail
  refine HCF.out.mono ?_
  rintro e w' ⟨rfl, rfl⟩
  go_wp2_with fail
  refine (HF.out w2 hB2).mono ?_
  rintro e w3 ⟨fu, fvs, X, t1, rfl, hpm, hL3, ht1, hb3⟩
  have hbs3 := hb3.size
  have HPM := hide hpm.1
  have HT1 := hide ht1
  obtain ⟨fp, fc, rfl⟩ := owns_slice hL3.row
  have HI3 := hide hL3.ints
  have hfl : fvs.length = X.length := hL3.len
  rw [hfl]
  rw [hfl] at HI3
  have HIH3 := hide (HI2.out.below hb3)
  have hB3 : Below w.heap.size w w3 := hB2.trans (hb3.mono hbs2)
  have HHl := hide (headsOf_length T ts.length ls.length)
  have HRP := hide (repeated_ok n _ (headsOf T ts.length ls.length) w3 HIH3.out (by omega) h2 HTR.out (by rw [HHl.out]; exact hN1) (by rw [HHl.out]; omega))
  have HXR : Hid (∀ r, r ∈ X → Rw n r) := fun r hr => pr_rows HRW.out r (((hdsTo_fact n (pr (ldr n ts))).2.1 r).1 (HPM.out.mem_iff.1 hr)).1
  have HXL : Hid (X.length ≤ 40000) := by
    have h3 := (hdsTo_fact n (pr (ldr n ts))).2.2
    rw [pr_length, HRL.out] at h3
    have h4 : ts.length * ts.length ≤ 200 * 200 := Nat.mul_le_mul hl2 hl2
    show X.length ≤ 40000
    rw [HPM.out.length_eq]
    show (hdsTo n (pr (ldr n ts))).length ≤ 40000
    omega
  have HMT := hide (fun W (hb : Below w3.heap.size w3 W) => meet_ok n _ _ (headsOf T ts.length ls.length) X W (HIH3.out.below hb) (HI3.out.below hb) (by omega) h2 HTR.out HXR.out (by rw [HHl.out]; exact hN1) (by rw [HHl.out]; omega) HXL.out)
  have HPP : Hid ((headsOf T ts.length ls.length).Pairwise (fun h h' => by_ (un h) h' ∉ X) ↔ (headsOf T ts.length ls.length).Pairwise (fun h h' => by_ (un h) h' ∉ hds n (ldr n ts))) :=
    List.Pairwise.iff (fun a b => by rw [HPM.out.mem_iff])
  clear hpm ht1 hL3 hb3 HF hfl g0 g1 g2
  go_wp2_with fail
  refine HRP.out.mono ?_
  rintro e w4 ⟨i, j, t2, rfl, ht2, hb4⟩
  have HT2 := hide ht2
  have hB4 : Below w.heap.size w w4 := hB3.trans (hb4.mono hB3.size)
  have HM4 := hide (HMT.out w4 hb4)
  clear ht2 hb4 HMT HRP
  cases t1 with
  | true =>
    have HP : Hid (ByPost n (ldr n ts) (headsOf T ts.length ls.length) w (.returned (.tuple #[.bool false, .int .i64 0])) w4) := ⟨false, rfl, ⟨(fun h => by cases h), fun h => absurd (HT1.out.2 h.1) (by decide)⟩, hB4⟩
    go_wp2
    go_ret2
    exact HP.out
  | false =>
    cases t2 with
    | true =>
      have HP : Hid (ByPost n (ldr n ts) (headsOf T ts.length ls.length) w (.returned (.tuple #[.bool false, .int .i64 0])) w4) := ⟨false, rfl, ⟨(fun h => by cases h), fun h => absurd (HT2.out.2 h.2.1) (by decide)⟩, hB4⟩
      go_wp2
      go_ret2
      exact HP.out
    | false =>
      go_wp2_with fail
      refine HM4.out.mono ?_
      rintro e w5 ⟨t3, rfl, ht3, hb5⟩
      have HP : Hid (ByPost n (ldr n ts) (headsOf T ts.length ls.length) w (.returned (.tuple #[.bool (!t3), .int .i64 0])) w5) := by
        refine ⟨!t3, rfl, ?_, hB4.trans (hb5.mono hB4.size)⟩
        rw [← HPP.out, ← ht3]
        have a1 := HT1.out.1 (by first | rfl | trivial)
        have a2 := HT2.out.1 (by first | rfl | trivial)
        cases t3 <;> simp [a1, a2]
      clear ht3 hb5
      go_wp2
      go_ret2
      exact HP.out

end Go.Proofs.Ytoiiadiimfohiaa

/- Plain: what the answer's calls are; the leads of a touch differ in their last change alone. -/
namespace Go.Proofs.Ytoiiadiimfohiaa
open Go.RowKit

theorem ceCalls_get {es : List Ce} {k : Nat} (hk : k < es.length) : (ceCalls es).getD k (0, []) = (es[k].sign, es[k].chs) := by
  simp [ceCalls, List.getD, hk]

theorem Cok.callsOk {n K : Nat} {w : World} {base : Nat} {es : List Ce} (h : Cok n w base es) (hm : es.length ≤ 8) (hK : 1 ≤ K) : CallsOk n K (ceCalls es) := by
  have hl : (ceCalls es).length = es.length := by simp [ceCalls]
  have hsg : ∀ k (hk : k < es.length), es[k].sign = sgnOf k := fun k hk => by
    have := h.sign k hk
    rwa [List.getD_eq_getElem?_getD, List.getElem?_eq_getElem hk, Option.getD_some] at this
  refine ⟨fun j hj => ?_, fun i j hij hj => ?_, fun j hj => ?_, fun j hj q hq => ?_⟩
  · rw [hl] at hj
    rw [ceCalls_get hj]
    show sgnR es[j].sign = true
    rw [hsg j hj]; refine sgn_letter ?_; unfold sgnOf; split <;> omega
  · rw [hl] at hj
    rw [ceCalls_get hj, ceCalls_get (show i < es.length by omega)]
    show es[i].sign ≠ es[j].sign
    rw [hsg j hj, hsg i (by omega)]; unfold sgnOf; split <;> split <;> omega
  · rw [hl] at hj
    rw [ceCalls_get hj]
    exact Nat.le_trans (h.few _ (List.getElem_mem hj)) hK
  · rw [hl] at hj
    rw [ceCalls_get hj] at hq ⊢
    exact h.ok _ (List.getElem_mem hj) q hq

theorem tiles_of {n : Nat} : ∀ (X : List (List Int)), (∀ j, j < X.length → okc n 0 (X.getD j []) = true) → ∃ ss : List (List Bool), X = ss.map tpl ∧ ∀ t, t ∈ ss → tsz t = n
  | [], _ => ⟨[], rfl, fun t ht => by cases ht⟩
  | x :: X, h => by
    obtain ⟨t, ht1, ht2⟩ := (okc_iff n x).1 (h 0 (by simp))
    obtain ⟨ss, hs, hn⟩ := tiles_of X (fun j hj => by have := h (j + 1) (by simp; omega); simpa [List.getD] using this)
    refine ⟨t :: ss, by rw [List.map_cons, ht2, ← hs], fun t' h' => ?_⟩
    rcases List.mem_cons.1 h' with e | e
    · rw [e]; exact ht1
    · exact hn t' e

theorem tiles_all {n : Nat} : ∀ (es : List Ce), (∀ e, e ∈ es → ∀ j, j < e.chs.length → okc n 0 (e.chs.getD j []) = true) → ∃ SS : List (List (List Bool)), SS.length = es.length ∧ ∀ c (hc : c < es.length), es[c].chs = (SS.getD c []).map tpl ∧ ∀ t, t ∈ SS.getD c [] → tsz t = n
  | [], _ => ⟨[], rfl, fun c hc => by simp at hc⟩
  | e :: es, h => by
    obtain ⟨ss, h1, h2⟩ := tiles_of e.chs (h e (by simp))
    obtain ⟨SS, h3, h4⟩ := tiles_all es (fun e' h' => h e' (List.mem_cons_of_mem _ h'))
    refine ⟨ss :: SS, by simp [h3], fun c hc => ?_⟩
    cases c with
    | zero => exact ⟨h1, h2⟩
    | succ c => exact h4 c (by simpa using hc)

theorem Cok.tiles {n : Nat} {w : World} {base : Nat} {es : List Ce} (h : Cok n w base es) : ∃ SS : List (List (List Bool)), ∀ c, c < es.length → ((ceCalls es).getD c (0, [])).2 = (SS.getD c []).map tpl ∧ (∀ t, t ∈ SS.getD c [] → tsz t = n) ∧ (SS.getD c []).length ≤ 1 := by
  obtain ⟨SS, _, h2⟩ := tiles_all es h.ok
  refine ⟨SS, fun c hc => ?_⟩
  obtain ⟨h3, h4⟩ := h2 c hc
  rw [ceCalls_get hc]
  refine ⟨h3, h4, ?_⟩
  have := h.few _ (List.getElem_mem hc)
  rw [h3, List.length_map] at this
  exact this

theorem calledBy_take {ts ss : List (List Bool)} (h : ss.length ≤ 1) {q : Nat} (hq : q < ts.length) : (calledBy ts ss).take q = ts.take q := by
  unfold calledBy
  rw [List.take_append_of_le_length (by rw [List.length_take]; omega), List.take_take, Nat.min_eq_left (by omega)]

/-- The rows of a touch by calls that have at most one change, where they are called. -/
theorem touch_used {n : Nat} {ts : List (List Bool)} {SS : List (List (List Bool))} {ls : List Int} (hl1 : 1 ≤ ts.length) (hts : ∀ t, t ∈ ts → tsz t = n) (hS : ∀ l, l ∈ ls → (∀ t, t ∈ SS.getD l.toNat [] → tsz t = n) ∧ (SS.getD l.toNat []).length ≤ 1) :
    (leadTo n (allOf ts SS ls) (ls.length * ts.length)).take (ls.length * ts.length) = touchRows (headsOf (leadTo n (allOf ts SS ls) (ls.length * ts.length)) ts.length ls.length) (ldr n ts) ∧ ∀ t, t ∈ allOf ts SS ls → tsz t = n := by
  have hG : ∀ g, g ∈ ls.map (fun l => calledBy ts (SS.getD l.toNat [])) → g.length = ts.length := by
    intro g hg
    obtain ⟨l, hl, rfl⟩ := List.mem_map.1 hg
    exact calledBy_length (Nat.le_trans (hS l hl).2 hl1)
  have hFn : ∀ t, t ∈ allOf ts SS ls → tsz t = n := by
    intro t ht
    obtain ⟨g, hg, htg⟩ := List.mem_flatten.1 ht
    obtain ⟨l, hl, rfl⟩ := List.mem_map.1 hg
    exact calledBy_mem hts (hS l hl).1 t htg
  refine ⟨touch_rows (N := ls.length) hl1 rfl (by unfold allOf; rw [flat_length _ hG, List.length_map]) hFn hts (fun m' q hm hq => ?_) ls.length (Nat.le_refl _), hFn⟩
  unfold allOf
  rw [flat_drop _ m' hG (by rw [List.length_map]; exact hm), List.getElem_map]
  have h1 := (hS ls[m'] (List.getElem_mem hm)).2
  rw [List.take_append_of_le_length (by rw [calledBy_length (Nat.le_trans h1 hl1)]; omega)]
  exact calledBy_take h1 hq

/-- The rows of a touch by calls of at most one change. -/
theorem touch_all {n m : Nat} {ts : List (List Bool)} {SS : List (List (List Bool))} {ls : List Int} (hl1 : 1 ≤ ts.length) (hts : ∀ t, t ∈ ts → tsz t = n) (hin : ∀ l, l ∈ ls → 0 ≤ l ∧ l < (m : Int)) (hS : ∀ c, c < m → (∀ t, t ∈ SS.getD c [] → tsz t = n) ∧ (SS.getD c []).length ≤ 1) :
    (leadTo n (allOf ts SS ls) (ls.length * ts.length)).take (ls.length * ts.length) = touchRows (headsOf (leadTo n (allOf ts SS ls) (ls.length * ts.length)) ts.length ls.length) (ldr n ts) ∧ ∀ t, t ∈ allOf ts SS ls → tsz t = n :=
  touch_used hl1 hts (fun l hl => hS l.toNat (by have := hin l hl; omega))

/-- The changes of a touch are of so many bells. -/
theorem allOf_size {n : Nat} {ts : List (List Bool)} {SS : List (List (List Bool))} {ls : List Int} (hts : ∀ t, t ∈ ts → tsz t = n) (hS : ∀ l, l ∈ ls → ∀ t, t ∈ SS.getD l.toNat [] → tsz t = n) : ∀ t, t ∈ allOf ts SS ls → tsz t = n := by
  intro t ht
  obtain ⟨g, hg, htg⟩ := List.mem_flatten.1 ht
  obtain ⟨l, hl, rfl⟩ := List.mem_map.1 hg
  exact calledBy_mem hts (hS l hl) t htg

end Go.Proofs.Ytoiiadiimfohiaa

/- Contracts: method.Head, courseFits, method.Course, MethodOf. -/
namespace Go.Proofs.Ytoiiadiimfohiaa
open Go.RowKit

/-- The first rows of a course. -/
def crs (n : Nat) (ts : List (List Bool)) (c : Nat) : List (List Int) := (List.range c).map (fun i => by_ (pw (prd n ts) (i / ts.length)) (prd n (ts.take (i % ts.length))))

theorem crs_snoc (n : Nat) (ts : List (List Bool)) (a b : Nat) (hb : b < ts.length) : crs n ts (a * ts.length + b + 1) = crs n ts (a * ts.length + b) ++ [by_ (pw (prd n ts) a) (prd n (ts.take b))] := by
  unfold crs
  rw [List.range_succ, List.map_append]
  have h1 : (a * ts.length + b) / ts.length = a := by
    rw [Nat.mul_comm, Nat.mul_add_div (by omega), Nat.div_eq_of_lt hb, Nat.add_zero]
  have h2 : (a * ts.length + b) % ts.length = b := by
    rw [Nat.mul_comm, Nat.mul_add_mod, Nat.mod_eq_of_lt hb]
  simp only [List.map_cons, List.map_nil, h1, h2]

theorem crs_length (n : Nat) (ts : List (List Bool)) (c : Nat) : (crs n ts c).length = c := by simp [crs]

theorem crs_get {n c i : Nat} {ts : List (List Bool)} (h : i < c) : (crs n ts c).getD i [] = by_ (pw (prd n ts) (i / ts.length)) (prd n (ts.take (i % ts.length))) := by simp [crs, List.getD, h]

theorem pw_zero (r : List Int) : pw r 0 = rnd r.length := by unfold pw rnd; rfl

/-- What the loops of Course know. -/
structure CrsRel (w3 wr : World) (n : Nat) (ts : List (List Bool)) (a b : Nat) (f u : Value) (vs : List Value) : Prop where
  ll : LL wr w3.heap.size u vs (crs n ts (a * ts.length + b))
  row : wr.ownsRow w3.heap.size 3 1 f n ((pw (prd n ts) a).map (Value.int .i64))
  below : Below w3.heap.size w3 wr

end Go.Proofs.Ytoiiadiimfohiaa

/- Contract: MethodOf. -/
namespace Go.Proofs.Ytoiiadiimfohiaa
open Go.RowKit

theorem tried_name : nm ⟨#[84, 114, 105, 101, 100]⟩ = true := by decide +kernel

theorem cells3 {w1 : World} {B : Nat} {a b c : Value} {t : TypeId} (h : w1.heap[B]? = some (.cells #[a, b, c] t)) :
    w1.cell? ⟨B, 0, none⟩ = some a ∧ w1.cell? ⟨B, 1, none⟩ = some b ∧ w1.cell? ⟨B, 2, none⟩ = some c ∧ w1.frozen? ⟨B, 0, none⟩ = false ∧ w1.frozen? ⟨B, 1, none⟩ = false ∧ w1.frozen? ⟨B, 2, none⟩ = false := by
  simp [World.cell?, World.frozen?, h]

theorem LL.set {w : World} {base b j : Nat} {v x : Value} {vs : List Value} {xss : List (List Int)} (h : LL w base v vs xss) (hb : b < base) : LL (w.setCell ⟨b, j, none⟩ x) base v vs xss :=
  ⟨ownsRow_setCell_below h.row (by exact hb) _, h.all.mono (fun _ _ _ h' => ownsRow_setCell_below h' (by exact hb) _)⟩

set_option maxRecDepth 20000 in
set_option maxHeartbeats 2000000 in
theorem methodOf_ok (v : Value) (xs : List Int) (n m : Nat) (w : World) (h : Ints w v xs) (hx : ∀ x, x ∈ xs → I64 x) (h1 : 1 ≤ n) (h12 : n ≤ 12) (hm : m ≤ 1000) :
    Calls Try.prog 19 #[v, .int .i64 n, .int .i64 m] w fun e w' => ∃ (u : Value) (vs : List Value) (ts : List (List Bool)), e = .returned (.agg #[.string ⟨#[84, 114, 105, 101, 100]⟩, .int .i64 n, u]) ∧ ts.length = m ∧ (∀ t, t ∈ ts → tsz t = n) ∧ LL w' (w.heap.size + 1) u vs (ts.map tpl) ∧ Below w.heap.size w w' := by
  have HC := hide (fun W (hb : Below w.heap.size w W) => changesOf_ok v xs 3 n m W (h.below hb) hx (by omega) h1 h12 hm)
  clear h hx
  go_enter Try.func19, Try.ntmps19
  go_wp2_with fail
  refine (HC.out _ ((Below.refl _ _).alloc (Nat.le_refl _) _)).mono ?_
  rintro e w1 ⟨u, vs, ts, rfl, hl, hts, hL, hb1⟩
  have hblk0 := (hb1.block w.heap.size (by simp)).trans (heap_alloc_new w _)
  obtain ⟨z0, z1, z2, f0, f1, f2⟩ := cells3 (w1 := w1) (B := w.heap.size) hblk0
  obtain ⟨up, uc, rfl⟩ := owns_slice hL.row
  have HBK : Hid ((((w1.setCell ⟨w.heap.size, 0, none⟩ (.string ⟨#[84, 114, 105, 101, 100]⟩)).setCell ⟨w.heap.size, 1, none⟩ (.int .i64 n)).setCell ⟨w.heap.size, 2, none⟩ (.slice up vs.length uc)).heap[w.heap.size]? = some (.cells #[.string ⟨#[84, 114, 105, 101, 100]⟩, .int .i64 n, .slice up vs.length uc] 24)) := by
    show _ = _
    simp [World.setCell, Array.getElem?_modify, hblk0]
  clear hblk0
  have HT := hide hts
  have HL := hide hL
  have HLE := hide hl
  clear hts hL hl HC
  have hB : Below w.heap.size w w1 := ((Below.refl _ _).alloc (Nat.le_refl _) _).trans (hb1.mono (by simp))
  have HLL := hide (HL.out.low (show w.heap.size + 1 ≤ _ by simp))
  clear HL
  go_wp2
  refine bodyPost_ret (results_cell_row (p := 6) (ty := 24) rfl _ _ w.heap.size 24 _ _ _ rfl HBK.out Try.underlying24 rfl (by kernel_rfl)) rfl ?_
  exact ⟨_, vs, ts, rfl, HLE.out, HT.out, ((HLL.out.set (Nat.lt_succ_self _)).set (Nat.lt_succ_self _)).set (Nat.lt_succ_self _), ((hB.setCell (Nat.le_refl _) _).setCell (Nat.le_refl _) _).setCell (Nat.le_refl _) _⟩

end Go.Proofs.Ytoiiadiimfohiaa

/- Rows of a lead are rows. -/
namespace Go.Proofs.Ytoiiadiimfohiaa
open Go.RowKit

theorem leadTo_rows {n k : Nat} {F : List (List Bool)} (h : ∀ t, t ∈ F → tsz t = n) : ∀ r, r ∈ leadTo n F k → Rw n r := by
  intro r hr
  obtain ⟨j, _, rfl⟩ := List.mem_map.1 hr
  have := prd_row n (F.take j) (fun t ht => h t (List.mem_of_mem_take ht))
  exact ⟨this.1, this.2⟩

end Go.Proofs.Ytoiiadiimfohiaa

/- A touch that may be, and what both sides say of it. -/
namespace Go.Proofs.Ytoiiadiimfohiaa
open Go.RowKit
set_option maxRecDepth 20000
set_option linter.unusedVariables false

/-- A touch that may be, in memory. -/
structure Tch (W : World) (s : ByteArray) (n : Nat) (vp : Option Addr) (vc : Nat) (ts : List (List Bool)) (cv : Value) (cs : List (Int × List (List Int))) (SS : List (List (List Bool))) (lp : Option Addr) (lc : Nat) (t : List Nat) : Prop where
  size : s.size ≤ 1048576
  nam : nm s = true
  isn : isN (arunes s) = true
  n1 : 2 ≤ n
  n2 : n ≤ 12
  l1 : 1 ≤ ts.length
  l2 : ts.length ≤ 200
  tz : ∀ t, t ∈ ts → tsz t = n
  val : IntsAll W (.slice vp ts.length vc) (ts.map tpl)
  cat : CallsAt W cv cs
  cok : CallsOk n ts.length cs
  c1 : 1 ≤ cs.length
  c2 : cs.length ≤ 8
  css : ∀ c, c < cs.length → (cs.getD c (0, [])).2 = (SS.getD c []).map tpl ∧ (∀ t, t ∈ SS.getD c [] → tsz t = n) ∧ (SS.getD c []).length ≤ ts.length
  lat : Ints W (.slice lp t.length lc) (nI t)
  t1 : 1 ≤ t.length
  t2 : t.length ≤ 60
  tin : ∀ c, c ∈ t → c < cs.length
  mul : t.length * ts.length ≤ 20000

variable {W : World} {s : ByteArray} {n : Nat} {vp : Option Addr} {vc : Nat} {ts : List (List Bool)} {cv : Value} {cs : List (Int × List (List Int))} {SS : List (List (List Bool))} {lp : Option Addr} {lc : Nat} {t : List Nat}

theorem Tch.below {W' : World} (h : Tch W s n vp vc ts cv cs SS lp lc t) (hb : Below W.heap.size W W') : Tch W' s n vp vc ts cv cs SS lp lc t :=
  { h with val := h.val.below hb, cat := h.cat.below hb, lat := h.lat.below hb }

/-- All its rows. -/
def tRow (n : Nat) (ts : List (List Bool)) (SS : List (List (List Bool))) (t : List Nat) : List (List Int) := leadTo n (allOf ts SS (nI t)) (t.length * ts.length)

theorem Tch.nin (h : Tch W s n vp vc ts cv cs SS lp lc t) : ∀ l, l ∈ nI t → 0 ≤ l ∧ l < (cs.length : Int) := by
  intro l hl
  obtain ⟨c, hc, rfl⟩ := List.mem_map.1 (show l ∈ t.map _ from hl)
  have := h.tin c hc
  constructor <;> omega

theorem Tch.sz (h : Tch W s n vp vc ts cv cs SS lp lc t) : ∀ u, u ∈ allOf ts SS (nI t) → tsz u = n :=
  allOf_size h.tz (fun l hl => (h.css l.toNat (by have := h.nin l hl; omega)).2.1)

theorem tRow_length (n : Nat) (ts : List (List Bool)) (SS : List (List (List Bool))) (t : List Nat) : (tRow n ts SS t).length = t.length * ts.length + 1 := leadTo_length _ _ _

theorem Tch.rws (h : Tch W s n vp vc ts cv cs SS lp lc t) : ∀ r, r ∈ tRow n ts SS t → Rw n r := leadTo_rows h.sz

theorem Tch.one (h : Tch W s n vp vc ts cv cs SS lp lc t) : 1 ≤ t.length * ts.length := Nat.mul_le_mul h.t1 h.l1

theorem Tch.rows (h : Tch W s n vp vc ts cv cs SS lp lc t) : Calls Try.prog 25 #[meth s n (.slice vp ts.length vc), cv, .slice lp t.length lc] W (RowsPost (tRow n ts SS t) W) := by
  have h9 := crows_ok s n vp vc ts cv cs SS (.slice lp t.length lc) (nI t) W (Nat.le_trans h.size (by omega)) h.nam h.n1 h.n2 h.l1 h.l2 h.tz h.val h.cat h.cok h.c1 h.c2 h.css h.lat (by rw [nI_len]; exact h.t1) (by rw [nI_len]; have := h.t2; omega) h.nin (by rw [nI_len]; exact h.mul)
  rw [nI_len] at h9
  exact h9

theorem Tch.rrows (h : Tch W s n vp vc ts cv cs SS lp lc t) : Calls Try.prog 16 #[.agg #[.string s, .int .i64 n, .slice vp ts.length vc], cv, .slice lp t.length lc] W (TRPost (tRow n ts SS t) W) :=
  rtouch_ok s n vp vc ts cv cs SS _ t W (by have := h.n1; omega) h.n2 h.l1 h.l2 h.tz h.val h.cat h.css h.lat h.t2 h.tin

theorem Tch.may (h : Tch W s n vp vc ts cv cs SS lp lc t) : Calls Try.prog 7 #[.agg #[.string s, .int .i64 n, .slice vp ts.length vc], cv, .slice lp t.length lc] W fun e w' => e = .returned (.int .i64 0) ∧ Below W.heap.size W w' := by
  have h9 := rtmay_ok s n vp vc (ts.map tpl) cv cs (.slice lp t.length lc) t W h.size h.isn h.n1 h.n2 (by rw [List.length_map]; exact h.l1) (by rw [List.length_map]; exact h.l2) (by rw [List.length_map]; exact h.val) (fun k hk => tile_ok h.tz hk) h.cat (by rw [List.length_map]; exact h.cok) h.c1 h.c2 h.lat h.t1 (by have := h.t2; omega) h.tin (by rw [List.length_map]; exact h.mul)
  rw [List.length_map] at h9
  exact h9

theorem Tch.mmay (h : Tch W s n vp vc ts cv cs SS lp lc t) : Calls Try.prog 12 #[.agg #[.string s, .int .i64 n, .slice vp ts.length vc]] W fun e w' => e = .returned (.int .i64 0) ∧ Below W.heap.size W w' := by
  have h9 := rmay_ok s n vp vc (ts.map tpl) W h.size h.isn h.n1 h.n2 (by rw [List.length_map]; exact h.l1) (by rw [List.length_map]; exact h.l2) (by rw [List.length_map]; exact h.val) (fun x hx => by
    obtain ⟨j, hj, e⟩ := List.getElem_of_mem hx
    have := tile_ok h.tz hj
    rw [List.getD_eq_getElem?_getD, List.getElem?_eq_getElem hj, Option.getD_some, e] at this
    exact pc_ok (by have := h.n1; omega) h.n2 this)
  rw [List.length_map] at h9
  exact h9

theorem Tch.prove (h : Tch W s n vp vc ts cv cs SS lp lc t) : Calls Try.prog 8 #[meth s n (.slice vp ts.length vc), cv, .slice lp t.length lc] W (ProveFull (t.length * ts.length) (tRow n ts SS t) W) :=
  prove_full s n vp ts.length vc cv _ (t.length * ts.length) _ W (by have := h.n1; omega) h.n2 (tRow_length n ts SS t) h.one h.mul h.rws (fun W' hW => (h.below hW).rows)

theorem Tch.rprove (h : Tch W s n vp vc ts cv cs SS lp lc t) : Calls Try.prog 15 #[.agg #[.string s, .int .i64 n, .slice vp ts.length vc], cv, .slice lp t.length lc] W (RFull (t.length * ts.length) n (tRow n ts SS t) W) :=
  rprove_full s n vp ts.length vc cv _ (t.length * ts.length) _ W (by have := h.n1; omega) h.n2 h.one h.mul (tRow_length n ts SS t) (fun r hr => ⟨(h.rws r hr).row, (h.rws r hr).len⟩) (by obtain ⟨b, o, c, e, _⟩ := h.cat; exact ⟨_, _, _, e⟩) ⟨_, _, _, rfl⟩ (fun W' hW => (h.below hW).rrows)

theorem Tch.heads (h : Tch W s n vp vc ts cv cs SS lp lc t) : Calls Try.prog 9 #[meth s n (.slice vp ts.length vc), cv, .slice lp t.length lc] W fun e w' => ∃ u vs, e = .returned (.tuple #[u, .int .i64 0]) ∧ LL w' W.heap.size u vs (headsOf (tRow n ts SS t) ts.length t.length) ∧ Below W.heap.size W w' :=
  heads_ok s n vp ts.length vc cv lp t.length lc _ W h.l1 (by have := h.t2; omega) h.l2 (tRow_length n ts SS t) (fun W' hW => (h.below hW).rows)

theorem Tch.fals (h : Tch W s n vp vc ts cv cs SS lp lc t) : Calls Try.prog 11 #[meth s n (.slice vp ts.length vc)] W (FalsePost n ts W) :=
  false_ok s n _ ts W (Nat.le_trans h.size (by omega)) h.nam h.n1 h.n2 h.l1 h.l2 h.tz h.val

theorem Tch.rfals (h : Tch W s n vp vc ts cv cs SS lp lc t) : Calls Try.prog 13 #[.agg #[.string s, .int .i64 n, .slice vp ts.length vc]] W (RFPost n (ldr n ts) W) :=
  rfalse_ok s n vp vc ts W h.n1 h.n2 h.l1 h.l2 h.tz h.val

theorem headsOf_in {n : Nat} {T : List (List Int)} {k N : Nat} (hT : T.length = N * k + 1) (h : ∀ r, r ∈ T → Rw n r) : ∀ r, r ∈ headsOf T k N → Rw n r := by
  intro r hr
  obtain ⟨i, hi, rfl⟩ := List.mem_map.1 hr
  have hi' : i < N := by simpa using hi
  have hik : i * k < T.length := by
    rw [hT]
    exact Nat.lt_succ_of_le (Nat.mul_le_mul_right k (Nat.le_of_lt hi'))
  refine h _ ?_
  simp only [List.getD, List.getElem?_eq_getElem hik, Option.getD_some]
  exact List.getElem_mem hik

/-- By the heads, where calls have one change at most. -/
theorem Tch.byOne (h : Tch W s n vp vc ts cv cs SS lp lc t) (h1 : ∀ c, c ∈ t → (SS.getD c []).length ≤ 1) : Calls Try.prog 10 #[meth s n (.slice vp ts.length vc), cv, .slice lp t.length lc] W fun e w' => ∃ q : Bool, e = .returned (.tuple #[.bool q, .int .i64 0]) ∧ (q = true ↔ ((tRow n ts SS t).take (t.length * ts.length)).Nodup) ∧ Below W.heap.size W w' := by
  have hu : ∀ l, l ∈ nI t → (SS.getD l.toNat []).length ≤ 1 := fun l hl => by
    obtain ⟨c, hc, rfl⟩ := List.mem_map.1 (show l ∈ t.map _ from hl)
    have := h1 c hc
    simpa using this
  have hlat := h.lat
  have hnl : (nI t).length = t.length := nI_len t
  have h9 := byHeads_ok s n vp vc ts cv cs lp lc (nI t) (tRow n ts SS t) W (Nat.le_trans h.size (by omega)) h.nam h.n1 h.n2 h.l1 h.l2 h.tz h.val h.cat (fun l hl => by
    have hb := h.nin l hl
    rw [(h.css l.toNat (by omega)).1, List.length_map]
    exact hu l hl) (by rw [hnl]; exact hlat) (by rw [hnl]; exact h.t1) (by rw [hnl]; have := h.t2; omega) h.nin (by rw [hnl]; exact tRow_length n ts SS t) (headsOf_in (by rw [hnl]; exact tRow_length n ts SS t) h.rws) (fun W' hW => by rw [hnl]; exact (h.below hW).rows)
  rw [hnl] at h9
  have hta := (touch_used h.l1 h.tz (fun l hl => ⟨(h.css l.toNat (by have := h.nin l hl; omega)).2.1, hu l hl⟩)).1
  rw [hnl] at hta
  have hbp := both_proofs h.n2 (ldr_rows h.tz) (headsOf_in (k := ts.length) (N := t.length) (tRow_length n ts SS t) h.rws) (fun e => by have h8 := ldr_length n ts; rw [e, List.length_nil] at h8; have := h.l1; omega) (fun e => by have h8 := headsOf_length (tRow n ts SS t) ts.length t.length; rw [e, List.length_nil] at h8; have := h.t1; omega)
  refine h9.mono ?_
  rintro e w' ⟨q, rfl, hq, hb⟩
  refine ⟨q, rfl, ?_, hb⟩
  rw [hq, ← hbp]
  unfold tRow
  rw [hta]

end Go.Proofs.Ytoiiadiimfohiaa

/- truth.ByHeads where a longer call is called. -/
namespace Go.Proofs.Ytoiiadiimfohiaa
open Go.RowKit
set_option maxRecDepth 20000
set_option linter.unusedVariables false

set_option maxHeartbeats 1000000 in
theorem longer_yes (c : Nat) (B : Nat) (v : Value) (cs : List (Int × List (List Int))) (w : World) (hB : w.cell? ⟨B, 0, none⟩ = some v) (h : CallsAt w v cs) (hc : c < cs.length) (hl : 1 < (cs.getD c (0, [])).2.length) :
    Calls Try.prog 29 #[.int .i64 c, .pointer (some ⟨B, 0, none⟩)] w fun e w' => e = .returned (.bool true) ∧ w = w' := by
  obtain ⟨b, off, cap, rfl, hb, hlc, hcm, hcell⟩ := h
  obtain ⟨u, a1, a2, a3⟩ := hcell c hc
  obtain ⟨up, uc, rfl⟩ := a3.len
  generalize (cs.getD c (0, [])).2.length = ul at *
  have hl2 : (1 : Int) < ((ul : Nat) : Int) := by omega
  clear hcell a3 a1
  go_enter Try.func29, Try.ntmps29
  go_wp2
  go_ret
  exact ⟨by simp, rfl⟩

set_option maxHeartbeats 1000000 in
theorem indexFunc_some (B : Nat) (v1 : Value) (ls : List Int) (p : Int → Bool) (w : World) (h : Ints w v1 ls) (h1 : 1 ≤ ls.length) (hsm : ∃ l, l ∈ ls ∧ p l = true) (hcl : ∀ l, l ∈ ls → Calls Try.prog 29 #[.int .i64 l, .pointer (some ⟨B, 0, none⟩)] w fun e w' => e = .returned (.bool (p l)) ∧ w = w') :
    Calls Try.prog 57 #[v1, .func (.func 29) #[] #[.pointer (some ⟨B, 0, none⟩)]] w fun e w' => (∃ k : Nat, e = .returned (.int .i64 (k : Int))) ∧ w = w' := by
  rcases h with ⟨rfl, _⟩ | ⟨b, off, cap, rfl, h0, hc, hm, hb, hcell⟩
  · simp at h1
  have HCL := hide hcl
  have HSM := hide hsm
  clear hcl hsm
  go_enter Try.func57, Try.ntmps57
  go_wp2
  go_loop [8] (fun i => ∃ k : Nat, k ≤ ls.length ∧ i = .int .i64 k ∧ Hid (∀ j, j < k → p (ls.getD j 0) = false)) (fun i => ls.length - (intOf i).toNat)
  case atStart => exact ⟨0, by omega, rfl, (fun j hj => absurd hj (by omega))⟩
  case round =>
    obtain ⟨k, hk, rfl, hN⟩ := hrel
    by_cases hlt : k < ls.length
    · obtain ⟨y, hy, hcx⟩ := cellAt hcell hlt
      have hyk : ls.getD k 0 = y := hy.out
      have hym : y ∈ ls := by
        rw [← hy.out, List.getElem?_eq_getElem hlt, Option.getD_some]
        exact List.getElem_mem _
      have HC1 := hide (HCL.out y hym)
      have HYK := hide hyk
      clear hcell hy hym hyk
      cases hpy : p y with
      | true =>
        rw [hpy] at HC1
        go_wp2_with fail
        refine HC1.out.mono ?_
        rintro e w' ⟨rfl, rfl⟩
        go_wp2
        go_ret
        exact ⟨⟨k, rfl⟩, rfl⟩
      | false =>
        rw [hpy] at HC1
        have HN2 : Hid (∀ j, j < k + 1 → p (ls.getD j 0) = false) := fun j hj => by
          rcases Nat.lt_succ_iff_lt_or_eq.1 hj with h | h
          · exact hN.out j h
          · rw [h, HYK.out]; exact hpy
        clear hN hpy
        go_wp2_with fail
        refine HC1.out.mono ?_
        rintro e w' ⟨rfl, rfl⟩
        go_wp2
        go_round
        case rel => exact ⟨k + 1, by omega, by go_num, HN2⟩
        case measure => simp [intOf]; omega
    · exfalso
      obtain ⟨l, hl, hpl⟩ := HSM.out
      obtain ⟨j, hj, e⟩ := List.getElem_of_mem hl
      have := hN.out j (by omega)
      rw [List.getD, List.getElem?_eq_getElem hj, Option.getD_some, e, hpl] at this
      cases this

set_option maxHeartbeats 1000000 in
theorem containsFunc_some (B : Nat) (v1 : Value) (ls : List Int) (p : Int → Bool) (w : World) (h : Ints w v1 ls) (h1 : 1 ≤ ls.length) (hsm : ∃ l, l ∈ ls ∧ p l = true) (hcl : ∀ l, l ∈ ls → Calls Try.prog 29 #[.int .i64 l, .pointer (some ⟨B, 0, none⟩)] w fun e w' => e = .returned (.bool (p l)) ∧ w = w') :
    Calls Try.prog 28 #[v1, .func (.func 29) #[] #[.pointer (some ⟨B, 0, none⟩)]] w fun e w' => e = .returned (.bool true) ∧ w = w' := by
  have HI := hide (indexFunc_some B v1 ls p w h h1 hsm hcl)
  obtain ⟨q, c, rfl⟩ := h.form
  clear h hcl hsm
  go_enter Try.func28, Try.ntmps28
  go_wp2_with fail
  refine HI.out.mono ?_
  rintro e w' ⟨⟨k, rfl⟩, rfl⟩
  go_wp2
  go_ret
  exact ⟨by simp, rfl⟩

variable {W : World} {s : ByteArray} {n : Nat} {vp : Option Addr} {vc : Nat} {ts : List (List Bool)} {cv : Value} {cs : List (Int × List (List Int))} {SS : List (List (List Bool))} {lp : Option Addr} {lc : Nat} {t : List Nat}

set_option maxHeartbeats 2000000 in
theorem Tch.byLong (h : Tch W s n vp vc ts cv cs SS lp lc t) (h1 : ∃ c, c ∈ t ∧ 1 < (SS.getD c []).length) : Calls Try.prog 10 #[meth s n (.slice vp ts.length vc), cv, .slice lp t.length lc] W fun e w' => e = .returned (.tuple #[.bool false, .int .i64 11]) ∧ Below W.heap.size W w' := by
  have hmf : ∀ (fn : Fn) (first cap : Array Value) (w : World), (Instr.makeFunc fn first cap).run Try.prog w = .ok (.func fn first cap) w := fun _ _ _ _ => rfl
  have hBW : Below W.heap.size W ((W.alloc (.cells #[.string s, .int .i64 n, .slice vp ts.length vc] 24)).alloc (.cells #[cv] 25)) := ((Below.refl _ _).alloc (Nat.le_refl _) _).alloc (by simp) _
  have HH := hide (h.below hBW).heads
  have HT := hide h
  have hcb : ((W.alloc (.cells #[.string s, .int .i64 n, .slice vp ts.length vc] 24)).alloc (.cells #[cv] 25)).cell? ⟨W.heap.size + 1, 0, none⟩ = some cv := by
    have h9 := heap_alloc_new (W.alloc (.cells #[.string s, .int .i64 n, .slice vp ts.length vc] 24)) (.cells #[cv] 25)
    rw [show (W.alloc (.cells #[.string s, .int .i64 n, .slice vp ts.length vc] 24)).heap.size = W.heap.size + 1 from by simp] at h9
    exact cell_of' h9
  have HCB := hide hcb
  obtain ⟨cb, coff, ccap, rfl, _, _, _, _⟩ := h.cat
  have HL1 := hide h1
  clear h h1 hcb
  unfold meth at HH
  unfold meth
  go_enter Try.func10, Try.ntmps10
  go_wp2_with fail
  refine HH.out.mono ?_
  rintro e w2 ⟨hd, hvs, rfl, hL2, hb2⟩
  have hB2 : Below W.heap.size W w2 := hBW.trans (hb2.mono hBW.size)
  have hcb2 : w2.cell? ⟨W.heap.size + 1, 0, none⟩ = some (.slice (some ⟨cb, coff, none⟩) cs.length ccap) := (hb2.cell (p := ⟨W.heap.size + 1, 0, none⟩) (by simp)).trans HCB.out
  have hT2 := HT.out.below hB2
  have HCF := hide (containsFunc_some (W.heap.size + 1) (.slice lp t.length lc) (nI t) (fun l => decide (1 < (SS.getD l.toNat []).length)) w2 hT2.lat (by rw [nI_len]; exact hT2.t1) (by
    obtain ⟨c, hc, hl⟩ := HL1.out
    exact ⟨(c : Int), List.mem_map.2 ⟨c, hc, rfl⟩, by simpa using hl⟩) (fun l hl => by
    obtain ⟨c, hc, rfl⟩ := List.mem_map.1 (show l ∈ t.map _ from hl)
    have hcc := hT2.tin c hc
    have hcs := (hT2.css c hcc).1
    simp only [Int.toNat_natCast]
    by_cases h9 : 1 < (SS.getD c []).length
    · rw [decide_eq_true h9]
      exact longer_yes c (W.heap.size + 1) _ cs w2 hcb2 hT2.cat hcc (by rw [hcs, List.length_map]; exact h9)
    · rw [decide_eq_false h9]
      exact longer_ok c (W.heap.size + 1) _ cs w2 hcb2 hT2.cat hcc (by rw [hcs, List.length_map]; omega)))
  obtain ⟨hdp, hdc, rfl⟩ := owns_slice hL2.row
  clear hL2 hb2 hcb2 HH HCB hT2 HT HL1
  go_wp2_with fail
  refine HCF.out.mono ?_
  rintro e w' ⟨rfl, rfl⟩
  go_wp2
  go_ret2
  exact ⟨rfl, hB2⟩

end Go.Proofs.Ytoiiadiimfohiaa

/- The law TruthSays at a touch that may be. -/
namespace Go.Proofs.Ytoiiadiimfohiaa
open Go.RowKit
set_option maxRecDepth 20000
set_option linter.unusedVariables false

/-- What ByHeads says. -/
def ByAll (one : Bool) (N : List (List Int)) (w : World) (e : Ending) (w' : World) : Prop :=
  ∃ (b : Bool) (eb : Int), e = .returned (.tuple #[.bool b, .int .i64 eb]) ∧ (one = true → eb = 0 ∧ (b = true ↔ N.Nodup)) ∧ (one = false → eb = 11 ∧ b = false) ∧ Below w.heap.size w w'

theorem headsOf_at (T : List (List Int)) {k N j : Nat} (h : j < N) : (headsOf T k N).getD j [] = T.getD (j * k) [] := by
  simp [headsOf, List.getD, h]

set_option maxHeartbeats 8000000 in
theorem truthSays_good (s : ByteArray) (n : Nat) (vp : Option Addr) (vc : Nat) (ts : List (List Bool)) (cv : Value) (cs : List (Int × List (List Int))) (SS : List (List (List Bool))) (lp : Option Addr) (lc : Nat) (t : List Nat) (w : World) (h : Tch w s n vp vc ts cv cs SS lp lc t) (hK40 : ts.length ≤ 40) :
    Calls Try.prog 3 #[.agg #[.string s, .int .i64 n, .slice vp ts.length vc], cv, .slice lp t.length lc] w fun e w' => e = .returned (.bool true) ∧ Below w.heap.size w w' := by
  obtain ⟨one, hone⟩ : ∃ one : Bool, one = true ↔ ∀ c, c ∈ t → (SS.getD c []).length ≤ 1 := ⟨decide (∀ c, c ∈ t → (SS.getD c []).length ≤ 1), by simp⟩
  have HBY : Hid (∀ W, Below w.heap.size w W → Calls Try.prog 10 #[meth s n (.slice vp ts.length vc), cv, .slice lp t.length lc] W (ByAll one ((tRow n ts SS t).take (t.length * ts.length)) W)) := fun W hW => by
    by_cases h9 : ∀ c, c ∈ t → (SS.getD c []).length ≤ 1
    · have ho : one = true := hone.2 h9
      subst ho
      refine ((h.below hW).byOne h9).mono ?_
      rintro e w' ⟨q, rfl, hq, hb⟩
      exact ⟨q, 0, rfl, fun _ => ⟨rfl, hq⟩, (fun h => by cases h), hb⟩
    · have ho : one = false := by
        cases h8 : one with
        | false => rfl
        | true => exact absurd (hone.1 h8) h9
      subst ho
      have h10 : ∃ c, c ∈ t ∧ 1 < (SS.getD c []).length := by
        apply Classical.byContradiction
        intro hn
        exact h9 (fun c hc => by
          rcases Nat.lt_or_ge 1 (SS.getD c []).length with h8 | h8
          · exact absurd ⟨c, hc, h8⟩ hn
          · exact h8)
      refine ((h.below hW).byLong h10).mono ?_
      rintro e w' ⟨rfl, hb⟩
      exact ⟨false, 11, rfl, (fun h => by cases h), fun _ => ⟨rfl, rfl⟩, hb⟩
  have HONE := hide hone
  have HMY := hide (fun W (hW : Below w.heap.size w W) => (h.below hW).may)
  have HMM := hide (fun W (hW : Below w.heap.size w W) => (h.below hW).mmay)
  have HPR := hide (fun W (hW : Below w.heap.size w W) => (h.below hW).prove)
  have HRP := hide (fun W (hW : Below w.heap.size w W) => (h.below hW).rprove)
  have HHD := hide (fun W (hW : Below w.heap.size w W) => (h.below hW).heads)
  have HFA := hide (fun W (hW : Below w.heap.size w W) => (h.below hW).fals)
  have HRF := hide (fun W (hW : Below w.heap.size w W) => (h.below hW).rfals)
  have HRR := hide (fun W (hW : Below w.heap.size w W) => (h.below hW).rrows)
  unfold meth at HPR HHD HFA HBY
  have HTL := hide (tRow_length n ts SS t)
  have HRW := hide h.rws
  have HLR := hide (ldr_rows h.tz)
  have hn1 := h.n1
  have hn2 := h.n2
  have hT1 := h.t1
  have hT2 := h.t2
  have hK1 := h.l1
  have hC2 := h.c2
  have HLA := hide h.lat
  have HCA := hide h.cat
  have HTI := hide h.tin
  have HCS := hide h.css
  have HT0 : Hid ((tRow n ts SS t).getD 0 [] = rnd n) := by
    show _ = _
    unfold tRow
    rw [leadTo_get (Nat.zero_le _), List.take_zero]
    rfl
  obtain ⟨cb, co, cc, hcve, hcb, hcc1, hcc2, hccell⟩ := h.cat
  subst hcve
  have HCC := hide hccell
  clear h hone hccell
  obtain ⟨C, hC⟩ : ∃ C, Hid (cs.length = C) := ⟨_, rfl⟩
  obtain ⟨K, hK⟩ : ∃ K, Hid (ts.length = K) := ⟨_, rfl⟩
  obtain ⟨T, hT⟩ : ∃ T, Hid (t.length = T) := ⟨_, rfl⟩
  rw [hC.out] at HMY HPR HRP HHD HRR HBY hC2 hcc1 HTI HCC ⊢
  rw [hK.out] at HMY HMM HPR HRP HHD HFA HRF HRR HBY HTL hK1 hK40 ⊢
  rw [hT.out] at HMY HPR HRP HHD HRR HBY HTL hT1 hT2 HLA ⊢
  have HLC : Hid (∀ k, k < T → ∃ lb lo, lp = some ⟨lb, lo, none⟩ ∧ T ≤ lc ∧ lc ≤ 9223372036854775807 ∧ lb < w.heap.size ∧ t.getD k 0 < C ∧ t.getD k 0 ∈ t ∧ w.cell? ⟨lb, lo + k, none⟩ = some (.int .i64 ((t.getD k 0 : Nat) : Int))) := fun k hk => by
    have hkt : k < t.length := by rw [hT.out]; exact hk
    have hmem : t.getD k 0 ∈ t := by simp [List.getD, hkt]
    have hcC : t.getD k 0 < C := HTI.out _ hmem
    rcases HLA.out with ⟨e, _⟩ | ⟨b, off, cap, e, h0, h1', h2', h3', hc⟩
    · exfalso
      have : t = [] := by simpa [nI] using e
      rw [this] at hkt
      simp at hkt
    · injection e with e1 e2 e3
      subst e3
      refine ⟨b, off, e1, by omega, h2', h3', hcC, hmem, ?_⟩
      rw [hc k (by simp [nI]; exact hkt)]
      simp [nI, List.getD, hkt]
  have HLN : Hid (∀ c, c ∈ t → (cs.getD c (0, [])).2.length = (SS.getD c []).length) := fun c hc => by
    rw [(HCS.out c (by rw [hC.out]; exact HTI.out c hc)).1, List.length_map]
  have HB0 := hide ((Below.refl w.heap.size w).alloc (Nat.le_refl _) (mbox s n (.slice vp K vc)))
  obtain ⟨d0, d1, d2⟩ := mbox_cells w s n (.slice vp K vc)
  have g1 : ¬ 12 < (C : Int) := by omega
  have g2 : ¬ 60 < (T : Int) := by omega
  have g3 : ¬ 500 < (T : Int) := by omega
  have g4 : ¬ 40 < (K : Int) := by omega
  generalize hLe : T * K = L at *
  have HLE := hide hLe
  generalize hRt : tRow n ts SS t = R at *
  clear hLe hRt HLA HCA HTI HCS
  generalize hLd : ldr n ts = Ld at *
  have HLD := hide hLd
  clear hLd
  go_enter Try.func3, Try.ntmps3
  go_wp2_with fail
  refine (HMY.out _ HB0.out).mono ?_
  rintro e w1 ⟨rfl, hb1⟩
  have x1 : ∀ j, w1.cell? ⟨w.heap.size, j, none⟩ = (w.alloc (mbox s n (.slice vp K vc))).cell? ⟨w.heap.size, j, none⟩ := fun j => hb1.cell (p := ⟨w.heap.size, j, none⟩) (by simp)
  have hs0 : w.heap.size < w1.heap.size := Nat.lt_of_lt_of_le (by simp) hb1.size
  have m0 := (x1 0).trans d0
  have m1 := (x1 1).trans d1
  have m2 := (x1 2).trans d2
  have HB1 := hide (HB0.out.trans (hb1.mono HB0.out.size))
  clear hb1 x1 d0 d1 d2 HB0 HMY
  go_wp2_with fail
  refine (HPR.out _ HB1.out).mono ?_
  rintro e w2 ⟨r, q, i, j, rfl, hdup, hr, hb2⟩
  have HDUP := hide hdup
  have HRR2 := hide hr
  have hbA2 : Below w1.heap.size w1 (w2.alloc (repC L r q i j)) := hb2.alloc hb2.size _
  have x2 : ∀ j', (w2.alloc (repC L r q i j)).cell? ⟨w.heap.size, j', none⟩ = w1.cell? ⟨w.heap.size, j', none⟩ := fun j' => hbA2.cell (p := ⟨w.heap.size, j', none⟩) hs0
  have n0 := (x2 0).trans m0
  have n1 := (x2 1).trans m1
  have n2 := (x2 2).trans m2
  have HB2 := hide (HB1.out.trans (hbA2.mono HB1.out.size))
  have HN2 := hide (heap_alloc_new w2 (repC L r q i j))
  have hsz2 : w2.heap.size < (w2.alloc (repC L r q i j)).heap.size := by simp
  have hs2 : w.heap.size < w2.heap.size := Nat.lt_of_lt_of_le hs0 hb2.size
  clear hdup hr hb2 hbA2 x2 m0 m1 m2 HB1 HPR
  go_wp2_with fail
  refine (HHD.out _ HB2.out).mono ?_
  rintro e w3 ⟨hd, hvs, rfl, hL3, hb3⟩
  change Below (w2.alloc (repC L r q i j)).heap.size (w2.alloc (repC L r q i j)) w3 at hb3
  have HK3 := hide ((hb3.block w2.heap.size hsz2).trans HN2.out)
  have x3 : ∀ j', w3.cell? ⟨w.heap.size, j', none⟩ = (w2.alloc (repC L r q i j)).cell? ⟨w.heap.size, j', none⟩ := fun j' => hb3.cell (p := ⟨w.heap.size, j', none⟩) (by show w.heap.size < _; omega)
  have m0 := (x3 0).trans n0
  have m1 := (x3 1).trans n1
  have m2 := (x3 2).trans n2
  have HB3 := hide (HB2.out.trans (hb3.mono HB2.out.size))
  have HH3 := hide hL3.ints
  have hhl : hvs.length = T := by rw [hL3.len, headsOf_length]
  obtain ⟨hp, hc, rfl⟩ := owns_slice hL3.row
  rw [hhl] at HH3 ⊢
  have hs3 : w2.heap.size < w3.heap.size := Nat.lt_of_lt_of_le hsz2 hb3.size
  clear hL3 hb3 x3 n0 n1 n2 HB2 HHD HN2 hsz2 hhl
  go_wp2_with fail
  refine (HBY.out _ HB3.out).mono ?_
  rintro e w4 ⟨b, eb, rfl, hby1, hby2, hb4⟩
  have HY1 := hide hby1
  have HY2 := hide hby2
  have x4 : ∀ j', w4.cell? ⟨w.heap.size, j', none⟩ = w3.cell? ⟨w.heap.size, j', none⟩ := fun j' => hb4.cell (p := ⟨w.heap.size, j', none⟩) (by show w.heap.size < _; omega)
  have n0 := (x4 0).trans m0
  have n1 := (x4 1).trans m1
  have n2 := (x4 2).trans m2
  have HB4 := hide (HB3.out.trans (hb4.mono HB3.out.size))
  have HK4 := hide ((hb4.block w2.heap.size hs3).trans HK3.out)
  have HH4 := hide (HH3.out.below hb4)
  have hs4 : w2.heap.size < w4.heap.size := Nat.lt_of_lt_of_le hs3 hb4.size
  clear hby1 hby2 hb4 x4 m0 m1 m2 HB3 HK3 HH3 HBY hs3
  go_wp2_with fail
  refine (HFA.out _ HB4.out).mono ?_
  rintro e w5 ⟨u5, vs5, X5, t5, rfl, hpm5, hL5, hnd5, hb5⟩
  have HPM5 := hide hpm5
  rw [HLD.out] at HPM5 hnd5
  have HND5 := hide hnd5
  have HI5 := hide hL5.ints
  have hl5 : vs5.length = X5.length := hL5.len
  obtain ⟨p5, c5, rfl⟩ := owns_slice hL5.row
  rw [hl5] at HI5 ⊢
  have x5 : ∀ j', w5.cell? ⟨w.heap.size, j', none⟩ = w4.cell? ⟨w.heap.size, j', none⟩ := fun j' => hb5.cell (p := ⟨w.heap.size, j', none⟩) (by show w.heap.size < _; omega)
  have m0 := (x5 0).trans n0
  have m1 := (x5 1).trans n1
  have m2 := (x5 2).trans n2
  have HB5 := hide (HB4.out.trans (hb5.mono HB4.out.size))
  have HK5 := hide ((hb5.block w2.heap.size hs4).trans HK4.out)
  have HH5 := hide (HH4.out.below hb5)
  have hs5 : w2.heap.size < w5.heap.size := Nat.lt_of_lt_of_le hs4 hb5.size
  clear hpm5 hnd5 hL5 hl5 hb5 x5 n0 n1 n2 HB4 HK4 HH4 HFA hs4
  go_wp2_with fail
  refine (HMM.out _ HB5.out).mono ?_
  rintro e w6 ⟨rfl, hb6⟩
  have x6 : ∀ j', w6.cell? ⟨w.heap.size, j', none⟩ = w5.cell? ⟨w.heap.size, j', none⟩ := fun j' => hb6.cell (p := ⟨w.heap.size, j', none⟩) (by show w.heap.size < _; omega)
  have n0 := (x6 0).trans m0
  have n1 := (x6 1).trans m1
  have n2 := (x6 2).trans m2
  have HB6 := hide (HB5.out.trans (hb6.mono HB5.out.size))
  have HK6 := hide ((hb6.block w2.heap.size hs5).trans HK5.out)
  have HH6 := hide (HH5.out.below hb6)
  have HI6 := hide (HI5.out.below hb6)
  have hs6 : w2.heap.size < w6.heap.size := Nat.lt_of_lt_of_le hs5 hb6.size
  clear hb6 x6 m0 m1 m2 HB5 HK5 HH5 HI5 HMM hs5
  go_wp2_with fail
  refine (HRF.out _ HB6.out).mono ?_
  rintro e w7 ⟨u7, X7, t7, rfl, hI7, hnd7, hri7, hme7, hb7⟩
  have htt : t7 = t5 := by
    have h9 := hnd7.trans HND5.out.symm
    cases t5 <;> cases t7 <;> simp_all
  have hXX : X5 = X7 := by
    obtain ⟨pm, so⟩ := HPM5.out
    have hf := hdsTo_fact n (pr Ld)
    have hr5 : Ris X5 := so.imp (fun {a b} h => by rw [blw_lcmp]; exact decide_eq_false (Int.not_lt.2 h))
    refine rising_eq (hr5.rising (pm.nodup_iff.2 hf.1)) hri7 (fun x => ?_)
    rw [pm.mem_iff, hme7]
    exact hf.2.1 x
  subst htt hXX
  have x7 : ∀ j', w7.cell? ⟨w.heap.size, j', none⟩ = w6.cell? ⟨w.heap.size, j', none⟩ := fun j' => hb7.cell (p := ⟨w.heap.size, j', none⟩) (by show w.heap.size < _; omega)
  have m0 := (x7 0).trans n0
  have m1 := (x7 1).trans n1
  have m2 := (x7 2).trans n2
  have HB7 := hide (HB6.out.trans (hb7.mono HB6.out.size))
  have HK7 := hide ((hb7.block w2.heap.size hs6).trans HK6.out)
  have HH7 := hide (HH6.out.below hb7)
  have HSA0 := hide (sameAll_any _ _ _ _ w7 (HI6.out.below hb7) hI7)
  have HSA : Hid (Calls Try.prog 14 #[.slice p5 X5.length c5, u7] w7 fun e w' => e = .returned (.bool true) ∧ Below w7.heap.size w7 w') := HSA0.out.mono (fun e w' h => ⟨h.1.trans (by simp), h.2⟩)
  obtain ⟨p7, c7, rfl⟩ := hI7.len
  have hs7 : w2.heap.size < w7.heap.size := Nat.lt_of_lt_of_le hs6 hb7.size
  clear hI7 hnd7 hri7 hme7 hb7 x7 n0 n1 n2 HB6 HK6 HH6 HI6 HRF HPM5 HND5 HSA0 hs6
  go_wp2_with fail
  refine HSA.out.mono ?_
  rintro e w8 ⟨rfl, hb8⟩
  have x8 : ∀ j', w8.cell? ⟨w.heap.size, j', none⟩ = w7.cell? ⟨w.heap.size, j', none⟩ := fun j' => hb8.cell (p := ⟨w.heap.size, j', none⟩) (by show w.heap.size < _; omega)
  have n0 := (x8 0).trans m0
  have n1 := (x8 1).trans m1
  have n2 := (x8 2).trans m2
  have HB8 := hide (HB7.out.trans (hb8.mono HB7.out.size))
  have HK8 := hide ((hb8.block w2.heap.size hs7).trans HK7.out)
  have HH8 := hide (HH7.out.below hb8)
  have hs8 : w2.heap.size < w8.heap.size := Nat.lt_of_lt_of_le hs7 hb8.size
  have htn : (t7 != t7) = false := by simp
  clear hb8 x8 m0 m1 m2 HB7 HK7 HH7 HSA hs7
  go_wp2_with fail
  refine (HRP.out _ HB8.out).mono ?_
  rintro e w9 ⟨r9, q9, i9, j9, rfl, hdup9, hr9, hb9⟩
  obtain ⟨rfl, rfl, rfl⟩ := Dup.unique (by rw [HTL.out]; omega) HDUP.out hdup9
  have hrr : r9 = r := by
    rw [Bool.eq_iff_iff, hr9, HRR2.out, HT0.out]
    simp
  subst hrr
  have hbA9 : Below w8.heap.size w8 (w9.alloc (repC L r9 q i j)) := hb9.alloc hb9.size _
  have x9 : ∀ j', (w9.alloc (repC L r9 q i j)).cell? ⟨w.heap.size, j', none⟩ = w8.cell? ⟨w.heap.size, j', none⟩ := fun j' => hbA9.cell (p := ⟨w.heap.size, j', none⟩) (by show w.heap.size < _; omega)
  have m0 := (x9 0).trans n0
  have m1 := (x9 1).trans n1
  have m2 := (x9 2).trans n2
  have HB9 := hide (HB8.out.trans (hbA9.mono HB8.out.size))
  have HN9 := hide (heap_alloc_new w9 (repC L r9 q i j))
  have HK9 := hide ((hbA9.block w2.heap.size hs8).trans HK8.out)
  have HH9 := hide (HH8.out.below hbA9)
  have hs9 : w9.heap.size < (w9.alloc (repC L r9 q i j)).heap.size := by simp
  have hs9' : w2.heap.size < w9.heap.size := Nat.lt_of_lt_of_le hs8 hb9.size
  clear hdup9 hr9 hb9 hbA9 x9 n0 n1 n2 HB8 HK8 HH8 HRP HRR2 HT0 hs8
  go_wp2_with fail
  refine (HRR.out _ HB9.out).mono ?_
  rintro e wa ⟨rv, rvs, rfl, hLa, hba⟩
  change Below (w9.alloc (repC L r9 q i j)).heap.size (w9.alloc (repC L r9 q i j)) wa at hba
  have xa : ∀ j', wa.cell? ⟨w.heap.size, j', none⟩ = (w9.alloc (repC L r9 q i j)).cell? ⟨w.heap.size, j', none⟩ := fun j' => hba.cell (p := ⟨w.heap.size, j', none⟩) (by show w.heap.size < _; omega)
  have n2 := (xa 2).trans m2
  have HBa := hide (HB9.out.trans (hba.mono HB9.out.size))
  have HNa := hide ((hba.block w9.heap.size hs9).trans HN9.out)
  have HKa := hide ((hba.block w2.heap.size (by omega)).trans HK9.out)
  have HHa := hide (HH9.out.below hba)
  have HRa := hide hLa.ints
  have hrl : rvs.length = L + 1 := by rw [hLa.len, HTL.out]
  obtain ⟨rp, rc, rfl⟩ := owns_slice hLa.row
  rw [hrl] at ⊢
  have hRl : R.length = L + 1 := HTL.out
  have HRc := hRl
  have hsa : w9.heap.size < wa.heap.size := Nat.lt_of_lt_of_le hs9 hba.size
  clear hLa hba xa m0 m1 m2 HB9 HK9 HH9 HN9 HRR
  obtain ⟨hb', ho', hcp, hhe, hhb, hh1, hh2, hhcell⟩ := HHa.out.cell (by rw [headsOf_length]; exact hT1)
  rw [headsOf_length] at hhe hh1 hhcell
  simp only [Value.slice.injEq] at hhe
  obtain ⟨rfl, _, rfl⟩ := hhe
  have HHC := hide hhcell
  obtain ⟨rb, ro, rcp, hre, hrb, hr1, hr2, hrcell⟩ := HRa.out.cell (by rw [hRl]; omega)
  rw [hRl, hrl] at hre
  rw [hRl] at hr1 hrcell
  simp only [Value.slice.injEq] at hre
  obtain ⟨rfl, _, rfl⟩ := hre
  have HRC := hide hrcell
  have HRl := hide hRl
  clear hhcell hrcell HHa HRa hRl HRc hrl
  have HKa2 := HKa
  go_wp2
  go_loopw [21] (fun iv wr => ∃ k : Nat, k ≤ T ∧ iv = .int .i64 k ∧ Hid (Below wa.heap.size wa wr)) (fun iv _ => T - (intOf iv).toNat)
  case atStart => exact ⟨0, by omega, rfl, Below.refl _ _⟩
  case round =>
    obtain ⟨k, hk, rfl, hbr⟩ := hrel
    have hbs := hbr.out.size
    have n2' := (hbr.out.cell (p := ⟨w.heap.size, 2, none⟩) (by show w.heap.size < _; omega)).trans n2
    by_cases hkT : k < T
    · have hkK : k * K ≤ T * K := Nat.mul_le_mul_right K hk
      rw [HLE.out] at hkK
      have hLb : L ≤ 2400 := by rw [← HLE.out]; exact Nat.mul_le_mul hT2 hK40
      obtain ⟨xp, xc, hcx, hix⟩ := HHC.out k hkT
      obtain ⟨yp, yc, hcy, hiy⟩ := HRC.out (k * K) (by omega)
      have hhe9 := headsOf_at R (k := K) hkT
      rw [hhe9] at hcx hix
      have gx := (hbr.out.cell (p := ⟨hb', ho' + k, none⟩) hhb).trans hcx
      have gy := (hbr.out.cell (p := ⟨rb, ro + k * K, none⟩) hrb).trans hcy
      have HSM : Hid (∀ W, Below wr.heap.size wr W → Calls Try.prog 17 #[.slice xp (R.getD (k * K) []).length xc, .slice yp (R.getD (k * K) []).length yc] W fun e w' => e = .returned (.bool true) ∧ Below W.heap.size W w') := fun W hW => (same_any _ _ _ _ W ((hix.out.below hbr.out).below hW) ((hiy.out.below hbr.out).below hW)).mono (fun e w' h => ⟨h.1.trans (by simp), h.2⟩)
      obtain ⟨m, hm⟩ : ∃ m, Hid (k * K = m) := ⟨_, rfl⟩
      have hmi : (k : Int) * (K : Int) = (m : Int) := by rw [← hm.out]; exact (Int.natCast_mul k K).symm
      have hmw : IntKind.i64.wrap (m : Int) = (m : Int) := by rw [IntKind.wrap_i64]; have := hm.out; omega
      rw [hm.out] at gx gy HSM hkK
      have hmL : m < L + 1 := by omega
      have hmLi : (m : Int) < ((L + 1 : Nat) : Int) := by omega
      generalize (R.getD m []).length = xn at *
      have hTT : ((T : Int) != (T : Int)) = false := by simp
      have hbw : hb' < wr.heap.size := Nat.lt_of_lt_of_le hhb hbs
      have hbw2 : rb < wr.heap.size := Nat.lt_of_lt_of_le hrb hbs
      have hbw3 : w.heap.size < wr.heap.size := by omega
      clear hcx hcy hix hiy hhe9
      go_upto_region 23 with fail
      refine wp_region_held_drew (S := fun W' => W'.cell? ⟨hb', ho' + k, none⟩ = some (.slice xp xn xc) ∧ W'.cell? ⟨rb, ro + m, none⟩ = some (.slice yp xn yc) ∧ W'.cell? ⟨w.heap.size, 2, none⟩ = some (.slice vp K vc)) (by kernel_rfl) ⟨gx, gy, n2'⟩ (fun hS => ?_)
      refine wpAnyH_take (i := 0) (v := .slice (some ⟨hb', ho', none⟩) T hc) rfl (by kernel_rfl) (by kernel_rfl) (by kernel_rfl) (fun _ _ _ h => h) (Or.inl ⟨by kernel_rfl, fun w' hS' => by obtain ⟨q0, q1, q2⟩ := hS'; go_simp⟩) hS ?_
      refine wpAnyH_take (i := 1) (v := .int .i64 T) rfl (by kernel_rfl) (by kernel_rfl) (by kernel_rfl) (fun _ _ _ h => h) (Or.inl ⟨by kernel_rfl, fun w' hS' => by obtain ⟨q0, q1, q2⟩ := hS'; go_simp⟩) hS ?_
      refine wpAnyH_take (i := 2) (v := .slice lp T lc) rfl (by kernel_rfl) (by kernel_rfl) (by kernel_rfl) (fun _ _ _ h => h) (Or.inl ⟨by kernel_rfl, fun w' hS' => by obtain ⟨q0, q1, q2⟩ := hS'; go_simp⟩) hS ?_
      refine wpAnyH_take (i := 3) (v := .int .i64 T) rfl (by kernel_rfl) (by kernel_rfl) (by kernel_rfl) (fun _ _ _ h => h) (Or.inl ⟨by kernel_rfl, fun w' hS' => by obtain ⟨q0, q1, q2⟩ := hS'; go_simp⟩) hS ?_
      refine wpAnyH_take (i := 4) (v := .bool false) rfl (by kernel_rfl) (by kernel_rfl) (by kernel_rfl) (fun _ _ _ h => h) (Or.inl ⟨by kernel_rfl, fun w' hS' => by obtain ⟨q0, q1, q2⟩ := hS'; go_simp⟩) hS ?_
      refine wpAnyH_take (i := 5) (v := .bool false) rfl (by kernel_rfl) (by kernel_rfl) (by kernel_rfl) (fun _ _ _ h => h) (Or.inl ⟨by kernel_rfl, fun w' hS' => by obtain ⟨q0, q1, q2⟩ := hS'; go_simp⟩) hS ?_
      refine wpAnyH_take (i := 6) (v := .slice (some ⟨hb', ho', none⟩) T hc) rfl (by kernel_rfl) (by kernel_rfl) (by kernel_rfl) (fun _ _ _ h => h) (Or.inl ⟨by kernel_rfl, fun w' hS' => by obtain ⟨q0, q1, q2⟩ := hS'; go_simp⟩) hS ?_
      refine wpAnyH_take (i := 7) (v := .int .i64 k) rfl (by kernel_rfl) (by kernel_rfl) (by kernel_rfl) (fun _ _ _ h => h) (Or.inl ⟨by kernel_rfl, fun w' hS' => by obtain ⟨q0, q1, q2⟩ := hS'; go_simp⟩) hS ?_
      refine wpAnyH_take (i := 8) (v := .pointer (some ⟨hb', ho' + k, none⟩)) rfl (by kernel_rfl) (by kernel_rfl) (by kernel_rfl) (fun _ _ _ h => h) (Or.inl ⟨by kernel_rfl, fun w' hS' => by obtain ⟨q0, q1, q2⟩ := hS'; go_simp; (try omega)⟩) hS ?_
      refine wpAnyH_take (i := 9) (v := .slice xp xn xc) rfl (by kernel_rfl) (by kernel_rfl) (by kernel_rfl) (fun _ _ _ h => h) (Or.inl ⟨by kernel_rfl, fun w' hS' => by obtain ⟨q0, q1, q2⟩ := hS'; go_simp⟩) hS ?_
      refine wpAnyH_take (i := 10) (v := .slice (some ⟨rb, ro, none⟩) (L + 1) rc) rfl (by kernel_rfl) (by kernel_rfl) (by kernel_rfl) (fun _ _ _ h => h) (Or.inl ⟨by kernel_rfl, fun w' hS' => by obtain ⟨q0, q1, q2⟩ := hS'; go_simp⟩) hS ?_
      refine wpAnyH_take (i := 11) (v := .int .i64 k) rfl (by kernel_rfl) (by kernel_rfl) (by kernel_rfl) (fun _ _ _ h => h) (Or.inl ⟨by kernel_rfl, fun w' hS' => by obtain ⟨q0, q1, q2⟩ := hS'; go_simp⟩) hS ?_
      refine wpAnyH_take (i := 12) (v := .pointer (some ⟨w.heap.size, 2, none⟩)) rfl (by kernel_rfl) (by kernel_rfl) (by kernel_rfl) (fun _ _ _ h => h) (Or.inl ⟨by kernel_rfl, fun w' hS' => by obtain ⟨q0, q1, q2⟩ := hS'; go_simp⟩) hS ?_
      refine wpAnyH_take (i := 13) (v := .slice vp K vc) rfl (by kernel_rfl) (by kernel_rfl) (by kernel_rfl) (fun _ _ _ h => h) (Or.inl ⟨by kernel_rfl, fun w' hS' => by obtain ⟨q0, q1, q2⟩ := hS'; go_simp⟩) hS ?_
      refine wpAnyH_take (i := 14) (v := .int .i64 K) rfl (by kernel_rfl) (by kernel_rfl) (by kernel_rfl) (fun _ _ _ h => h) (Or.inl ⟨by kernel_rfl, fun w' hS' => by obtain ⟨q0, q1, q2⟩ := hS'; go_simp⟩) hS ?_
      refine wpAnyH_take (i := 15) (v := .int .i64 m) rfl (by kernel_rfl) (by kernel_rfl) (by kernel_rfl) (fun _ _ _ h => h) (Or.inl ⟨by kernel_rfl, fun w' hS' => by obtain ⟨q0, q1, q2⟩ := hS'; go_simp; (try (rw [IntKind.wrap_i64]; omega))⟩) hS ?_
      refine wpAnyH_take (i := 16) (v := .pointer (some ⟨rb, ro + m, none⟩)) rfl (by kernel_rfl) (by kernel_rfl) (by kernel_rfl) (fun _ _ _ h => h) (Or.inl ⟨by kernel_rfl, fun w' hS' => by obtain ⟨q0, q1, q2⟩ := hS'; go_simp; (try omega)⟩) hS ?_
      refine wpAnyH_take (i := 17) (v := .slice yp xn yc) rfl (by kernel_rfl) (by kernel_rfl) (by kernel_rfl) (fun _ _ _ h => h) (Or.inl ⟨by kernel_rfl, fun w' hS' => by obtain ⟨q0, q1, q2⟩ := hS'; go_simp⟩) hS ?_
      refine wpAnyH_ready (rs := [18]) (by kernel_rfl) (by simp) ?_
      refine AllReadyH.cons rfl (fun K9 hK9 => ?_) AllReadyH.nil
      go_simp
      have hdr : Below wr.heap.size wr wr.drew := (Below.refl _ _).drew
      refine (HSM.out wr.drew hdr).mono ?_
      rintro e w4' ⟨rfl, hb4⟩
      have hb4' : Below wr.heap.size wr w4' := hdr.trans hb4
      refine hK9.out _ _ ⟨(hb4'.cell (p := ⟨hb', ho' + k, none⟩) hbw).trans gx, (hb4'.cell (p := ⟨rb, ro + m, none⟩) hbw2).trans gy, (hb4'.cell (p := ⟨w.heap.size, 2, none⟩) hbw3).trans n2'⟩ (fun hS => ?_)
      clear hK9
      refine wpAnyH_take (i := 19) (v := .bool false) rfl (by kernel_rfl) (by kernel_rfl) (by kernel_rfl) (fun _ _ _ h => h) (Or.inl ⟨by kernel_rfl, fun w' hS' => by obtain ⟨q0, q1, q2⟩ := hS'; go_simp⟩) hS ?_
      refine wpAnyH_take (i := 20) (v := .bool false) rfl (by kernel_rfl) (by kernel_rfl) (by kernel_rfl) (fun _ _ _ h => h) (Or.inl ⟨by kernel_rfl, fun w' hS' => by obtain ⟨q0, q1, q2⟩ := hS'; go_simp⟩) hS ?_
      refine wpAnyH_done (by kernel_rfl) ?_ _
      have HBX := hide (hbr.out.trans (hb4'.mono hbs))
      clear hS gx gy n2' HSM hb4 hb4' hdr hbr hmi hmw hmLi
      go_wp2
      go_roundw
      case rel => exact ⟨k + 1, by omega, by go_num, HBX⟩
      case measure => simp [intOf]; omega
    · obtain rfl : k = T := by omega
      have HKr := hide ((hbr.out.block w2.heap.size (by omega)).trans HKa.out)
      have HNr := hide ((hbr.out.block w9.heap.size (by omega)).trans HNa.out)
      have HBr := hide (HBa.out.trans (hbr.out.mono HBa.out.size))
      have HCr : Hid (∀ c, c < C → ∃ u : Option Addr × Nat, wr.cell? ⟨cb, co + c * 2, none⟩ = some (.int .i32 (cs.getD c (0, [])).1) ∧ wr.cell? ⟨cb, co + c * 2 + 1, none⟩ = some (.slice u.1 (cs.getD c (0, [])).2.length u.2)) := fun c hc => by
        obtain ⟨u, a1, a2, a3⟩ := HCC.out c hc
        obtain ⟨p, c', e⟩ := a3.len
        refine ⟨(p, c'), (HBr.out.cell (p := ⟨cb, co + c * 2, none⟩) hcb).trans a1, ?_⟩
        rw [e] at a2
        exact (HBr.out.cell (p := ⟨cb, co + c * 2 + 1, none⟩) hcb).trans a2
      have HLr : Hid (∀ j, j < k → ∃ lb lo, lp = some ⟨lb, lo, none⟩ ∧ k ≤ lc ∧ lc ≤ 9223372036854775807 ∧ t.getD j 0 < C ∧ t.getD j 0 ∈ t ∧ wr.cell? ⟨lb, lo + j, none⟩ = some (.int .i64 ((t.getD j 0 : Nat) : Int))) := fun j hj => by
        obtain ⟨lb, lo, e, h1, h2, h3, h4, h5, h6⟩ := HLC.out j hj
        exact ⟨lb, lo, e, h1, h2, h4, h5, (HBr.out.cell (p := ⟨lb, lo + j, none⟩) h3).trans h6⟩
      clear hbr HHC HRC HKa HNa HBa HLC HCC n2 n2' HTL HRW HLR HLE HKa2
      generalize wr = wz at *
      go_wp2
      go_loop [22, 23] (fun ov kv => ∃ (o : Bool) (m : Nat), m ≤ k ∧ ov = .bool o ∧ kv = .int .i64 m ∧ Hid (o = true ↔ ∀ j, j < m → (SS.getD (t.getD j 0) []).length ≤ 1)) (fun _ kv => k - (intOf kv).toNat)
      case atStart => exact ⟨true, 0, by omega, rfl, rfl, ⟨fun _ j hj => absurd hj (by omega), fun _ => rfl⟩⟩
      case round =>
        obtain ⟨o, m, hm, rfl, rfl, ho⟩ := hrel
        by_cases hmk : m < k
        · obtain ⟨lb, lo, rfl, hl1, hl2, hcC, hcm, hcl⟩ := HLr.out m hmk
          obtain ⟨⟨up, uc⟩, a1, a2⟩ := HCr.out (t.getD m 0) hcC
          have hln := HLN.out _ hcm
          have HST : Hid (∀ o' : Bool, (o' = true ↔ o = true ∧ (SS.getD (t.getD m 0) []).length ≤ 1) → (o' = true ↔ ∀ j, j < m + 1 → (SS.getD (t.getD j 0) []).length ≤ 1)) := fun o' h' => by
            rw [h', ho.out]
            constructor
            · rintro ⟨h8, h9⟩ j hj
              rcases Nat.lt_succ_iff_lt_or_eq.1 hj with h | h
              · exact h8 j h
              · rw [h]; exact h9
            · intro h8
              exact ⟨fun j hj => h8 j (by omega), h8 m (by omega)⟩
          rw [hln] at a2
          clear hln hcm ho
          generalize t.getD m 0 = c at *
          generalize (SS.getD c []).length = ul at *
          have hcCi : (c : Int) < (C : Int) := by omega
          cases o with
          | false =>
            have HF := hide (HST.out false (by simp))
            clear HST
            go_wp2
            go_round
            case rel => exact ⟨false, m + 1, by omega, rfl, by go_num, HF⟩
            case measure => simp [intOf]; omega
          | true =>
            by_cases hul : ul ≤ 1
            · have HF := hide (HST.out true (by simp [hul]))
              have hui : (ul : Int) < 2 := by omega
              have hud : decide ((ul : Int) < 2) = true := decide_eq_true hui
              have hud2 : decide (ul < 2) = true := decide_eq_true (by omega)
              clear HST
              go_wp2
              go_round
              case rel => exact ⟨true, m + 1, by omega, rfl, by go_num, HF⟩
              case measure => simp [intOf]; omega
            · have HF := hide (HST.out false (by simp [hul]))
              have hui : ¬ (ul : Int) < 2 := by omega
              have hud : decide ((ul : Int) < 2) = false := decide_eq_false hui
              have hud2 : decide (ul < 2) = false := decide_eq_false (by omega)
              clear HST
              go_wp2
              go_round
              case rel => exact ⟨false, m + 1, by omega, rfl, by go_num, HF⟩
              case measure => simp [intOf]; omega
        · obtain rfl : m = k := by omega
          have hoo : o = one := by
            rw [Bool.eq_iff_iff, ho.out, HONE.out]
            constructor
            · intro h9 c hc
              obtain ⟨j, hj, e⟩ := List.getElem_of_mem hc
              have := h9 j (by rw [← hT.out]; exact hj)
              have e2 : t.getD j 0 = c := by rw [List.getD, List.getElem?_eq_getElem hj, Option.getD_some, e]
              rw [e2] at this
              exact this
            · intro h9 j hj
              exact h9 _ (by have hj' : j < t.length := by rw [hT.out]; exact hj
                             simp [List.getD, hj'])
          subst hoo
          obtain ⟨z0, z1, z2, z3, z4, _⟩ := cells5 HKr.out
          obtain ⟨y0, y1, y2, y3, y4, _⟩ := cells5 HNr.out
          clear ho HONE HLr HCr HLN HKr HNr
          cases o with
          | false =>
            obtain ⟨rfl, rfl⟩ := HY2.out rfl
            clear HY1 HY2 HDUP
            go_wp2
            go_ret
            exact ⟨by simp, HBr.out⟩
          | true =>
            obtain ⟨rfl, hbn⟩ := HY1.out rfl
            have hbq : b = q := by
              rw [Bool.eq_iff_iff, hbn]
              rcases HDUP.out with ⟨h1, h2, _⟩ | ⟨h1, i', j', h2, h3, h4, h5, _⟩
              · simp [h1, h2]
              · rw [h1]
                constructor
                · intro h9
                  exact absurd h9 (not_nodup_of h2 h3 (by rw [HRl.out]; omega) h4.symm)
                · intro h9; cases h9
            subst hbq
            clear HY1 HY2 HDUP hbn
            go_wp2
            go_ret
            exact ⟨by simp, HBr.out⟩

end Go.Proofs.Ytoiiadiimfohiaa
