/- Joined: XtF, XtG, GMay, XuA, AppV. -/
import Derived.Test.YtnmjgepobcanfaaJ5
import Derived.Test.YtnmjgepobcanfaaJ4
import Derived.Test.YtnmjgepobcanfaaJ2
import Derived.Test.YtnmjgepobcanfaaJ3
/- Contracts: extent.unlike (with slices.ContainsFunc over its closure), extent.checkCircuit. -/
namespace Go.Proofs.Ytnmjgepobcanfaa
open Go.RowKit

set_option maxRecDepth 20000 in
set_option maxHeartbeats 1000000 in
theorem again_ok (va vc : Value) (a c : List Int) (D : Nat) (w : World) (hD : w.cell? ⟨D, 0, none⟩ = some vc) (ha : Ints w va a) (hc : Ints w vc c) :
    Calls Try.prog 23 #[va, .pointer (some ⟨D, 0, none⟩)] w fun e w' => e = .returned (.bool (decide (a = c))) ∧ Below w.heap.size w w' := by
  have HE := hide (equal_any va vc a c w ha hc)
  obtain ⟨p1, c1, rfl⟩ := ha.form
  obtain ⟨p2, c2, rfl⟩ := hc.form
  clear ha hc
  generalize decide (a = c) = z at *
  go_enter Try.func23, Try.ntmps23
  go_wp2_with fail
  refine HE.out.mono ?_
  rintro e w' ⟨rfl, hb⟩
  go_wp2
  go_ret
  exact ⟨rfl, hb⟩

set_option maxRecDepth 20000 in
set_option maxHeartbeats 1000000 in
theorem indexAgain_ok (v vc : Value) (X : List (List Int)) (c : List Int) (D : Nat) (w : World) (hD : w.cell? ⟨D, 0, none⟩ = some vc) (hDs : D < w.heap.size) (hX : IntsAll w v X) (hc : Ints w vc c) (hl : X.length ≤ 1000) :
    Calls Try.prog 35 #[v, .func (.func 23) #[] #[.pointer (some ⟨D, 0, none⟩)]] w fun e w' => ∃ r : Int, e = .returned (.int .i64 r) ∧ (0 ≤ r ↔ c ∈ X) ∧ -1 ≤ r ∧ r ≤ 1000 ∧ Below w.heap.size w w' := by
  obtain ⟨p0, c0, rfl⟩ := hX.len
  have HX := hide hX
  have HC := hide hc
  have HD := hide hD
  clear hX hc hD
  go_enter Try.func35, Try.ntmps35
  go_wp2
  go_loopw [8] (fun i wr => ∃ k : Nat, k ≤ X.length ∧ i = .int .i64 k ∧ Hid (∀ j, j < k → X.getD j [] ≠ c) ∧ Below w.heap.size w wr) (fun i _ => X.length - (intOf i).toNat)
  case atStart => exact ⟨0, by omega, rfl, (fun j hj => absurd hj (by omega)), Below.refl _ _⟩
  case round =>
    obtain ⟨k, hk, rfl, hN, hbw⟩ := hrel
    by_cases hlt : k < X.length
    · obtain ⟨b, off, cap, he, hb3, hlc3, hcm3, hcell3⟩ := (HX.out.below hbw).cell (by omega)
      simp only [Value.slice.injEq] at he
      obtain ⟨rfl, _, rfl⟩ := he
      obtain ⟨q, cc, hce, hint⟩ := hcell3 k hlt
      have HA := hide (again_ok _ vc _ c D wr ((hbw.cell (p := ⟨D, 0, none⟩) hDs).trans HD.out) hint.out (HC.out.below hbw))
      clear hcell3 hint
      by_cases hx : X.getD k [] = c
      · have hmem : c ∈ X := by rw [← hx, List.getD, List.getElem?_eq_getElem hlt]; exact List.getElem_mem hlt
        have HMem := hide hmem
        rw [decide_eq_true hx] at HA
        clear hx hmem
        generalize (X.getD k []).length = xl at *
        go_wp2_with fail
        refine HA.out.mono ?_
        rintro e w2 ⟨rfl, hb2⟩
        have hB2 := hbw.trans (hb2.mono hbw.size)
        clear hb2
        go_wp2
        go_ret
        exact ⟨_, rfl, ⟨fun _ => HMem.out, fun _ => by omega⟩, by omega, by omega, hB2⟩
      · rw [decide_eq_false hx] at HA
        have HN2 : Hid (∀ j, j < k + 1 → X.getD j [] ≠ c) := fun j hj => by
          rcases Nat.lt_succ_iff_lt_or_eq.1 hj with h | h
          · exact hN.out j h
          · rw [h]; exact hx
        clear hx
        generalize (X.getD k []).length = xl at *
        go_wp2_with fail
        refine HA.out.mono ?_
        rintro e w2 ⟨rfl, hb2⟩
        have hB2 := hbw.trans (hb2.mono hbw.size)
        clear hb2
        go_wp2
        go_roundw
        case rel => exact ⟨k + 1, by omega, by go_num, HN2, hB2⟩
        case measure => simp [intOf]; omega
    · have HNM : Hid (¬ c ∈ X) := fun h => by
        obtain ⟨j, hj, e⟩ := List.getElem_of_mem h
        exact hN.out j (by omega) (by rw [List.getD, List.getElem?_eq_getElem hj]; exact e)
      go_wp2
      go_ret
      exact ⟨-1, rfl, ⟨fun h => absurd h (by omega), fun h => absurd h HNM.out⟩, by omega, by omega, hbw⟩

set_option maxRecDepth 20000 in
set_option maxHeartbeats 1000000 in
theorem containsAgain_ok (v vc : Value) (X : List (List Int)) (c : List Int) (D : Nat) (w : World) (hD : w.cell? ⟨D, 0, none⟩ = some vc) (hDs : D < w.heap.size) (hX : IntsAll w v X) (hc : Ints w vc c) (hl : X.length ≤ 1000) :
    Calls Try.prog 25 #[v, .func (.func 23) #[] #[.pointer (some ⟨D, 0, none⟩)]] w fun e w' => e = .returned (.bool (decide (c ∈ X))) ∧ Below w.heap.size w w' := by
  have HI := hide (indexAgain_ok v vc X c D w hD hDs hX hc hl)
  obtain ⟨p0, c0, rfl⟩ := hX.len
  clear hX hc hD
  go_enter Try.func25, Try.ntmps25
  go_wp2_with fail
  refine HI.out.mono ?_
  rintro e w' ⟨r, rfl, hr, h1, h2, hb⟩
  have HE : Hid (decide (c ∈ X) = decide (0 ≤ r)) := by show _ = _; rw [decide_eq_decide]; exact hr.symm
  clear hr
  go_wp2
  go_ret
  exact ⟨ret_bool HE.out.symm, hb⟩

/-- The numbers of lists that were not there ahead. -/
def unl (L : List (List Int)) (k : Nat) : List Nat := (List.range k).filter (fun i => decide (¬ L.getD i [] ∈ L.take i))

theorem unl_snoc (L : List (List Int)) (k : Nat) : unl L (k + 1) = unl L k ++ (if L.getD k [] ∈ L.take k then [] else [k]) := by
  unfold unl
  rw [List.range_succ, List.filter_append]
  by_cases h : L.getD k [] ∈ L.take k
  · rw [if_pos h]
    simp; exact h
  · rw [if_neg h]
    simp; exact h

theorem unl_le (L : List (List Int)) (k : Nat) : (unl L k).length ≤ k := Nat.le_trans (List.length_filter_le _ _) (by simp)

theorem unl_tried (L : List (List Int)) (nx : Nat → Nat → Nat) (h : ∀ i j, i < L.length → j < L.length → L.getD i [] = L.getD j [] → ∀ a, nx i a = nx j a) : Tried nx L.length (unl L L.length) := by
  refine ⟨fun k hk => ?_, ?_, fun k => ?_⟩
  · have := (List.mem_filter.1 hk).1
    simpa using this
  · exact List.Pairwise.filter _ List.pairwise_lt_range
  · induction k using Nat.strongRecOn with
    | ind k ih =>
      intro hk
      by_cases hm : L.getD k [] ∈ L.take k
      · obtain ⟨j, hj, e⟩ := List.getElem_of_mem hm
        have hj2 : j < k := by rw [List.length_take] at hj; omega
        have e2 : L.getD j [] = L.getD k [] := by
          rw [← e, List.getElem_take, List.getD, List.getElem?_eq_getElem (by omega)]; rfl
        obtain ⟨k', h1, h2, h3⟩ := ih j hj2 (by omega)
        exact ⟨k', h1, by omega, fun a => (h3 a).trans (h j k (by omega) hk e2 a)⟩
      · exact ⟨k, List.mem_filter.2 ⟨by simpa using hk, by simpa using hm⟩, Nat.le_refl _, fun _ => rfl⟩

set_option maxRecDepth 20000 in
set_option maxHeartbeats 2000000 in
theorem unlike_ok (v : Value) (L : List (List Int)) (w : World) (hX : IntsAll w v L) (hl : L.length ≤ 100) :
    Calls Try.prog 12 #[v] w fun e w' => ∃ u, e = .returned u ∧ w'.ownsRow w.heap.size 3 1 u (unl L L.length).length ((nI (unl L L.length)).map (Value.int .i64)) ∧ Below w.heap.size w w' := by
  obtain ⟨i0, hi, hz0, hz1, hz2⟩ := info_parts Try.info3
  have hmf : ∀ (fn : Fn) (first cap : Array Value) (w : World), (Instr.makeFunc fn first cap).run Try.prog w = .ok (.func fn first cap) w := fun _ _ _ _ => rfl
  obtain ⟨p0, c0, rfl⟩ := hX.len
  have HX := hide hX
  clear hX
  go_enter Try.func12, Try.ntmps12
  go_wp2
  go_loopw [3, 9] (fun u i wr => ∃ k : Nat, k ≤ L.length ∧ i = .int .i64 k ∧ Hid (wr.ownsRow w.heap.size 3 1 u (unl L k).length ((nI (unl L k)).map (Value.int .i64))) ∧ Below w.heap.size w wr) (fun _ i _ => L.length - (intOf i).toNat)
  case atStart => exact ⟨0, by omega, rfl, World.ownsRow_nil _ _ _ _, Below.refl _ _⟩
  case round =>
    obtain ⟨k, hk, rfl, hO, hbw⟩ := hrel
    have hbs := hbw.size
    have hul := unl_le L k
    by_cases hlt : k < L.length
    · obtain ⟨b, off, cap, he, hb3, hlc3, hcm3, hcell3⟩ := (HX.out.below hbw).cell (by omega)
      simp only [Value.slice.injEq] at he
      obtain ⟨rfl, _, rfl⟩ := he
      obtain ⟨q, cc, hce, hint⟩ := hcell3 k hlt
      have HCF := hide (fun W (hBA : Below wr.heap.size wr W) (hDc : W.cell? ⟨wr.heap.size, 0, none⟩ = some (.slice q (L.getD k []).length cc)) (hs : wr.heap.size < W.heap.size) => containsAgain_ok (.slice (some ⟨b, off, none⟩) k c0) (.slice q (L.getD k []).length cc) (L.take k) (L.getD k []) wr.heap.size W hDc hs (((HX.out.below hbw).cut rfl hk).below hBA) (hint.out.below hBA) (by rw [List.length_take]; omega))
      have HU := hide (unl_snoc L k)
      obtain ⟨up, uc, hup⟩ := owns_slice hO.out
      subst hup
      clear hcell3 hint
      generalize hln : (unl L k).length = ln at *
      have HLN := hide hln
      clear hln
      by_cases hm : L.getD k [] ∈ L.take k
      · rw [decide_eq_true hm] at HCF
        rw [if_pos hm, List.append_nil] at HU
        clear hm
        generalize (L.getD k []).length = xl at *
        go_wp2_with fail
        have hBA : Below wr.heap.size wr (wr.alloc (.cells #[.slice q xl cc] 23)) := (Below.refl _ _).alloc (Nat.le_refl _) _
        have hDc : (wr.alloc (.cells #[.slice q xl cc] 23)).cell? ⟨wr.heap.size, 0, none⟩ = some (.slice q xl cc) := by
          have h9 := heap_alloc_new wr (.cells #[.slice q xl cc] 23)
          unfold World.cell?; simp only [h9]; rfl
        refine (HCF.out _ hBA hDc (by simp)).mono ?_
        rintro e w2 ⟨rfl, hb2⟩
        have hB2 : Below wr.heap.size wr w2 := hBA.trans (hb2.mono hBA.size)
        have HO2 := hide (owns_below hO.out hB2 (Nat.le_refl _))
        have hB3 : Below w.heap.size w w2 := hbw.trans (hB2.mono hbs)
        have hbs3 := hB3.size
        clear hB2 hb2 hBA hDc HCF hO hbw
        go_wp2
        go_roundw
        case rel => exact ⟨k + 1, by omega, by go_num, by show World.ownsRow _ _ _ _ _ _ _; rw [HU.out, HLN.out]; exact HO2.out, hB3⟩
        case measure => simp [intOf]; omega
      · rw [decide_eq_false hm] at HCF
        rw [if_neg hm] at HU
        clear hm
        generalize (L.getD k []).length = xl at *
        go_wp2_with fail
        have hBA : Below wr.heap.size wr (wr.alloc (.cells #[.slice q xl cc] 23)) := (Below.refl _ _).alloc (Nat.le_refl _) _
        have hDc : (wr.alloc (.cells #[.slice q xl cc] 23)).cell? ⟨wr.heap.size, 0, none⟩ = some (.slice q xl cc) := by
          have h9 := heap_alloc_new wr (.cells #[.slice q xl cc] 23)
          unfold World.cell?; simp only [h9]; rfl
        refine (HCF.out _ hBA hDc (by simp)).mono ?_
        rintro e w2 ⟨rfl, hb2⟩
        have hB2 : Below wr.heap.size wr w2 := hBA.trans (hb2.mono hBA.size)
        have HO2 := hide (owns_below hO.out hB2 (Nat.le_refl _))
        have hB3 : Below w.heap.size w w2 := hbw.trans (hB2.mono hbs)
        have hbs3 := hB3.size
        clear hB2 hb2 hBA hDc HCF hO hbw
        have hrow := HO2.out
        go_wp2_with (at_builtin; refine wpList_append_own _ rfl _ _ 23 rfl w.heap.size 3 i0 (.int .i64 0) 1 8 Try.underlying23 hi hz0 hz1 hz2 rfl (by decide) _ _ _ rfl (hrow.alloc _) ⟨w2.heap.size, 0, none⟩ 1 1 [.int .i64 (k : Int)] rfl rfl ?c1 ?c2 ?c3 ?c4 ?c5 ?_)
        case c1 => exact cell_one_new _ _ _
        case c2 => intro u hu; simp at hu; subst hu; rfl
        case c3 => unfold maxLen; omega
        case c4 => omega
        case c5 => simp; omega
        intro v' w4 hown4 hgrow _
        have HO4 : Hid (w4.ownsRow w.heap.size 3 1 v' (unl L (k + 1)).length ((nI (unl L (k + 1))).map (Value.int .i64))) := by
          show World.ownsRow _ _ _ _ _ _ _
          rw [HU.out, List.length_append, HLN.out, show nI (unl L k ++ [k]) = nI (unl L k) ++ [(k : Int)] from by simp [nI], List.map_append]
          exact hown4
        have hB4 : Below w.heap.size w w4 := (hB3.alloc hbs3 _).grown hgrow (by simp; omega) (fun g hg => (hrow.lt g hg).1)
        clear hown4 hgrow hrow HO2
        go_wp2
        go_roundw
        case rel => exact ⟨k + 1, by omega, by go_num, HO4, hB4⟩
        case measure => simp [intOf]; omega
    · obtain rfl : k = L.length := by omega
      go_wp2
      go_ret
      exact ⟨_, rfl, hO.out, hbw⟩

set_option maxRecDepth 20000 in
set_option maxHeartbeats 2000000 in
theorem checkCircuit_ok (n : Nat) (v : Value) (L : List (List Int)) (w : World) (h1 : 1 ≤ n) (h4 : n ≤ 4) (hX : IntsAll w v L) (hl : L.length ≤ 8) (hr : RowsN n L) (ho : ∀ x, x ∈ L → ord x ≤ 2) :
    Calls Try.prog 10 #[.int .i64 n, v] w fun e w' => e = .returned (.int .i64 0) ∧ Below w.heap.size w w' := by
  have HG := hide (gcheck_ok n v L w hX h1 (by omega) hl)
  rw [gchk_rows h1 (by omega) hr] at HG
  obtain ⟨p0, c0, rfl⟩ := hX.len
  have HX := hide hX
  have HR := hide hr
  have HO := hide ho
  clear hX hr ho
  go_enter Try.func10, Try.ntmps10
  go_wp2_with fail
  refine HG.out.mono ?_
  rintro e w1 ⟨rfl, hb1⟩
  clear HG
  go_wp2
  go_loopw [25] (fun i wr => ∃ k : Nat, k ≤ L.length ∧ i = .int .i64 k ∧ Below w.heap.size w wr) (fun i _ => L.length - (intOf i).toNat)
  case atStart => exact ⟨0, by omega, rfl, hb1⟩
  case round =>
    clear hb1
    obtain ⟨k, hk, rfl, hbw⟩ := hrel
    by_cases hlt : k < L.length
    · obtain ⟨b, off, cap, he, hb3, hlc3, hcm3, hcell3⟩ := (HX.out.below hbw).cell (by omega)
      simp only [Value.slice.injEq] at he
      obtain ⟨rfl, _, rfl⟩ := he
      obtain ⟨q, cc, hce, hint⟩ := hcell3 k hlt
      have hmem : L.getD k [] ∈ L := by rw [List.getD, List.getElem?_eq_getElem hlt]; exact List.getElem_mem hlt
      obtain ⟨r1, r2⟩ := HR.out _ hmem
      have ho := HO.out _ hmem
      have HOR := hide (order_ord h1 (show n ≤ 12 by omega) ⟨hint.out, r1, r2⟩)
      clear hcell3 hint hmem r1 r2
      generalize L.getD k [] = x at *
      generalize x.length = xl at *
      go_wp2_with fail
      refine HOR.out.mono ?_
      rintro e w2 ⟨rfl, ho1, ho2, hb2⟩
      have hB2 := hbw.trans (hb2.mono hbw.size)
      have hgt : ¬ ((2 : Int) < ((ord x : Nat) : Int)) := by omega
      clear hb2 HOR
      generalize ord x = z at *
      generalize odd x = z2 at *
      go_wp2
      go_roundw
      case rel => exact ⟨k + 1, by omega, by go_num, hB2⟩
      case measure => simp [intOf]; omega
    · go_wp2
      go_ret
      exact ⟨rfl, hbw⟩

end Go.Proofs.Ytnmjgepobcanfaa

/- Contract: extent.Circuit, where changes may be. -/
namespace Go.Proofs.Ytnmjgepobcanfaa
open Go.RowKit

/-- Where a change leads, by numbers. -/
def nxc (n : Nat) (L : List (List Int)) (k a : Nat) : Nat := rkk (by_ (rowAt n a) (L.getD k []))

def ledl (n : Nat) (c : List Int) : List Int := (List.range (fct n)).map (fun a => ((rkk (by_ (rowAt n a) c) : Nat) : Int))

theorem ledl_len (n : Nat) (c : List Int) : (ledl n c).length = fct n := by simp [ledl]

theorem set4z {w1 : World} {B : Nat} {a b c d : Value} {t : TypeId} (h : w1.heap[B]? = some (.cells #[a, b, c, d] t)) (u : Value) : (w1.setCell ⟨B, 0, none⟩ u).heap[B]? = some (.cells #[u, b, c, d] t) := by
  simp [World.setCell, Array.getElem?_modify, h]

theorem LL.frm {w w' : World} {base : Nat} {v : Value} {vs : List Value} {xss : List (List Int)} (h : LL w base v vs xss) (hb : ∀ b, base ≤ b → b < w.heap.size → w'.heap[b]? = w.heap[b]?) : LL w' base v vs xss :=
  ⟨owns_block h.row (fun g hg => hb g (h.row.lt g hg).1 (h.row.lt g hg).2), h.all.mono (fun _ _ _ h' => owns_block h' (fun g hg => hb g (h'.lt g hg).1 (h'.lt g hg).2))⟩

theorem LL.setLow {w : World} {base : Nat} {v : Value} {vs : List Value} {xss : List (List Int)} (h : LL w base v vs xss) {a : Addr} (ha : a.block < base) (u : Value) : LL (w.setCell a u) base v vs xss :=
  h.frm (fun b h1 _ => Below.heap_setCell _ _ _ _ (by omega))

theorem ISet.made (w : World) : ISet (w.alloc (.map #[] 0)) w.heap.size [] :=
  ⟨List.nodup_nil, .map [], Go.World.ownsMap_made _ _ _ _, rfl, fun a => by simp; rfl⟩

def CircPost (n : Nat) (L : List (List Int)) (w : World) (e : Ending) (w' : World) : Prop :=
  Below w.heap.size w w' ∧ ((∃ (q : List Nat) (v : Value), e = .returned (.tuple #[v, .bool true, .int .i64 0]) ∧ Ints w' v (nI q) ∧ Good (nxc n L) L.length (fct n) [0] 0 q ∧ ∀ t, Good (nxc n L) L.length (fct n) [0] 0 t → ¬ Ltl t q) ∨
    (e = .returned (.tuple #[.slice none 0 0, .bool false, .int .i64 0]) ∧ ∀ t, ¬ Good (nxc n L) L.length (fct n) [0] 0 t))

theorem nxc_lt {n : Nat} {L : List (List Int)} (hr : RowsN n L) {k : Nat} (a : Nat) (hk : k < L.length) : nxc n L k a < fct n := by
  have hm : L.getD k [] ∈ L := by rw [List.getD, List.getElem?_eq_getElem hk]; exact List.getElem_mem hk
  exact rkk_lt (by rw [by_length]; exact (hr _ hm).2)

set_option maxRecDepth 20000 in
set_option maxHeartbeats 8000000 in
theorem circuit_ok (n : Nat) (v : Value) (L : List (List Int)) (w : World) (h1 : 1 ≤ n) (h4 : n ≤ 4) (hX : IntsAll w v L) (hl : L.length ≤ 8) (hr : RowsN n L) (ho : ∀ x, x ∈ L → ord x ≤ 2) :
    Calls Try.prog 4 #[.int .i64 n, v] w (CircPost n L w) := by
  obtain ⟨i0, hi, hz0, hz1, hz2⟩ := info_parts Try.info23
  have hf := fct_24 h4
  have hfp := fct_pos n
  have hmm := @run_makeMap Try.prog
  have HCC := hide (checkCircuit_ok n v L w h1 h4 hX hl hr ho)
  obtain ⟨p0, c0, rfl⟩ := hX.len
  have HX := hide hX
  have HR := hide hr
  clear hX hr ho
  go_enter Try.func4, Try.ntmps4
  go_wp2_with fail
  refine HCC.out.mono ?_
  rintro e w1 ⟨rfl, hb1⟩
  clear HCC
  go_wp2_with fail
  refine (allRows_ok n w1 h1 h4).mono ?_
  rintro e w2 ⟨ru, rvs, rfl, hRL, hb2⟩
  have hB2 := hb1.trans (hb2.mono hb1.size)
  have HXR := hide hRL.ints
  have hrl := hRL.len
  rw [Xn_length] at hrl
  have hrr := hRL.row
  rw [hrl] at hrr
  obtain ⟨rb, rc, rfl, _, _, _, _⟩ := owns_form hrr (by omega)
  clear hRL hrr hrl hb1 hb2
  go_wp2_with fail
  refine (unlike_ok _ L w2 (HX.out.below hB2) (by omega)).mono ?_
  rintro e w3 ⟨uu, rfl, huo, hb3⟩
  have hB3 := hB2.trans (hb3.mono hB2.size)
  have HB3 := hide hB3
  have HXR3 := hide (HXR.out.below hb3)
  have HX3 := hide (HX.out.below hB3)
  have HUO := hide huo
  obtain ⟨up, uc, rfl⟩ := owns_slice huo
  obtain ⟨wm, hput0, hset0, hturn0⟩ := (ISet.made w3).put 0 (by omega) (by simp) (by simp [maxLen]) (.int .i64 0)
  have hput : (Instr.mapUpdate 37 (.map (some w3.heap.size)) (.int .i64 0) (.int .i64 0)).run Try.prog (w3.alloc (.map #[] 0)) = .ok () wm := hput0
  have hsz : wm.heap.size = w3.heap.size + 1 := by rw [turned_size hturn0]; simp
  have HSZ := hide hsz
  have HS0 := hide hset0
  have HT0 := hide hturn0
  generalize hln : (unl L L.length).length = ul at *
  have HLN := hide hln
  clear hB2 hb3 hB3 HXR huo hput0 hset0 hturn0 hsz hln
  go_upto_region 6 with fail
  rw [HSZ.out]
  have HBA : Hid (Below w3.heap.size w3 (wm.alloc (.cells #[.slice none 0 0, .slice up ul uc, .map (some w3.heap.size), .slice none 0 0] 39))) :=
    ((((Below.refl _ _).alloc (Nat.le_refl _) _).grown HT0.out.grown (by simp) (fun g hg => by cases hg; exact Nat.le_refl _)).alloc (by rw [HSZ.out]; omega) _)
  have HK0 : Hid ((wm.alloc (.cells #[.slice none 0 0, .slice up ul uc, .map (some w3.heap.size), .slice none 0 0] 39)).heap[w3.heap.size + 1]? = some (.cells #[.slice none 0 0, .slice up ul uc, .map (some w3.heap.size), .slice none 0 0] 39)) := by
    show _ = _
    rw [← HSZ.out]; exact heap_alloc_new _ _
  have HIS := hide (HS0.out.of_block (Below.heap_alloc wm (.cells #[.slice none 0 0, .slice up ul uc, .map (some w3.heap.size), .slice none 0 0] 39) w3.heap.size (by rw [HSZ.out]; omega)))
  clear HSZ HS0 HT0 hput hmm
  generalize wm.alloc (.cells #[.slice none 0 0, .slice up ul uc, .map (some w3.heap.size), .slice none 0 0] 39) = wa at *
  go_wp2
  go_loopw [27] (fun i wr => ∃ (k : Nat) (tp : Option Addr) (tc : Nat) (vs : List Value), k ≤ L.length ∧ i = .int .i64 k ∧ Hid (vs.length = k) ∧ Hid (LL wr (w3.heap.size + 1 + 1) (.slice tp k tc) vs ((List.range k).map (fun i => ledl n (L.getD i [])))) ∧
      Hid (wr.heap[w3.heap.size + 1]? = some (.cells #[.slice tp k tc, .slice up ul uc, .map (some w3.heap.size), .slice none 0 0] 39)) ∧ Hid (ISet wr w3.heap.size [0]) ∧ Below w3.heap.size w3 wr) (fun i _ => L.length - (intOf i).toNat)
  case atStart => exact ⟨0, none, 0, [], by omega, rfl, rfl, LL.nil _ _, HK0, HIS, HBA.out⟩
  case round =>
    clear HK0 HIS HBA
    obtain ⟨k, tp, tc, vs, hk, rfl, hlv, HT, hblk, hset, hbw⟩ := hrel
    have hsbl : w3.heap.size + 1 < wr.heap.size := (Array.getElem?_eq_some_iff.1 hblk.out).1
    by_cases hlt : k < L.length
    · obtain ⟨b, off, cap, he, hb3, hlc3, hcm3, hcell3⟩ := (HX3.out.below hbw).cell (by omega)
      simp only [Value.slice.injEq] at he
      obtain ⟨rfl, _, rfl⟩ := he
      obtain ⟨p, q, hce, hint⟩ := hcell3 k hlt
      have hmem : L.getD k [] ∈ L := by rw [List.getD, List.getElem?_eq_getElem hlt]; exact List.getElem_mem hlt
      obtain ⟨r1, r2⟩ := HR.out _ hmem
      have HLED := hide (fun W (hW : Below wr.heap.size wr W) => led_ok n (.slice (some ⟨rb, 0, none⟩) (fct n) rc) (.slice p (L.getD k []).length q) (L.getD k []) W h1 h4 ((HXR3.out.below hbw).below hW) (hint.out.below hW) r1 r2)
      obtain ⟨z0, z1, z2, z3, f0', f3'⟩ := cells4 hblk.out
      have hd0 : Below wr.heap.size wr wr.drew := (Below.refl _ _).drew
      clear hcell3 hint hmem r1 r2 z1 z2 z3 f0' f3'
      generalize hxl : (L.getD k []).length = xl at *
      clear hxl
      go_upto_region 9 with fail
      refine wp_region_held_drew (S := fun _ => True) (by kernel_rfl) trivial (fun _ => ?_)
      refine wpAnyH_take (i := 0) (v := .pointer (some ⟨w3.heap.size + 1, 0, none⟩)) rfl (by kernel_rfl) (by kernel_rfl) (by kernel_rfl) (fun _ _ _ h => h) (Or.inl ⟨by kernel_rfl, fun w' _ => by go_simp⟩) trivial ?_
      refine wpAnyH_take (i := 2) (v := .slice (some ⟨rb, 0, none⟩) (fct n) rc) rfl (by kernel_rfl) (by kernel_rfl) (by kernel_rfl) (fun _ _ _ h => h) (Or.inl ⟨by kernel_rfl, fun w' _ => by go_simp⟩) trivial ?_
      refine wpAnyH_take (i := 3) (v := .slice p xl q) rfl (by kernel_rfl) (by kernel_rfl) (by kernel_rfl) (fun _ _ _ h => h) (Or.inl ⟨by kernel_rfl, fun w' _ => by go_simp⟩) trivial ?_
      refine wpAnyH_ready (rs := [1, 4]) (by kernel_rfl) (by simp) ?_
      refine AllReadyH.cons rfl (fun K hK => ?_) (AllReadyH.cons rfl (fun K hK => ?_) (AllReadyH.nil))
      · go_simp
        refine hK.out _ _ trivial (fun _ => ?_)
        clear hK
        refine wpAnyH_ready (rs := [4]) (by kernel_rfl) (by simp) ?_
        refine AllReadyH.cons rfl (fun K hK => ?_) (AllReadyH.nil)
        go_simp
        refine (HLED.out wr.drew hd0).mono ?_
        rintro ex wo ⟨lu, rfl, hlu, hbo⟩
        have hBo : Below wr.heap.size wr wo := hd0.trans (hbo.mono hd0.size)
        have x0 : wo.cell? ⟨w3.heap.size + 1, 0, none⟩ = some (.slice tp k tc) := (hBo.cell (p := ⟨w3.heap.size + 1, 0, none⟩) (by exact hsbl)).trans z0
        obtain ⟨lp, lc, rfl⟩ := owns_slice hlu
        have x0a : (wo.alloc (.cells #[.slice lp (fct n) lc] 23)).cell? ⟨w3.heap.size + 1, 0, none⟩ = some (.slice tp k tc) := (((Below.refl wo.heap.size wo).alloc (Nat.le_refl _) _).cell (p := ⟨w3.heap.size + 1, 0, none⟩) (by have := hBo.size; show w3.heap.size + 1 < wo.heap.size; omega)).trans x0
        refine hK.out _ _ trivial (fun _ => ?_)
        clear hK
        refine wpAnyH_ready (rs := [5]) (by kernel_rfl) (by simp) ?_
        refine AllReadyH.cons rfl (fun K hK => ?_) (AllReadyH.nil)
        go_simp
        refine hK.out _ _ trivial (fun _ => ?_)
        clear hK
        refine wpAnyH_ready (rs := [6]) (by kernel_rfl) (by simp) ?_
        refine AllReadyH.cons rfl (fun K hK => ?_) (AllReadyH.nil)
        have hT1 := HT.out.below hBo
        have hrow1 := hT1.row
        rw [hlv.out] at hrow1
        have HT1 := hide hT1
        have HLU := hide (owns_base hlu (show w3.heap.size + 1 + 1 ≤ wr.drew.heap.size by exact hsbl))
        have hso := hBo.size
        refine step_append_own rfl (.tmp 32) (.tmp 36) 22 rfl (w3.heap.size + 1 + 1) 23 i0 (.slice none 0 0) 1 24 Try.underlying22 hi hz0 hz1 hz2 rfl (by decide) (.slice tp k tc) k vs rfl (hrow1.alloc _) ⟨wo.heap.size, 0, none⟩ 1 1 [.slice lp (fct n) lc] rfl rfl (cell_one_new _ _ _) (by intro u hu; simp at hu; subst hu; rfl) (by unfold maxLen; omega) (by omega) (by simp; omega) ?_
        intro v' w4 hown4 hgrow
        refine hK.out _ _ trivial (fun _ => ?_)
        clear hK
        refine wpAnyH_take (i := 7) (v := .pointer (some ⟨w3.heap.size + 1, 0, none⟩)) rfl (by kernel_rfl) (by kernel_rfl) (by kernel_rfl) (fun _ _ _ h => h) (Or.inl ⟨by kernel_rfl, fun w' _ => by go_simp⟩) trivial ?_
        refine wpAnyH_ready (rs := [8]) (by kernel_rfl) (by simp) ?_
        refine AllReadyH.cons rfl (fun K hK => ?_) (AllReadyH.nil)
        obtain ⟨vp, vc, rfl⟩ := owns_slice hown4
        have hb4 : Below (w3.heap.size + 1 + 1) wr w4 := ((hBo.mono (by omega)).alloc (by omega) _).grown hgrow (by simp; omega) (fun g hg => (hrow1.lt g hg).1)
        have hk4 := (hb4.block (w3.heap.size + 1) (by omega)).trans hblk.out
        obtain ⟨y0, y1, y2, y3, f0, f3⟩ := cells4 hk4
        go_simp
        have HS5 := hide (set4z hk4 (.slice vp (k + 1) vc))
        have HL4 : Hid (LL w4 (w3.heap.size + 1 + 1) (.slice vp (k + 1) vc) (vs ++ [.slice lp (fct n) lc]) ((List.range (k + 1)).map (fun i => ledl n (L.getD i [])))) := by
          show LL _ _ _ _ _
          rw [range_succ_map]
          exact HT1.out.push (by rw [ledl_len]; exact HLU.out) (by rw [hlv.out]; exact hown4) hgrow
        have HL5 : Hid (LL (w4.setCell ⟨w3.heap.size + 1, 0, none⟩ (.slice vp (k + 1) vc)) (w3.heap.size + 1 + 1) (.slice vp (k + 1) vc) (vs ++ [.slice lp (fct n) lc]) ((List.range (k + 1)).map (fun i => ledl n (L.getD i [])))) := HL4.out.setLow (by exact Nat.lt_succ_self _) _
        have HB5 : Hid (Below w3.heap.size w3 (w4.setCell ⟨w3.heap.size + 1, 0, none⟩ (.slice vp (k + 1) vc))) := (hbw.trans (hb4.mono (by omega))).setCell (by show _ ≤ w3.heap.size + 1; omega) _
        have HI5 := hide (hset.out.of_block ((Below.heap_setCell w4 ⟨w3.heap.size + 1, 0, none⟩ (.slice vp (k + 1) vc) w3.heap.size (by show w3.heap.size ≠ w3.heap.size + 1; omega)).trans (hb4.block w3.heap.size (by omega))))
        have HLV : Hid ((vs ++ [Value.slice lp (fct n) lc]).length = k + 1) := by show _ = _; rw [List.length_append, hlv.out]; rfl
        clear HL4 hb4 hk4 y0 y1 y2 y3 f0 f3 hown4 hgrow hrow1 hT1 HT1 HLU
        generalize w4.setCell ⟨w3.heap.size + 1, 0, none⟩ (.slice vp (k + 1) vc) = w5 at *
        refine hK.out _ _ trivial (fun _ => ?_)
        clear hK
        refine wpAnyH_done (by kernel_rfl) ?_ _
        go_wp2
        go_roundw
        case rel => exact ⟨k + 1, _, _, _, by omega, by go_num, HLV, HL5, HS5, HI5, HB5.out⟩
        case measure => simp [intOf]; omega
      · go_simp
        refine (HLED.out wr.drew hd0).mono ?_
        rintro ex wo ⟨lu, rfl, hlu, hbo⟩
        have hBo : Below wr.heap.size wr wo := hd0.trans (hbo.mono hd0.size)
        have x0 : wo.cell? ⟨w3.heap.size + 1, 0, none⟩ = some (.slice tp k tc) := (hBo.cell (p := ⟨w3.heap.size + 1, 0, none⟩) (by exact hsbl)).trans z0
        obtain ⟨lp, lc, rfl⟩ := owns_slice hlu
        have x0a : (wo.alloc (.cells #[.slice lp (fct n) lc] 23)).cell? ⟨w3.heap.size + 1, 0, none⟩ = some (.slice tp k tc) := (((Below.refl wo.heap.size wo).alloc (Nat.le_refl _) _).cell (p := ⟨w3.heap.size + 1, 0, none⟩) (by have := hBo.size; show w3.heap.size + 1 < wo.heap.size; omega)).trans x0
        refine hK.out _ _ trivial (fun _ => ?_)
        clear hK
        refine wpAnyH_ready (rs := [1, 5]) (by kernel_rfl) (by simp) ?_
        refine AllReadyH.cons rfl (fun K hK => ?_) (AllReadyH.cons rfl (fun K hK => ?_) (AllReadyH.nil))
        · go_simp
          refine hK.out _ _ trivial (fun _ => ?_)
          clear hK
          refine wpAnyH_ready (rs := [5]) (by kernel_rfl) (by simp) ?_
          refine AllReadyH.cons rfl (fun K hK => ?_) (AllReadyH.nil)
          go_simp
          refine hK.out _ _ trivial (fun _ => ?_)
          clear hK
          refine wpAnyH_ready (rs := [6]) (by kernel_rfl) (by simp) ?_
          refine AllReadyH.cons rfl (fun K hK => ?_) (AllReadyH.nil)
          have hT1 := HT.out.below hBo
          have hrow1 := hT1.row
          rw [hlv.out] at hrow1
          have HT1 := hide hT1
          have HLU := hide (owns_base hlu (show w3.heap.size + 1 + 1 ≤ wr.drew.heap.size by exact hsbl))
          have hso := hBo.size
          refine step_append_own rfl (.tmp 32) (.tmp 36) 22 rfl (w3.heap.size + 1 + 1) 23 i0 (.slice none 0 0) 1 24 Try.underlying22 hi hz0 hz1 hz2 rfl (by decide) (.slice tp k tc) k vs rfl (hrow1.alloc _) ⟨wo.heap.size, 0, none⟩ 1 1 [.slice lp (fct n) lc] rfl rfl (cell_one_new _ _ _) (by intro u hu; simp at hu; subst hu; rfl) (by unfold maxLen; omega) (by omega) (by simp; omega) ?_
          intro v' w4 hown4 hgrow
          refine hK.out _ _ trivial (fun _ => ?_)
          clear hK
          refine wpAnyH_take (i := 7) (v := .pointer (some ⟨w3.heap.size + 1, 0, none⟩)) rfl (by kernel_rfl) (by kernel_rfl) (by kernel_rfl) (fun _ _ _ h => h) (Or.inl ⟨by kernel_rfl, fun w' _ => by go_simp⟩) trivial ?_
          refine wpAnyH_ready (rs := [8]) (by kernel_rfl) (by simp) ?_
          refine AllReadyH.cons rfl (fun K hK => ?_) (AllReadyH.nil)
          obtain ⟨vp, vc, rfl⟩ := owns_slice hown4
          have hb4 : Below (w3.heap.size + 1 + 1) wr w4 := ((hBo.mono (by omega)).alloc (by omega) _).grown hgrow (by simp; omega) (fun g hg => (hrow1.lt g hg).1)
          have hk4 := (hb4.block (w3.heap.size + 1) (by omega)).trans hblk.out
          obtain ⟨y0, y1, y2, y3, f0, f3⟩ := cells4 hk4
          go_simp
          have HS5 := hide (set4z hk4 (.slice vp (k + 1) vc))
          have HL4 : Hid (LL w4 (w3.heap.size + 1 + 1) (.slice vp (k + 1) vc) (vs ++ [.slice lp (fct n) lc]) ((List.range (k + 1)).map (fun i => ledl n (L.getD i [])))) := by
            show LL _ _ _ _ _
            rw [range_succ_map]
            exact HT1.out.push (by rw [ledl_len]; exact HLU.out) (by rw [hlv.out]; exact hown4) hgrow
          have HL5 : Hid (LL (w4.setCell ⟨w3.heap.size + 1, 0, none⟩ (.slice vp (k + 1) vc)) (w3.heap.size + 1 + 1) (.slice vp (k + 1) vc) (vs ++ [.slice lp (fct n) lc]) ((List.range (k + 1)).map (fun i => ledl n (L.getD i [])))) := HL4.out.setLow (by exact Nat.lt_succ_self _) _
          have HB5 : Hid (Below w3.heap.size w3 (w4.setCell ⟨w3.heap.size + 1, 0, none⟩ (.slice vp (k + 1) vc))) := (hbw.trans (hb4.mono (by omega))).setCell (by show _ ≤ w3.heap.size + 1; omega) _
          have HI5 := hide (hset.out.of_block ((Below.heap_setCell w4 ⟨w3.heap.size + 1, 0, none⟩ (.slice vp (k + 1) vc) w3.heap.size (by show w3.heap.size ≠ w3.heap.size + 1; omega)).trans (hb4.block w3.heap.size (by omega))))
          have HLV : Hid ((vs ++ [Value.slice lp (fct n) lc]).length = k + 1) := by show _ = _; rw [List.length_append, hlv.out]; rfl
          clear HL4 hb4 hk4 y0 y1 y2 y3 f0 f3 hown4 hgrow hrow1 hT1 HT1 HLU
          generalize w4.setCell ⟨w3.heap.size + 1, 0, none⟩ (.slice vp (k + 1) vc) = w5 at *
          refine hK.out _ _ trivial (fun _ => ?_)
          clear hK
          refine wpAnyH_done (by kernel_rfl) ?_ _
          go_wp2
          go_roundw
          case rel => exact ⟨k + 1, _, _, _, by omega, by go_num, HLV, HL5, HS5, HI5, HB5.out⟩
          case measure => simp [intOf]; omega
        · go_simp
          refine hK.out _ _ trivial (fun _ => ?_)
          clear hK
          refine wpAnyH_ready (rs := [1]) (by kernel_rfl) (by simp) ?_
          refine AllReadyH.cons rfl (fun K hK => ?_) (AllReadyH.nil)
          go_simp
          refine hK.out _ _ trivial (fun _ => ?_)
          clear hK
          refine wpAnyH_ready (rs := [6]) (by kernel_rfl) (by simp) ?_
          refine AllReadyH.cons rfl (fun K hK => ?_) (AllReadyH.nil)
          have hT1 := HT.out.below hBo
          have hrow1 := hT1.row
          rw [hlv.out] at hrow1
          have HT1 := hide hT1
          have HLU := hide (owns_base hlu (show w3.heap.size + 1 + 1 ≤ wr.drew.heap.size by exact hsbl))
          have hso := hBo.size
          refine step_append_own rfl (.tmp 32) (.tmp 36) 22 rfl (w3.heap.size + 1 + 1) 23 i0 (.slice none 0 0) 1 24 Try.underlying22 hi hz0 hz1 hz2 rfl (by decide) (.slice tp k tc) k vs rfl (hrow1.alloc _) ⟨wo.heap.size, 0, none⟩ 1 1 [.slice lp (fct n) lc] rfl rfl (cell_one_new _ _ _) (by intro u hu; simp at hu; subst hu; rfl) (by unfold maxLen; omega) (by omega) (by simp; omega) ?_
          intro v' w4 hown4 hgrow
          refine hK.out _ _ trivial (fun _ => ?_)
          clear hK
          refine wpAnyH_take (i := 7) (v := .pointer (some ⟨w3.heap.size + 1, 0, none⟩)) rfl (by kernel_rfl) (by kernel_rfl) (by kernel_rfl) (fun _ _ _ h => h) (Or.inl ⟨by kernel_rfl, fun w' _ => by go_simp⟩) trivial ?_
          refine wpAnyH_ready (rs := [8]) (by kernel_rfl) (by simp) ?_
          refine AllReadyH.cons rfl (fun K hK => ?_) (AllReadyH.nil)
          obtain ⟨vp, vc, rfl⟩ := owns_slice hown4
          have hb4 : Below (w3.heap.size + 1 + 1) wr w4 := ((hBo.mono (by omega)).alloc (by omega) _).grown hgrow (by simp; omega) (fun g hg => (hrow1.lt g hg).1)
          have hk4 := (hb4.block (w3.heap.size + 1) (by omega)).trans hblk.out
          obtain ⟨y0, y1, y2, y3, f0, f3⟩ := cells4 hk4
          go_simp
          have HS5 := hide (set4z hk4 (.slice vp (k + 1) vc))
          have HL4 : Hid (LL w4 (w3.heap.size + 1 + 1) (.slice vp (k + 1) vc) (vs ++ [.slice lp (fct n) lc]) ((List.range (k + 1)).map (fun i => ledl n (L.getD i [])))) := by
            show LL _ _ _ _ _
            rw [range_succ_map]
            exact HT1.out.push (by rw [ledl_len]; exact HLU.out) (by rw [hlv.out]; exact hown4) hgrow
          have HL5 : Hid (LL (w4.setCell ⟨w3.heap.size + 1, 0, none⟩ (.slice vp (k + 1) vc)) (w3.heap.size + 1 + 1) (.slice vp (k + 1) vc) (vs ++ [.slice lp (fct n) lc]) ((List.range (k + 1)).map (fun i => ledl n (L.getD i [])))) := HL4.out.setLow (by exact Nat.lt_succ_self _) _
          have HB5 : Hid (Below w3.heap.size w3 (w4.setCell ⟨w3.heap.size + 1, 0, none⟩ (.slice vp (k + 1) vc))) := (hbw.trans (hb4.mono (by omega))).setCell (by show _ ≤ w3.heap.size + 1; omega) _
          have HI5 := hide (hset.out.of_block ((Below.heap_setCell w4 ⟨w3.heap.size + 1, 0, none⟩ (.slice vp (k + 1) vc) w3.heap.size (by show w3.heap.size ≠ w3.heap.size + 1; omega)).trans (hb4.block w3.heap.size (by omega))))
          have HLV : Hid ((vs ++ [Value.slice lp (fct n) lc]).length = k + 1) := by show _ = _; rw [List.length_append, hlv.out]; rfl
          clear HL4 hb4 hk4 y0 y1 y2 y3 f0 f3 hown4 hgrow hrow1 hT1 HT1 HLU
          generalize w4.setCell ⟨w3.heap.size + 1, 0, none⟩ (.slice vp (k + 1) vc) = w5 at *
          refine hK.out _ _ trivial (fun _ => ?_)
          clear hK
          refine wpAnyH_done (by kernel_rfl) ?_ _
          go_wp2
          go_roundw
          case rel => exact ⟨k + 1, _, _, _, by omega, by go_num, HLV, HL5, HS5, HI5, HB5.out⟩
          case measure => simp [intOf]; omega
    · obtain rfl : k = L.length := by omega
      have hTk : ∀ j, j < L.length → ((List.range L.length).map (fun i => ledl n (L.getD i []))).getD j [] = ledl n (L.getD j []) := fun j hj => by simp [List.getD, hj]
      have hU : Und (nxc n L) L.length (fct n) wr.heap.size (w3.heap.size + 1) w3.heap.size (.slice tp L.length tc) (.slice up ul uc) ((List.range L.length).map (fun i => ledl n (L.getD i []))) (unl L L.length) wr := by
        refine ⟨hsbl, by omega, by omega, unl_tried L _ (fun i j _ _ e a => by unfold nxc; rw [e]), by omega, by simp, by omega, fun j a hj ha => ?_, fun W hF => ⟨?_, ?_⟩⟩
        · rw [hTk j hj]
          refine ⟨by rw [ledl_len]; exact ha, ?_, nxc_lt HR.out a hj⟩
          simp [ledl, nxc, List.getD, ha]
        · exact (HT.out.frm (fun b hb1 hb2 => hF.block b hb2 (by omega) (by omega))).ints
        · refine Ints.own (base := w2.heap.size) (e := 3) (n := ul) ?_
          refine owns_block (owns_below HUO.out hbw (Nat.le_refl _)) (fun g hg => ?_)
          have h9 := (HUO.out.lt g hg).2
          exact hF.block g (by omega) (by omega) (by omega)
      have hWk : Wk wr wr.heap.size (w3.heap.size + 1) w3.heap.size (.slice tp L.length tc) (.slice up ul uc) (.slice none 0 0) [0] [] := ⟨hblk.out, hset.out, World.ownsRow_nil _ _ _ _⟩
      have HFROM := hide (from_ok hU (fct n - 1) [0] 0 [] _ wr (by simp; omega) (by intro x hx; simp at hx; omega) (by simp) (by omega) rfl (Frm.refl _ _ _ _) (Nat.le_refl _) hWk)
      have hB3 := HB3.out.trans (hbw.mono HB3.out.size)
      have hs3 := HB3.out.size
      clear hU hWk HT hTk
      go_wp2_with fail
      refine HFROM.out.mono ?_
      rintro e w9 ⟨hF9, (⟨q, wv9, rfl, hg, hmin, hs9, ho9⟩ | ⟨wv9, rfl, hno, _⟩)⟩
      · rw [List.length_nil, Nat.zero_add, List.nil_append] at ho9
        obtain ⟨z0, z1, z2, z3, f0', f3'⟩ := cells4 hs9
        have HB9 : Hid (Below w.heap.size w w9) := hB3.trans (hF9.below (by omega) (by omega) (by omega))
        have HI9 : Hid (Ints w9 wv9 (nI q)) := Ints.own ho9
        have HG := hide hg
        have HMin := hide hmin
        obtain ⟨wp, wc, rfl⟩ := owns_slice ho9
        clear hs9 ho9 hg hmin hF9 HFROM hbw hB3 z0 z1 z2 f0' f3'
        go_wp2
        go_ret3
        exact ⟨HB9.out, Or.inl ⟨q, _, rfl, HI9.out, HG.out, HMin.out⟩⟩
      · have HB9 : Hid (Below w.heap.size w w9) := hB3.trans (hF9.below (by omega) (by omega) (by omega))
        have HNo := hide hno
        clear hno hF9 HFROM hbw hB3
        go_wp2
        go_ret3
        exact ⟨HB9.out, Or.inr ⟨rfl, HNo.out⟩⟩

end Go.Proofs.Ytnmjgepobcanfaa

/- Contracts: GensMay, the answer's own; Check where it refuses. -/
namespace Go.Proofs.Ytnmjgepobcanfaa
open Go.RowKit

set_option maxRecDepth 20000 in
set_option maxHeartbeats 2000000 in
theorem gensMay_ok (n : Nat) (v : Value) (xss : List (List Int)) (w : World) (h : IntsAll w v xss) (h1 : 1 ≤ n) (h12 : n ≤ 12) (h8 : xss.length ≤ 8) :
    Calls Try.prog 5 #[.int .i64 n, v] w fun e w' => e = .returned (.int .i64 (gchk n xss)) ∧ w = w' := by
  obtain ⟨vs, hv, hl, he⟩ := h
  have hn1 : ¬ ((n : Int) < 1) := by omega
  have hn2 : ¬ ((n : Int) > 12) := by omega
  rcases hv with ⟨rfl, p, c, rfl⟩ | ⟨b, off, cap, rfl, h0, hc, hm, hb, hcell⟩
  · obtain rfl : xss = [] := List.length_eq_zero_iff.1 (by simpa using hl.symm)
    clear he hl
    go_enter Try.func5, Try.ntmps5
    go_wp2
    go_loop [5] (fun i => i = .int .i64 0) (fun _ => 0)
    case atStart => rfl
    case round =>
      subst hrel
      go_wp2
      go_ret
      exact ⟨rfl, rfl⟩
  · have hv8 : (vs.length : Int) ≤ 8 := by omega
    have HL := hide hl
    have HE := hide he
    have HC := hide hcell
    clear hl he hcell
    go_enter Try.func5, Try.ntmps5
    go_wp2
    go_loop [5] (fun i => ∃ k : Nat, k ≤ vs.length ∧ i = .int .i64 k ∧ Hid (gchk n (xss.drop k) = gchk n xss)) (fun i => vs.length - (intOf i).toNat)
    case atStart => exact ⟨0, by omega, rfl, rfl⟩
    case round =>
      obtain ⟨k, hk, rfl, ht⟩ := hrel
      by_cases hlt : k < vs.length
      · have hkx : k < xss.length := by have := HL.out; omega
        obtain ⟨p1, c1, hcx, hix⟩ := elAt HC.out hlt (HE.out k hkx)
        have HS := hide (rowMay_any _ _ w hix.out)
        have HD := hide (gchk_drop (n := n) hkx)
        rw [ht.out] at HD
        generalize xss.getD k [] = X at *
        generalize hlx : X.length = lx at *
        have HLX := hide hlx
        clear hix hlx
        go_wp2_with fail
        refine HS.out.mono ?_
        rintro e w1 ⟨rfl, rfl⟩
        by_cases hz : chk X = 0
        · by_cases hn : lx = n
          · have hr : rchk n X = 0 := by unfold rchk; rw [if_pos hz, if_pos (by rw [HLX.out]; exact hn)]
            have HD' : Hid (gchk n (xss.drop (k + 1)) = gchk n xss) := by have := HD.out; rw [if_pos hr] at this; exact this.symm
            rw [hz]
            subst hn
            clear HD HS hz hr
            go_wp2
            go_round
            case rel => exact ⟨k + 1, by omega, by go_num, HD'⟩
            case measure => simp [intOf]; omega
          · have hr : rchk n X = 1 := by unfold rchk; rw [if_pos hz, if_neg (by rw [HLX.out]; exact hn)]
            have HD' : Hid (gchk n xss = 1) := by have := HD.out; rw [hr, if_neg (by decide)] at this; exact this
            have hnn : ((lx : Int) != (n : Int)) = true := by rw [bne_iff_ne]; omega
            rw [hz]
            clear HD HS hz hr hn
            go_wp2
            go_ret
            exact ⟨ret_int HD'.out.symm, rfl⟩
        · have hr : rchk n X = chk X := by unfold rchk; rw [if_neg hz]
          have HD' : Hid (gchk n xss = chk X) := by have := HD.out; rw [hr, if_neg hz] at this; exact this
          have hne : (chk X != 0) = true := by rw [bne_iff_ne]; exact hz
          clear HD HS hz hr
          generalize chk X = z at *
          go_wp2
          go_ret
          exact ⟨ret_int HD'.out.symm, rfl⟩
      · have HE0 : Hid (gchk n xss = 0) := by show _ = _; rw [← ht.out, List.drop_eq_nil_of_le (by have := HL.out; omega)]; rfl
        go_wp2
        go_ret
        exact ⟨ret_int HE0.out.symm, rfl⟩

set_option maxRecDepth 20000 in
theorem gensMay_bad (n : Int) (v : Value) (xss : List (List Int)) (w : World) (h : IntsAll w v xss) (hb : n < 1 ∨ 12 < n ∨ 8 < xss.length) :
    Calls Try.prog 5 #[.int .i64 n, v] w fun e w' => e = .returned (.int .i64 1) ∧ w = w' := by
  obtain ⟨vs, hv, hl, _⟩ := h
  obtain ⟨p, c, rfl⟩ := hv.form
  clear hv
  by_cases h1 : n < 1
  · go_enter Try.func5, Try.ntmps5
    go_wp2
    go_ret
    exact ⟨rfl, rfl⟩
  · by_cases h2 : n > 12
    · go_enter Try.func5, Try.ntmps5
      go_wp2
      go_ret
      exact ⟨rfl, rfl⟩
    · have h3 : (vs.length : Int) > 8 := by omega
      clear hb hl
      go_enter Try.func5, Try.ntmps5
      go_wp2
      go_ret
      exact ⟨rfl, rfl⟩

set_option maxRecDepth 20000 in
theorem gcheck_bad (n : Int) (v : Value) (xss : List (List Int)) (w : World) (h : IntsAll w v xss) (hb : n < 1 ∨ 12 < n ∨ 8 < xss.length) :
    Calls Try.prog 20 #[.int .i64 n, v] w fun e w' => e = .returned (.int .i64 1) ∧ w = w' := by
  obtain ⟨vs, hv, hl, _⟩ := h
  obtain ⟨p, c, rfl⟩ := hv.form
  clear hv
  by_cases h1 : n < 1
  · go_enter Try.func20, Try.ntmps20
    go_wp2
    go_ret
    exact ⟨rfl, rfl⟩
  · by_cases h2 : n > 12
    · go_enter Try.func20, Try.ntmps20
      go_wp2
      go_ret
      exact ⟨rfl, rfl⟩
    · have h3 : (vs.length : Int) > 8 := by omega
      clear hb hl
      go_enter Try.func20, Try.ntmps20
      go_wp2
      go_ret
      exact ⟨rfl, rfl⟩

end Go.Proofs.Ytnmjgepobcanfaa

/- Contracts: extent.checkCircuit and extent.Circuit, where they refuse. -/
namespace Go.Proofs.Ytnmjgepobcanfaa
open Go.RowKit

set_option maxRecDepth 20000 in
set_option maxHeartbeats 1000000 in
theorem checkCircuit_count (n : Int) (v : Value) (L : List (List Int)) (w : World) (hX : IntsAll w v L) (h : n < 1 ∨ 4 < n) :
    Calls Try.prog 10 #[.int .i64 n, v] w fun e w' => e = .returned (.int .i64 1) ∧ Below w.heap.size w w' := by
  obtain ⟨p0, c0, rfl⟩ := hX.len
  clear hX
  by_cases h1 : n < 1
  · go_enter Try.func10, Try.ntmps10
    go_wp2
    go_ret
    exact ⟨rfl, Below.refl _ _⟩
  · have h2 : n > 4 := by omega
    go_enter Try.func10, Try.ntmps10
    go_wp2
    go_ret
    exact ⟨rfl, Below.refl _ _⟩

set_option maxRecDepth 20000 in
set_option maxHeartbeats 1000000 in
theorem checkCircuit_refuses (n : Nat) (v : Value) (L : List (List Int)) (c : Int) (w : World) (h1 : 1 ≤ n) (h4 : n ≤ 4) (hX : IntsAll w v L) (hc : c ≠ 0)
    (hk : Calls Try.prog 20 #[.int .i64 n, v] w fun e w' => e = .returned (.int .i64 c) ∧ Below w.heap.size w w') :
    Calls Try.prog 10 #[.int .i64 n, v] w fun e w' => e = .returned (.int .i64 c) ∧ Below w.heap.size w w' := by
  have HK := hide hk
  have hne : (c != 0) = true := by rw [bne_iff_ne]; exact hc
  obtain ⟨p0, c0, rfl⟩ := hX.len
  clear hk hX hc
  go_enter Try.func10, Try.ntmps10
  go_wp2_with fail
  refine HK.out.mono ?_
  rintro e w1 ⟨rfl, hb1⟩
  go_wp2
  go_ret
  exact ⟨rfl, hb1⟩

set_option maxRecDepth 20000 in
set_option maxHeartbeats 2000000 in
theorem checkCircuit_place (n : Nat) (v : Value) (L : List (List Int)) (w : World) (h1 : 1 ≤ n) (h4 : n ≤ 4) (hX : IntsAll w v L) (hl : L.length ≤ 8) (hr : RowsN n L) (ho : ∃ x, x ∈ L ∧ 2 < ord x) :
    Calls Try.prog 10 #[.int .i64 n, v] w fun e w' => e = .returned (.int .i64 6) ∧ Below w.heap.size w w' := by
  have HG := hide (gcheck_ok n v L w hX h1 (by omega) hl)
  rw [gchk_rows h1 (by omega) hr] at HG
  obtain ⟨p0, c0, rfl⟩ := hX.len
  have HX := hide hX
  have HR := hide hr
  have HO := hide ho
  clear hX hr ho
  go_enter Try.func10, Try.ntmps10
  go_wp2_with fail
  refine HG.out.mono ?_
  rintro e w1 ⟨rfl, hb1⟩
  clear HG
  go_wp2
  go_loopw [25] (fun i wr => ∃ k : Nat, k ≤ L.length ∧ i = .int .i64 k ∧ Hid (∀ j, j < k → ord (L.getD j []) ≤ 2) ∧ Below w.heap.size w wr) (fun i _ => L.length - (intOf i).toNat)
  case atStart => exact ⟨0, by omega, rfl, (fun j hj => absurd hj (by omega)), hb1⟩
  case round =>
    clear hb1
    obtain ⟨k, hk, rfl, hN, hbw⟩ := hrel
    by_cases hlt : k < L.length
    · obtain ⟨b, off, cap, he, hb3, hlc3, hcm3, hcell3⟩ := (HX.out.below hbw).cell (by omega)
      simp only [Value.slice.injEq] at he
      obtain ⟨rfl, _, rfl⟩ := he
      obtain ⟨q, cc, hce, hint⟩ := hcell3 k hlt
      have hmem : L.getD k [] ∈ L := by rw [List.getD, List.getElem?_eq_getElem hlt]; exact List.getElem_mem hlt
      obtain ⟨r1, r2⟩ := HR.out _ hmem
      have HOR := hide (order_ord h1 (show n ≤ 12 by omega) ⟨hint.out, r1, r2⟩)
      by_cases hgt : 2 < ord (L.getD k [])
      · clear hcell3 hint hmem r1 r2 hN
        generalize L.getD k [] = x at *
        generalize x.length = xl at *
        go_wp2_with fail
        refine HOR.out.mono ?_
        rintro e w2 ⟨rfl, ho1, ho2, hb2⟩
        have hB2 := hbw.trans (hb2.mono hbw.size)
        have hgt2 : ((2 : Int) < ((ord x : Nat) : Int)) := by omega
        clear hb2 HOR hgt
        generalize ord x = z at *
        generalize odd x = z2 at *
        go_wp2
        go_ret
        exact ⟨rfl, hB2⟩
      · have HN2 : Hid (∀ j, j < k + 1 → ord (L.getD j []) ≤ 2) := fun j hj => by
          rcases Nat.lt_succ_iff_lt_or_eq.1 hj with h | h
          · exact hN.out j h
          · rw [h]; omega
        clear hcell3 hint hmem r1 r2 hN
        generalize L.getD k [] = x at *
        generalize x.length = xl at *
        go_wp2_with fail
        refine HOR.out.mono ?_
        rintro e w2 ⟨rfl, ho1, ho2, hb2⟩
        have hB2 := hbw.trans (hb2.mono hbw.size)
        have hgt2 : ¬ ((2 : Int) < ((ord x : Nat) : Int)) := by omega
        clear hb2 HOR hgt
        generalize ord x = z at *
        generalize odd x = z2 at *
        go_wp2
        go_roundw
        case rel => exact ⟨k + 1, by omega, by go_num, HN2, hB2⟩
        case measure => simp [intOf]; omega
    · exfalso
      obtain ⟨x, hx, hgt⟩ := HO.out
      obtain ⟨j, hj, e⟩ := List.getElem_of_mem hx
      have := hN.out j (by omega)
      rw [List.getD, List.getElem?_eq_getElem hj] at this
      simp [e] at this
      omega

set_option maxRecDepth 20000 in
set_option maxHeartbeats 1000000 in
theorem circuit_refuses (n : Int) (v : Value) (L : List (List Int)) (c : Int) (w : World) (hX : IntsAll w v L) (hc : c ≠ 0)
    (hk : Calls Try.prog 10 #[.int .i64 n, v] w fun e w' => e = .returned (.int .i64 c) ∧ Below w.heap.size w w') :
    Calls Try.prog 4 #[.int .i64 n, v] w fun e w' => e = .returned (.tuple #[.slice none 0 0, .bool false, .int .i64 c]) ∧ Below w.heap.size w w' := by
  have HK := hide hk
  have hne : (c != 0) = true := by rw [bne_iff_ne]; exact hc
  obtain ⟨p0, c0, rfl⟩ := hX.len
  clear hk hX hc
  go_enter Try.func4, Try.ntmps4
  go_wp2_with fail
  refine HK.out.mono ?_
  rintro e w1 ⟨rfl, hb1⟩
  go_wp2
  go_ret3
  exact ⟨rfl, hb1⟩

theorem gchk_zero {n : Nat} : ∀ {xss : List (List Int)}, gchk n xss = 0 → RowsN n xss
  | [], _ => fun x hx => by cases hx
  | x :: t, h => by
    have h1 : (if rchk n x = 0 then gchk n t else rchk n x) = 0 := h
    by_cases hz : rchk n x = 0
    · rw [if_pos hz] at h1
      have ih := gchk_zero h1
      intro y hy
      rcases List.mem_cons.1 hy with rfl | hy
      · unfold rchk at hz
        by_cases hc : chk y = 0
        · rw [if_pos hc] at hz
          by_cases hl : y.length = n
          · exact ⟨(chk_zero hc).2.2, hl⟩
          · rw [if_neg hl] at hz; omega
        · rw [if_neg hc] at hz; exact absurd hz hc
      · exact ih y hy
    · rw [if_neg hz] at h1; exact absurd h1 hz

end Go.Proofs.Ytnmjgepobcanfaa

/- append of what came in. -/
namespace Go.Proofs.Ytnmjgepobcanfaa
open Go.RowKit

theorem run_append_none {P : Program} (w : World) (t ty e : TypeId) (i : TypeInfo) (ht : P.underlying t = some (.slice e)) (hi : P.info? e = some i) (a : Addr) (n cap : Nat) (hn : n ≤ cap) (p : Option Addr) (c : Nat) :
    (Builtin.append_ #[t, t] ty #[.slice (some a) n cap, .slice p 0 c]).run P w = .ok (.slice (some a) n cap) w := by
  cases p <;> simp [Builtin.append_, run_underlying ht, sizeOf, typeInfo, hi, Builtin.lenOf, Builtin.firstCells, loadCells, loadCellsFrom, hn, storeCells]

theorem run_append_nil_none {P : Program} (w : World) (t ty e : TypeId) (i : TypeInfo) (ht : P.underlying t = some (.slice e)) (hi : P.info? e = some i) (p : Option Addr) (c : Nat) :
    (Builtin.append_ #[t, t] ty #[.slice none 0 0, .slice p 0 c]).run P w = .ok (.slice none 0 0) w := by
  cases p <;> simp [Builtin.append_, run_underlying ht, sizeOf, typeInfo, hi, Builtin.lenOf, Builtin.firstCells, loadCells, loadCellsFrom]

/-- 'append(a, b...)': a owned, b whatever came in. -/
theorem wpList_append_vals {P : Program} {w : World} {ops : Array Oper} {rest : List Oper} {o : Oper} {a : Act} {Q : Exit → Act → World → Prop} (hgd : o.guard = none) (s x : Operand) (t : TypeId)
    (ho : o.op = .call { callee := .builtin .append, args := #[s, x], argTypes := #[t, t] })
    (base : Nat) (e : TypeId) (i : TypeInfo) (z : Value) (bytes : Nat) (ht : P.underlying t = some (.slice e)) (hi : P.info? e = some i) (hz : i.zero = some z)
    (hsize : i.size = 1) (hby : i.bytes = bytes) (hzs : z.cells.size = 1)
    (v : Value) (n : Nat) (xs : List Value) (hs : a.eval s = v) (hown : w.ownsRow base e 1 v n xs)
    (u : Value) (news : List Value) (hx : a.eval x = u) (hsrc : Vals w u news) (h1 : ∀ u ∈ news, u.oneCell' = true)
    (h63 : n + news.length ≤ maxLen) (hbytes : (n + news.length) * bytes ≤ 140737488355328) (hbase : base ≤ w.heap.size)
    (h : ∀ v' w', w'.ownsRow base e 1 v' (n + news.length) (xs ++ news) → w.grownBy w' v.ownBlock → wpList P ops Q rest (a.put o.dst v') w') :
    wpList P ops Q (o :: rest) a w := by
  rcases hsrc with ⟨rfl, p, c, rfl⟩ | ⟨b, off, cap, rfl, h0, hc, hm, hb, hcell⟩
  · rw [List.length_nil, Nat.add_zero, List.append_nil] at h
    have hr : w.grownBy w v.ownBlock := ⟨rfl, rfl, rfl, Nat.le_refl _, fun _ _ _ => rfl⟩
    rcases hown.2 with ⟨rfl, rfl⟩ | ⟨g2, cap2, cur2, rfl, _, _, hnc2, _⟩
    · refine wpList_plain hgd fun K hK => ?_
      have hrun := run_append_nil_none (P := P) w t o.type e i ht hi p c
      unfold Oper.wp execOp
      simp only [ho, resolve, invoke, builtin, Sem.run_bind, Sem.run_pure, Result.andThen_ok, List.map_toArray, List.map_cons, List.map_nil, hs, hx, hrun]
      exact hK _ _ (h _ _ hown hr)
    · refine wpList_plain hgd fun K hK => ?_
      have hrun := run_append_none (P := P) w t o.type e i ht hi ⟨g2, 0, none⟩ n cap2 hnc2 p c
      unfold Oper.wp execOp
      simp only [ho, resolve, invoke, builtin, Sem.run_bind, Sem.run_pure, Result.andThen_ok, List.map_toArray, List.map_cons, List.map_nil, hs, hx, hrun]
      exact hK _ _ (h _ _ hown hr)
  · refine wpList_append_own w hgd s x t ho base e i z 1 bytes ht hi hz hsize hby hzs (by decide) v n xs hs hown ⟨b, off, none⟩ news.length cap news hx (by omega) (fun j u hu => ?_) h1 h63 hbytes hbase ?_
    · have hj := (List.getElem?_eq_some_iff.1 hu).1
      have := hcell j hj
      rw [List.getD_eq_getElem?_getD, hu] at this
      by_cases h0j : j = 0
      · subst h0j; simpa [Addr.add] using this
      · simpa [Addr.add, h0j] using this
    · intro v' w' h2 h3 _
      exact h v' w' h2 h3

theorem vals_cells {w : World} {vs : List Value} {xss : List (List Int)} (hl : vs.length = xss.length) (hi : ∀ j, j < xss.length → Ints w (vs.getD j undef) (xss.getD j [])) : ∀ u ∈ vs, u.oneCell' = true := by
  intro u hu
  obtain ⟨j, hj, rfl⟩ := List.getElem_of_mem hu
  obtain ⟨p, c, e⟩ := (hi j (by omega)).form
  rw [List.getD_eq_getElem?_getD, List.getElem?_eq_getElem hj, Option.getD_some] at e
  rw [e]
  rfl

theorem ints_join {w : World} {us vs : List Value} {xa xb : List (List Int)} (hl : us.length = xa.length) (hi : ∀ j, j < xa.length → Ints w (us.getD j undef) (xa.getD j [])) (hi2 : ∀ j, j < xb.length → Ints w (vs.getD j undef) (xb.getD j [])) :
    ∀ j, j < (xa ++ xb).length → Ints w ((us ++ vs).getD j undef) ((xa ++ xb).getD j []) := by
  intro j hj
  rw [List.length_append] at hj
  simp only [List.getD_eq_getElem?_getD]
  by_cases h : j < xa.length
  · rw [List.getElem?_append_left (by omega), List.getElem?_append_left h]
    simpa [List.getD_eq_getElem?_getD] using hi j h
  · rw [List.getElem?_append_right (by omega), List.getElem?_append_right (by omega), hl]
    simpa [List.getD_eq_getElem?_getD] using hi2 (j - xa.length) (by omega)

end Go.Proofs.Ytnmjgepobcanfaa
