/- Joined: XtF, XtG, XtH, ChRow, ChMay. -/
import Derived.Test.YthbhoohdniamaaaJ5
import Derived.Test.YthbhoohdniamaaaJ4
import Derived.Test.YthbhoohdniamaaaJ3
/- Contracts: extent.unlike (with slices.ContainsFunc over its closure), extent.checkCircuit. -/
namespace Go.Proofs.Ythbhoohdniamaaa
open Go.RowKit

set_option maxRecDepth 20000 in
set_option maxHeartbeats 1000000 in
theorem again_ok (va vc : Value) (a c : List Int) (D : Nat) (w : World) (hD : w.cell? ⟨D, 0, none⟩ = some vc) (ha : Ints w va a) (hc : Ints w vc c) :
    Calls Try.prog 63 #[va, .pointer (some ⟨D, 0, none⟩)] w fun e w' => e = .returned (.bool (decide (a = c))) ∧ Below w.heap.size w w' := by
  have HE := hide (equal_any va vc a c w ha hc)
  obtain ⟨p1, c1, rfl⟩ := ha.form
  obtain ⟨p2, c2, rfl⟩ := hc.form
  clear ha hc
  generalize decide (a = c) = z at *
  go_enter Try.func63, Try.ntmps63
  go_wp2_with fail
  refine HE.out.mono ?_
  rintro e w' ⟨rfl, hb⟩
  go_wp2
  go_ret
  exact ⟨rfl, hb⟩

set_option maxRecDepth 20000 in
set_option maxHeartbeats 1000000 in
theorem indexAgain_ok (v vc : Value) (X : List (List Int)) (c : List Int) (D : Nat) (w : World) (hD : w.cell? ⟨D, 0, none⟩ = some vc) (hDs : D < w.heap.size) (hX : IntsAll w v X) (hc : Ints w vc c) (hl : X.length ≤ 1000) :
    Calls Try.prog 89 #[v, .func (.func 63) #[] #[.pointer (some ⟨D, 0, none⟩)]] w fun e w' => ∃ r : Int, e = .returned (.int .i64 r) ∧ (0 ≤ r ↔ c ∈ X) ∧ -1 ≤ r ∧ r ≤ 1000 ∧ Below w.heap.size w w' := by
  obtain ⟨p0, c0, rfl⟩ := hX.len
  have HX := hide hX
  have HC := hide hc
  have HD := hide hD
  clear hX hc hD
  go_enter Try.func89, Try.ntmps89
  go_wp2
  go_loopw [8] (fun i wr => ∃ k : Nat, k ≤ X.length ∧ i = .int .i64 k ∧ Hid (∀ j, j < k → X.getD j [] ≠ c) ∧ Below w.heap.size w wr) (fun i _ => X.length - (intOf i).toNat)
  case atStart => exact ⟨0, by omega, rfl, (fun j hj => absurd hj (by omega)), Below.refl _ _⟩
  case round =>
    obtain ⟨k, hk, rfl, hN, hbw⟩ := hrel
    by_cases hlt : k < X.length
    · obtain ⟨b, off, cap, he, hb3, hlc3, hcm3, hcell3⟩ := (HX.out.below hbw).cell (by omega)
      simp only [Value.slice.injEq] at he
      obtain ⟨rfl, _, rfl⟩ := he
      obtain ⟨q, cc, hce, hint⟩ := hcell3 k hlt
      have HA := hide (again_ok _ vc _ c D wr ((hbw.cell (p := ⟨D, 0, none⟩) hDs).trans HD.out) hint.out (HC.out.below hbw))
      clear hcell3 hint
      by_cases hx : X.getD k [] = c
      · have hmem : c ∈ X := by rw [← hx, List.getD, List.getElem?_eq_getElem hlt]; exact List.getElem_mem hlt
        have HMem := hide hmem
        rw [decide_eq_true hx] at HA
        clear hx hmem
        generalize (X.getD k []).length = xl at *
        go_wp2_with fail
        refine HA.out.mono ?_
        rintro e w2 ⟨rfl, hb2⟩
        have hB2 := hbw.trans (hb2.mono hbw.size)
        clear hb2
        go_wp2
        go_ret
        exact ⟨_, rfl, ⟨fun _ => HMem.out, fun _ => by omega⟩, by omega, by omega, hB2⟩
      · rw [decide_eq_false hx] at HA
        have HN2 : Hid (∀ j, j < k + 1 → X.getD j [] ≠ c) := fun j hj => by
          rcases Nat.lt_succ_iff_lt_or_eq.1 hj with h | h
          · exact hN.out j h
          · rw [h]; exact hx
        clear hx
        generalize (X.getD k []).length = xl at *
        go_wp2_with fail
        refine HA.out.mono ?_
        rintro e w2 ⟨rfl, hb2⟩
        have hB2 := hbw.trans (hb2.mono hbw.size)
        clear hb2
        go_wp2
        go_roundw
        case rel => exact ⟨k + 1, by omega, by go_num, HN2, hB2⟩
        case measure => simp [intOf]; omega
    · have HNM : Hid (¬ c ∈ X) := fun h => by
        obtain ⟨j, hj, e⟩ := List.getElem_of_mem h
        exact hN.out j (by omega) (by rw [List.getD, List.getElem?_eq_getElem hj]; exact e)
      go_wp2
      go_ret
      exact ⟨-1, rfl, ⟨fun h => absurd h (by omega), fun h => absurd h HNM.out⟩, by omega, by omega, hbw⟩

set_option maxRecDepth 20000 in
set_option maxHeartbeats 1000000 in
theorem containsAgain_ok (v vc : Value) (X : List (List Int)) (c : List Int) (D : Nat) (w : World) (hD : w.cell? ⟨D, 0, none⟩ = some vc) (hDs : D < w.heap.size) (hX : IntsAll w v X) (hc : Ints w vc c) (hl : X.length ≤ 1000) :
    Calls Try.prog 64 #[v, .func (.func 63) #[] #[.pointer (some ⟨D, 0, none⟩)]] w fun e w' => e = .returned (.bool (decide (c ∈ X))) ∧ Below w.heap.size w w' := by
  have HI := hide (indexAgain_ok v vc X c D w hD hDs hX hc hl)
  obtain ⟨p0, c0, rfl⟩ := hX.len
  clear hX hc hD
  go_enter Try.func64, Try.ntmps64
  go_wp2_with fail
  refine HI.out.mono ?_
  rintro e w' ⟨r, rfl, hr, h1, h2, hb⟩
  have HE : Hid (decide (c ∈ X) = decide (0 ≤ r)) := by show _ = _; rw [decide_eq_decide]; exact hr.symm
  clear hr
  go_wp2
  go_ret
  exact ⟨ret_bool HE.out.symm, hb⟩

/-- The numbers of lists that were not there ahead. -/
def unl (L : List (List Int)) (k : Nat) : List Nat := (List.range k).filter (fun i => decide (¬ L.getD i [] ∈ L.take i))

theorem unl_snoc (L : List (List Int)) (k : Nat) : unl L (k + 1) = unl L k ++ (if L.getD k [] ∈ L.take k then [] else [k]) := by
  unfold unl
  rw [List.range_succ, List.filter_append]
  by_cases h : L.getD k [] ∈ L.take k
  · rw [if_pos h]
    simp; exact h
  · rw [if_neg h]
    simp; exact h

theorem unl_le (L : List (List Int)) (k : Nat) : (unl L k).length ≤ k := Nat.le_trans (List.length_filter_le _ _) (by simp)

theorem unl_tried (L : List (List Int)) (nx : Nat → Nat → Nat) (h : ∀ i j, i < L.length → j < L.length → L.getD i [] = L.getD j [] → ∀ a, nx i a = nx j a) : Tried nx L.length (unl L L.length) := by
  refine ⟨fun k hk => ?_, ?_, fun k => ?_⟩
  · have := (List.mem_filter.1 hk).1
    simpa using this
  · exact List.Pairwise.filter _ List.pairwise_lt_range
  · induction k using Nat.strongRecOn with
    | ind k ih =>
      intro hk
      by_cases hm : L.getD k [] ∈ L.take k
      · obtain ⟨j, hj, e⟩ := List.getElem_of_mem hm
        have hj2 : j < k := by rw [List.length_take] at hj; omega
        have e2 : L.getD j [] = L.getD k [] := by
          rw [← e, List.getElem_take, List.getD, List.getElem?_eq_getElem (by omega)]; rfl
        obtain ⟨k', h1, h2, h3⟩ := ih j hj2 (by omega)
        exact ⟨k', h1, by omega, fun a => (h3 a).trans (h j k (by omega) hk e2 a)⟩
      · exact ⟨k, List.mem_filter.2 ⟨by simpa using hk, by simpa using hm⟩, Nat.le_refl _, fun _ => rfl⟩

set_option maxRecDepth 20000 in
set_option maxHeartbeats 2000000 in
theorem unlike_ok (v : Value) (L : List (List Int)) (w : World) (hX : IntsAll w v L) (hl : L.length ≤ 100) :
    Calls Try.prog 38 #[v] w fun e w' => ∃ u, e = .returned u ∧ w'.ownsRow w.heap.size 3 1 u (unl L L.length).length ((nI (unl L L.length)).map (Value.int .i64)) ∧ Below w.heap.size w w' := by
  obtain ⟨i0, hi, hz0, hz1, hz2⟩ := info_parts Try.info3
  have hmf : ∀ (fn : Fn) (first cap : Array Value) (w : World), (Instr.makeFunc fn first cap).run Try.prog w = .ok (.func fn first cap) w := fun _ _ _ _ => rfl
  obtain ⟨p0, c0, rfl⟩ := hX.len
  have HX := hide hX
  clear hX
  go_enter Try.func38, Try.ntmps38
  go_wp2
  go_loopw [3, 9] (fun u i wr => ∃ k : Nat, k ≤ L.length ∧ i = .int .i64 k ∧ Hid (wr.ownsRow w.heap.size 3 1 u (unl L k).length ((nI (unl L k)).map (Value.int .i64))) ∧ Below w.heap.size w wr) (fun _ i _ => L.length - (intOf i).toNat)
  case atStart => exact ⟨0, by omega, rfl, World.ownsRow_nil _ _ _ _, Below.refl _ _⟩
  case round =>
    obtain ⟨k, hk, rfl, hO, hbw⟩ := hrel
    have hbs := hbw.size
    have hul := unl_le L k
    by_cases hlt : k < L.length
    · obtain ⟨b, off, cap, he, hb3, hlc3, hcm3, hcell3⟩ := (HX.out.below hbw).cell (by omega)
      simp only [Value.slice.injEq] at he
      obtain ⟨rfl, _, rfl⟩ := he
      obtain ⟨q, cc, hce, hint⟩ := hcell3 k hlt
      have HCF := hide (fun W (hBA : Below wr.heap.size wr W) (hDc : W.cell? ⟨wr.heap.size, 0, none⟩ = some (.slice q (L.getD k []).length cc)) (hs : wr.heap.size < W.heap.size) => containsAgain_ok (.slice (some ⟨b, off, none⟩) k c0) (.slice q (L.getD k []).length cc) (L.take k) (L.getD k []) wr.heap.size W hDc hs (((HX.out.below hbw).cut rfl hk).below hBA) (hint.out.below hBA) (by rw [List.length_take]; omega))
      have HU := hide (unl_snoc L k)
      obtain ⟨up, uc, hup⟩ := owns_slice hO.out
      subst hup
      clear hcell3 hint
      generalize hln : (unl L k).length = ln at *
      have HLN := hide hln
      clear hln
      by_cases hm : L.getD k [] ∈ L.take k
      · rw [decide_eq_true hm] at HCF
        rw [if_pos hm, List.append_nil] at HU
        clear hm
        generalize (L.getD k []).length = xl at *
        go_wp2_with fail
        have hBA : Below wr.heap.size wr (wr.alloc (.cells #[.slice q xl cc] 22)) := (Below.refl _ _).alloc (Nat.le_refl _) _
        have hDc : (wr.alloc (.cells #[.slice q xl cc] 22)).cell? ⟨wr.heap.size, 0, none⟩ = some (.slice q xl cc) := by
          have h9 := heap_alloc_new wr (.cells #[.slice q xl cc] 22)
          unfold World.cell?; simp only [h9]; rfl
        refine (HCF.out _ hBA hDc (by simp)).mono ?_
        rintro e w2 ⟨rfl, hb2⟩
        have hB2 : Below wr.heap.size wr w2 := hBA.trans (hb2.mono hBA.size)
        have HO2 := hide (owns_below hO.out hB2 (Nat.le_refl _))
        have hB3 : Below w.heap.size w w2 := hbw.trans (hB2.mono hbs)
        have hbs3 := hB3.size
        clear hB2 hb2 hBA hDc HCF hO hbw
        go_wp2
        go_roundw
        case rel => exact ⟨k + 1, by omega, by go_num, by show World.ownsRow _ _ _ _ _ _ _; rw [HU.out, HLN.out]; exact HO2.out, hB3⟩
        case measure => simp [intOf]; omega
      · rw [decide_eq_false hm] at HCF
        rw [if_neg hm] at HU
        clear hm
        generalize (L.getD k []).length = xl at *
        go_wp2_with fail
        have hBA : Below wr.heap.size wr (wr.alloc (.cells #[.slice q xl cc] 22)) := (Below.refl _ _).alloc (Nat.le_refl _) _
        have hDc : (wr.alloc (.cells #[.slice q xl cc] 22)).cell? ⟨wr.heap.size, 0, none⟩ = some (.slice q xl cc) := by
          have h9 := heap_alloc_new wr (.cells #[.slice q xl cc] 22)
          unfold World.cell?; simp only [h9]; rfl
        refine (HCF.out _ hBA hDc (by simp)).mono ?_
        rintro e w2 ⟨rfl, hb2⟩
        have hB2 : Below wr.heap.size wr w2 := hBA.trans (hb2.mono hBA.size)
        have HO2 := hide (owns_below hO.out hB2 (Nat.le_refl _))
        have hB3 : Below w.heap.size w w2 := hbw.trans (hB2.mono hbs)
        have hbs3 := hB3.size
        clear hB2 hb2 hBA hDc HCF hO hbw
        have hrow := HO2.out
        go_wp2_with (at_builtin; refine wpList_append_own _ rfl _ _ 22 rfl w.heap.size 3 i0 (.int .i64 0) 1 8 Try.underlying22 hi hz0 hz1 hz2 rfl (by decide) _ _ _ rfl (hrow.alloc _) ⟨w2.heap.size, 0, none⟩ 1 1 [.int .i64 (k : Int)] rfl rfl ?c1 ?c2 ?c3 ?c4 ?c5 ?_)
        case c1 => exact cell_one_new _ _ _
        case c2 => intro u hu; simp at hu; subst hu; rfl
        case c3 => unfold maxLen; omega
        case c4 => omega
        case c5 => simp; omega
        intro v' w4 hown4 hgrow _
        have HO4 : Hid (w4.ownsRow w.heap.size 3 1 v' (unl L (k + 1)).length ((nI (unl L (k + 1))).map (Value.int .i64))) := by
          show World.ownsRow _ _ _ _ _ _ _
          rw [HU.out, List.length_append, HLN.out, show nI (unl L k ++ [k]) = nI (unl L k) ++ [(k : Int)] from by simp [nI], List.map_append]
          exact hown4
        have hB4 : Below w.heap.size w w4 := (hB3.alloc hbs3 _).grown hgrow (by simp; omega) (fun g hg => (hrow.lt g hg).1)
        clear hown4 hgrow hrow HO2
        go_wp2
        go_roundw
        case rel => exact ⟨k + 1, by omega, by go_num, HO4, hB4⟩
        case measure => simp [intOf]; omega
    · obtain rfl : k = L.length := by omega
      go_wp2
      go_ret
      exact ⟨_, rfl, hO.out, hbw⟩

set_option maxRecDepth 20000 in
set_option maxHeartbeats 2000000 in
theorem checkCircuit_ok (n : Nat) (v : Value) (L : List (List Int)) (w : World) (h1 : 1 ≤ n) (h4 : n ≤ 4) (hX : IntsAll w v L) (hl : L.length ≤ 8) (hr : RowsN n L) (ho : ∀ x, x ∈ L → ord x ≤ 2) :
    Calls Try.prog 36 #[.int .i64 n, v] w fun e w' => e = .returned (.int .i64 0) ∧ Below w.heap.size w w' := by
  have HG := hide (gcheck_ok n v L w hX h1 (by omega) hl)
  rw [gchk_rows h1 (by omega) hr] at HG
  obtain ⟨p0, c0, rfl⟩ := hX.len
  have HX := hide hX
  have HR := hide hr
  have HO := hide ho
  clear hX hr ho
  go_enter Try.func36, Try.ntmps36
  go_wp2_with fail
  refine HG.out.mono ?_
  rintro e w1 ⟨rfl, hb1⟩
  clear HG
  go_wp2
  go_loopw [25] (fun i wr => ∃ k : Nat, k ≤ L.length ∧ i = .int .i64 k ∧ Below w.heap.size w wr) (fun i _ => L.length - (intOf i).toNat)
  case atStart => exact ⟨0, by omega, rfl, hb1⟩
  case round =>
    clear hb1
    obtain ⟨k, hk, rfl, hbw⟩ := hrel
    by_cases hlt : k < L.length
    · obtain ⟨b, off, cap, he, hb3, hlc3, hcm3, hcell3⟩ := (HX.out.below hbw).cell (by omega)
      simp only [Value.slice.injEq] at he
      obtain ⟨rfl, _, rfl⟩ := he
      obtain ⟨q, cc, hce, hint⟩ := hcell3 k hlt
      have hmem : L.getD k [] ∈ L := by rw [List.getD, List.getElem?_eq_getElem hlt]; exact List.getElem_mem hlt
      obtain ⟨r1, r2⟩ := HR.out _ hmem
      have ho := HO.out _ hmem
      have HOR := hide (order_ord h1 (show n ≤ 12 by omega) ⟨hint.out, r1, r2⟩)
      clear hcell3 hint hmem r1 r2
      generalize L.getD k [] = x at *
      generalize x.length = xl at *
      go_wp2_with fail
      refine HOR.out.mono ?_
      rintro e w2 ⟨rfl, ho1, ho2, hb2⟩
      have hB2 := hbw.trans (hb2.mono hbw.size)
      have hgt : ¬ ((2 : Int) < ((ord x : Nat) : Int)) := by omega
      clear hb2 HOR
      generalize ord x = z at *
      generalize odd x = z2 at *
      go_wp2
      go_roundw
      case rel => exact ⟨k + 1, by omega, by go_num, hB2⟩
      case measure => simp [intOf]; omega
    · go_wp2
      go_ret
      exact ⟨rfl, hbw⟩

end Go.Proofs.Ythbhoohdniamaaa

/- Contract: extent.Circuit, where changes may be. -/
namespace Go.Proofs.Ythbhoohdniamaaa
open Go.RowKit

/-- Where a change leads, by numbers. -/
def nxc (n : Nat) (L : List (List Int)) (k a : Nat) : Nat := rkk (by_ (rowAt n a) (L.getD k []))

def ledl (n : Nat) (c : List Int) : List Int := (List.range (fct n)).map (fun a => ((rkk (by_ (rowAt n a) c) : Nat) : Int))

theorem ledl_len (n : Nat) (c : List Int) : (ledl n c).length = fct n := by simp [ledl]

theorem set4z {w1 : World} {B : Nat} {a b c d : Value} {t : TypeId} (h : w1.heap[B]? = some (.cells #[a, b, c, d] t)) (u : Value) : (w1.setCell ⟨B, 0, none⟩ u).heap[B]? = some (.cells #[u, b, c, d] t) := by
  simp [World.setCell, Array.getElem?_modify, h]

theorem LL.frm {w w' : World} {base : Nat} {v : Value} {vs : List Value} {xss : List (List Int)} (h : LL w base v vs xss) (hb : ∀ b, base ≤ b → b < w.heap.size → w'.heap[b]? = w.heap[b]?) : LL w' base v vs xss :=
  ⟨owns_block h.row (fun g hg => hb g (h.row.lt g hg).1 (h.row.lt g hg).2), h.all.mono (fun _ _ _ h' => owns_block h' (fun g hg => hb g (h'.lt g hg).1 (h'.lt g hg).2))⟩

theorem LL.setLow {w : World} {base : Nat} {v : Value} {vs : List Value} {xss : List (List Int)} (h : LL w base v vs xss) {a : Addr} (ha : a.block < base) (u : Value) : LL (w.setCell a u) base v vs xss :=
  h.frm (fun b h1 _ => Below.heap_setCell _ _ _ _ (by omega))

theorem ISet.made (w : World) : ISet (w.alloc (.map #[] 0)) w.heap.size [] :=
  ⟨List.nodup_nil, .map [], Go.World.ownsMap_made _ _ _ _, rfl, fun a => by simp; rfl⟩

def CircPost (n : Nat) (L : List (List Int)) (w : World) (e : Ending) (w' : World) : Prop :=
  Below w.heap.size w w' ∧ ((∃ (q : List Nat) (v : Value), e = .returned (.tuple #[v, .bool true, .int .i64 0]) ∧ Ints w' v (nI q) ∧ Good (nxc n L) L.length (fct n) [0] 0 q ∧ ∀ t, Good (nxc n L) L.length (fct n) [0] 0 t → ¬ Ltl t q) ∨
    (e = .returned (.tuple #[.slice none 0 0, .bool false, .int .i64 0]) ∧ ∀ t, ¬ Good (nxc n L) L.length (fct n) [0] 0 t))

theorem nxc_lt {n : Nat} {L : List (List Int)} (hr : RowsN n L) {k : Nat} (a : Nat) (hk : k < L.length) : nxc n L k a < fct n := by
  have hm : L.getD k [] ∈ L := by rw [List.getD, List.getElem?_eq_getElem hk]; exact List.getElem_mem hk
  exact rkk_lt (by rw [by_length]; exact (hr _ hm).2)

set_option maxRecDepth 20000 in
set_option maxHeartbeats 8000000 in
theorem circuit_ok (n : Nat) (v : Value) (L : List (List Int)) (w : World) (h1 : 1 ≤ n) (h4 : n ≤ 4) (hX : IntsAll w v L) (hl : L.length ≤ 8) (hr : RowsN n L) (ho : ∀ x, x ∈ L → ord x ≤ 2) :
    Calls Try.prog 19 #[.int .i64 n, v] w (CircPost n L w) := by
  obtain ⟨i0, hi, hz0, hz1, hz2⟩ := info_parts Try.info22
  have hf := fct_24 h4
  have hfp := fct_pos n
  have hmm := @run_makeMap Try.prog
  have HCC := hide (checkCircuit_ok n v L w h1 h4 hX hl hr ho)
  obtain ⟨p0, c0, rfl⟩ := hX.len
  have HX := hide hX
  have HR := hide hr
  clear hX hr ho
  go_enter Try.func19, Try.ntmps19
  go_wp2_with fail
  refine HCC.out.mono ?_
  rintro e w1 ⟨rfl, hb1⟩
  clear HCC
  go_wp2_with fail
  refine (allRows_ok n w1 h1 h4).mono ?_
  rintro e w2 ⟨ru, rvs, rfl, hRL, hb2⟩
  have hB2 := hb1.trans (hb2.mono hb1.size)
  have HXR := hide hRL.ints
  have hrl := hRL.len
  rw [Xn_length] at hrl
  have hrr := hRL.row
  rw [hrl] at hrr
  obtain ⟨rb, rc, rfl, _, _, _, _⟩ := owns_form hrr (by omega)
  clear hRL hrr hrl hb1 hb2
  go_wp2_with fail
  refine (unlike_ok _ L w2 (HX.out.below hB2) (by omega)).mono ?_
  rintro e w3 ⟨uu, rfl, huo, hb3⟩
  have hB3 := hB2.trans (hb3.mono hB2.size)
  have HB3 := hide hB3
  have HXR3 := hide (HXR.out.below hb3)
  have HX3 := hide (HX.out.below hB3)
  have HUO := hide huo
  obtain ⟨up, uc, rfl⟩ := owns_slice huo
  obtain ⟨wm, hput0, hset0, hturn0⟩ := (ISet.made w3).put 0 (by omega) (by simp) (by simp [maxLen]) (.int .i64 0)
  have hput : (Instr.mapUpdate 81 (.map (some w3.heap.size)) (.int .i64 0) (.int .i64 0)).run Try.prog (w3.alloc (.map #[] 0)) = .ok () wm := hput0
  have hsz : wm.heap.size = w3.heap.size + 1 := by rw [turned_size hturn0]; simp
  have HSZ := hide hsz
  have HS0 := hide hset0
  have HT0 := hide hturn0
  generalize hln : (unl L L.length).length = ul at *
  have HLN := hide hln
  clear hB2 hb3 hB3 HXR huo hput0 hset0 hturn0 hsz hln
  go_upto_region 6 with fail
  rw [HSZ.out]
  have HBA : Hid (Below w3.heap.size w3 (wm.alloc (.cells #[.slice none 0 0, .slice up ul uc, .map (some w3.heap.size), .slice none 0 0] 83))) :=
    ((((Below.refl _ _).alloc (Nat.le_refl _) _).grown HT0.out.grown (by simp) (fun g hg => by cases hg; exact Nat.le_refl _)).alloc (by rw [HSZ.out]; omega) _)
  have HK0 : Hid ((wm.alloc (.cells #[.slice none 0 0, .slice up ul uc, .map (some w3.heap.size), .slice none 0 0] 83)).heap[w3.heap.size + 1]? = some (.cells #[.slice none 0 0, .slice up ul uc, .map (some w3.heap.size), .slice none 0 0] 83)) := by
    show _ = _
    rw [← HSZ.out]; exact heap_alloc_new _ _
  have HIS := hide (HS0.out.of_block (Below.heap_alloc wm (.cells #[.slice none 0 0, .slice up ul uc, .map (some w3.heap.size), .slice none 0 0] 83) w3.heap.size (by rw [HSZ.out]; omega)))
  clear HSZ HS0 HT0 hput hmm
  generalize wm.alloc (.cells #[.slice none 0 0, .slice up ul uc, .map (some w3.heap.size), .slice none 0 0] 83) = wa at *
  go_wp2
  go_loopw [27] (fun i wr => ∃ (k : Nat) (tp : Option Addr) (tc : Nat) (vs : List Value), k ≤ L.length ∧ i = .int .i64 k ∧ Hid (vs.length = k) ∧ Hid (LL wr (w3.heap.size + 1 + 1) (.slice tp k tc) vs ((List.range k).map (fun i => ledl n (L.getD i [])))) ∧
      Hid (wr.heap[w3.heap.size + 1]? = some (.cells #[.slice tp k tc, .slice up ul uc, .map (some w3.heap.size), .slice none 0 0] 83)) ∧ Hid (ISet wr w3.heap.size [0]) ∧ Below w3.heap.size w3 wr) (fun i _ => L.length - (intOf i).toNat)
  case atStart => exact ⟨0, none, 0, [], by omega, rfl, rfl, LL.nil _ _, HK0, HIS, HBA.out⟩
  case round =>
    clear HK0 HIS HBA
    obtain ⟨k, tp, tc, vs, hk, rfl, hlv, HT, hblk, hset, hbw⟩ := hrel
    have hsbl : w3.heap.size + 1 < wr.heap.size := (Array.getElem?_eq_some_iff.1 hblk.out).1
    by_cases hlt : k < L.length
    · obtain ⟨b, off, cap, he, hb3, hlc3, hcm3, hcell3⟩ := (HX3.out.below hbw).cell (by omega)
      simp only [Value.slice.injEq] at he
      obtain ⟨rfl, _, rfl⟩ := he
      obtain ⟨p, q, hce, hint⟩ := hcell3 k hlt
      have hmem : L.getD k [] ∈ L := by rw [List.getD, List.getElem?_eq_getElem hlt]; exact List.getElem_mem hlt
      obtain ⟨r1, r2⟩ := HR.out _ hmem
      have HLED := hide (fun W (hW : Below wr.heap.size wr W) => led_ok n (.slice (some ⟨rb, 0, none⟩) (fct n) rc) (.slice p (L.getD k []).length q) (L.getD k []) W h1 h4 ((HXR3.out.below hbw).below hW) (hint.out.below hW) r1 r2)
      obtain ⟨z0, z1, z2, z3, f0', f3'⟩ := cells4 hblk.out
      have hd0 : Below wr.heap.size wr wr.drew := (Below.refl _ _).drew
      clear hcell3 hint hmem r1 r2 z1 z2 z3 f0' f3'
      generalize hxl : (L.getD k []).length = xl at *
      clear hxl
      go_upto_region 9 with fail
      refine wp_region_held_drew (S := fun _ => True) (by kernel_rfl) trivial (fun _ => ?_)
      refine wpAnyH_take (i := 0) (v := .pointer (some ⟨w3.heap.size + 1, 0, none⟩)) rfl (by kernel_rfl) (by kernel_rfl) (by kernel_rfl) (fun _ _ _ h => h) (Or.inl ⟨by kernel_rfl, fun w' _ => by go_simp⟩) trivial ?_
      refine wpAnyH_take (i := 2) (v := .slice (some ⟨rb, 0, none⟩) (fct n) rc) rfl (by kernel_rfl) (by kernel_rfl) (by kernel_rfl) (fun _ _ _ h => h) (Or.inl ⟨by kernel_rfl, fun w' _ => by go_simp⟩) trivial ?_
      refine wpAnyH_take (i := 3) (v := .slice p xl q) rfl (by kernel_rfl) (by kernel_rfl) (by kernel_rfl) (fun _ _ _ h => h) (Or.inl ⟨by kernel_rfl, fun w' _ => by go_simp⟩) trivial ?_
      refine wpAnyH_ready (rs := [1, 4]) (by kernel_rfl) (by simp) ?_
      refine AllReadyH.cons rfl (fun K hK => ?_) (AllReadyH.cons rfl (fun K hK => ?_) (AllReadyH.nil))
      · go_simp
        refine hK.out _ _ trivial (fun _ => ?_)
        clear hK
        refine wpAnyH_ready (rs := [4]) (by kernel_rfl) (by simp) ?_
        refine AllReadyH.cons rfl (fun K hK => ?_) (AllReadyH.nil)
        go_simp
        refine (HLED.out wr.drew hd0).mono ?_
        rintro ex wo ⟨lu, rfl, hlu, hbo⟩
        have hBo : Below wr.heap.size wr wo := hd0.trans (hbo.mono hd0.size)
        have x0 : wo.cell? ⟨w3.heap.size + 1, 0, none⟩ = some (.slice tp k tc) := (hBo.cell (p := ⟨w3.heap.size + 1, 0, none⟩) (by exact hsbl)).trans z0
        obtain ⟨lp, lc, rfl⟩ := owns_slice hlu
        have x0a : (wo.alloc (.cells #[.slice lp (fct n) lc] 22)).cell? ⟨w3.heap.size + 1, 0, none⟩ = some (.slice tp k tc) := (((Below.refl wo.heap.size wo).alloc (Nat.le_refl _) _).cell (p := ⟨w3.heap.size + 1, 0, none⟩) (by have := hBo.size; show w3.heap.size + 1 < wo.heap.size; omega)).trans x0
        refine hK.out _ _ trivial (fun _ => ?_)
        clear hK
        refine wpAnyH_ready (rs := [5]) (by kernel_rfl) (by simp) ?_
        refine AllReadyH.cons rfl (fun K hK => ?_) (AllReadyH.nil)
        go_simp
        refine hK.out _ _ trivial (fun _ => ?_)
        clear hK
        refine wpAnyH_ready (rs := [6]) (by kernel_rfl) (by simp) ?_
        refine AllReadyH.cons rfl (fun K hK => ?_) (AllReadyH.nil)
        have hT1 := HT.out.below hBo
        have hrow1 := hT1.row
        rw [hlv.out] at hrow1
        have HT1 := hide hT1
        have HLU := hide (owns_base hlu (show w3.heap.size + 1 + 1 ≤ wr.drew.heap.size by exact hsbl))
        have hso := hBo.size
        refine step_append_own rfl (.tmp 32) (.tmp 36) 24 rfl (w3.heap.size + 1 + 1) 22 i0 (.slice none 0 0) 1 24 Try.underlying24 hi hz0 hz1 hz2 rfl (by decide) (.slice tp k tc) k vs rfl (hrow1.alloc _) ⟨wo.heap.size, 0, none⟩ 1 1 [.slice lp (fct n) lc] rfl rfl (cell_one_new _ _ _) (by intro u hu; simp at hu; subst hu; rfl) (by unfold maxLen; omega) (by omega) (by simp; omega) ?_
        intro v' w4 hown4 hgrow
        refine hK.out _ _ trivial (fun _ => ?_)
        clear hK
        refine wpAnyH_take (i := 7) (v := .pointer (some ⟨w3.heap.size + 1, 0, none⟩)) rfl (by kernel_rfl) (by kernel_rfl) (by kernel_rfl) (fun _ _ _ h => h) (Or.inl ⟨by kernel_rfl, fun w' _ => by go_simp⟩) trivial ?_
        refine wpAnyH_ready (rs := [8]) (by kernel_rfl) (by simp) ?_
        refine AllReadyH.cons rfl (fun K hK => ?_) (AllReadyH.nil)
        obtain ⟨vp, vc, rfl⟩ := owns_slice hown4
        have hb4 : Below (w3.heap.size + 1 + 1) wr w4 := ((hBo.mono (by omega)).alloc (by omega) _).grown hgrow (by simp; omega) (fun g hg => (hrow1.lt g hg).1)
        have hk4 := (hb4.block (w3.heap.size + 1) (by omega)).trans hblk.out
        obtain ⟨y0, y1, y2, y3, f0, f3⟩ := cells4 hk4
        go_simp
        have HS5 := hide (set4z hk4 (.slice vp (k + 1) vc))
        have HL4 : Hid (LL w4 (w3.heap.size + 1 + 1) (.slice vp (k + 1) vc) (vs ++ [.slice lp (fct n) lc]) ((List.range (k + 1)).map (fun i => ledl n (L.getD i [])))) := by
          show LL _ _ _ _ _
          rw [range_succ_map]
          exact HT1.out.push (by rw [ledl_len]; exact HLU.out) (by rw [hlv.out]; exact hown4) hgrow
        have HL5 : Hid (LL (w4.setCell ⟨w3.heap.size + 1, 0, none⟩ (.slice vp (k + 1) vc)) (w3.heap.size + 1 + 1) (.slice vp (k + 1) vc) (vs ++ [.slice lp (fct n) lc]) ((List.range (k + 1)).map (fun i => ledl n (L.getD i [])))) := HL4.out.setLow (by exact Nat.lt_succ_self _) _
        have HB5 : Hid (Below w3.heap.size w3 (w4.setCell ⟨w3.heap.size + 1, 0, none⟩ (.slice vp (k + 1) vc))) := (hbw.trans (hb4.mono (by omega))).setCell (by show _ ≤ w3.heap.size + 1; omega) _
        have HI5 := hide (hset.out.of_block ((Below.heap_setCell w4 ⟨w3.heap.size + 1, 0, none⟩ (.slice vp (k + 1) vc) w3.heap.size (by show w3.heap.size ≠ w3.heap.size + 1; omega)).trans (hb4.block w3.heap.size (by omega))))
        have HLV : Hid ((vs ++ [Value.slice lp (fct n) lc]).length = k + 1) := by show _ = _; rw [List.length_append, hlv.out]; rfl
        clear HL4 hb4 hk4 y0 y1 y2 y3 f0 f3 hown4 hgrow hrow1 hT1 HT1 HLU
        generalize w4.setCell ⟨w3.heap.size + 1, 0, none⟩ (.slice vp (k + 1) vc) = w5 at *
        refine hK.out _ _ trivial (fun _ => ?_)
        clear hK
        refine wpAnyH_done (by kernel_rfl) ?_ _
        go_wp2
        go_roundw
        case rel => exact ⟨k + 1, _, _, _, by omega, by go_num, HLV, HL5, HS5, HI5, HB5.out⟩
        case measure => simp [intOf]; omega
      · go_simp
        refine (HLED.out wr.drew hd0).mono ?_
        rintro ex wo ⟨lu, rfl, hlu, hbo⟩
        have hBo : Below wr.heap.size wr wo := hd0.trans (hbo.mono hd0.size)
        have x0 : wo.cell? ⟨w3.heap.size + 1, 0, none⟩ = some (.slice tp k tc) := (hBo.cell (p := ⟨w3.heap.size + 1, 0, none⟩) (by exact hsbl)).trans z0
        obtain ⟨lp, lc, rfl⟩ := owns_slice hlu
        have x0a : (wo.alloc (.cells #[.slice lp (fct n) lc] 22)).cell? ⟨w3.heap.size + 1, 0, none⟩ = some (.slice tp k tc) := (((Below.refl wo.heap.size wo).alloc (Nat.le_refl _) _).cell (p := ⟨w3.heap.size + 1, 0, none⟩) (by have := hBo.size; show w3.heap.size + 1 < wo.heap.size; omega)).trans x0
        refine hK.out _ _ trivial (fun _ => ?_)
        clear hK
        refine wpAnyH_ready (rs := [1, 5]) (by kernel_rfl) (by simp) ?_
        refine AllReadyH.cons rfl (fun K hK => ?_) (AllReadyH.cons rfl (fun K hK => ?_) (AllReadyH.nil))
        · go_simp
          refine hK.out _ _ trivial (fun _ => ?_)
          clear hK
          refine wpAnyH_ready (rs := [5]) (by kernel_rfl) (by simp) ?_
          refine AllReadyH.cons rfl (fun K hK => ?_) (AllReadyH.nil)
          go_simp
          refine hK.out _ _ trivial (fun _ => ?_)
          clear hK
          refine wpAnyH_ready (rs := [6]) (by kernel_rfl) (by simp) ?_
          refine AllReadyH.cons rfl (fun K hK => ?_) (AllReadyH.nil)
          have hT1 := HT.out.below hBo
          have hrow1 := hT1.row
          rw [hlv.out] at hrow1
          have HT1 := hide hT1
          have HLU := hide (owns_base hlu (show w3.heap.size + 1 + 1 ≤ wr.drew.heap.size by exact hsbl))
          have hso := hBo.size
          refine step_append_own rfl (.tmp 32) (.tmp 36) 24 rfl (w3.heap.size + 1 + 1) 22 i0 (.slice none 0 0) 1 24 Try.underlying24 hi hz0 hz1 hz2 rfl (by decide) (.slice tp k tc) k vs rfl (hrow1.alloc _) ⟨wo.heap.size, 0, none⟩ 1 1 [.slice lp (fct n) lc] rfl rfl (cell_one_new _ _ _) (by intro u hu; simp at hu; subst hu; rfl) (by unfold maxLen; omega) (by omega) (by simp; omega) ?_
          intro v' w4 hown4 hgrow
          refine hK.out _ _ trivial (fun _ => ?_)
          clear hK
          refine wpAnyH_take (i := 7) (v := .pointer (some ⟨w3.heap.size + 1, 0, none⟩)) rfl (by kernel_rfl) (by kernel_rfl) (by kernel_rfl) (fun _ _ _ h => h) (Or.inl ⟨by kernel_rfl, fun w' _ => by go_simp⟩) trivial ?_
          refine wpAnyH_ready (rs := [8]) (by kernel_rfl) (by simp) ?_
          refine AllReadyH.cons rfl (fun K hK => ?_) (AllReadyH.nil)
          obtain ⟨vp, vc, rfl⟩ := owns_slice hown4
          have hb4 : Below (w3.heap.size + 1 + 1) wr w4 := ((hBo.mono (by omega)).alloc (by omega) _).grown hgrow (by simp; omega) (fun g hg => (hrow1.lt g hg).1)
          have hk4 := (hb4.block (w3.heap.size + 1) (by omega)).trans hblk.out
          obtain ⟨y0, y1, y2, y3, f0, f3⟩ := cells4 hk4
          go_simp
          have HS5 := hide (set4z hk4 (.slice vp (k + 1) vc))
          have HL4 : Hid (LL w4 (w3.heap.size + 1 + 1) (.slice vp (k + 1) vc) (vs ++ [.slice lp (fct n) lc]) ((List.range (k + 1)).map (fun i => ledl n (L.getD i [])))) := by
            show LL _ _ _ _ _
            rw [range_succ_map]
            exact HT1.out.push (by rw [ledl_len]; exact HLU.out) (by rw [hlv.out]; exact hown4) hgrow
          have HL5 : Hid (LL (w4.setCell ⟨w3.heap.size + 1, 0, none⟩ (.slice vp (k + 1) vc)) (w3.heap.size + 1 + 1) (.slice vp (k + 1) vc) (vs ++ [.slice lp (fct n) lc]) ((List.range (k + 1)).map (fun i => ledl n (L.getD i [])))) := HL4.out.setLow (by exact Nat.lt_succ_self _) _
          have HB5 : Hid (Below w3.heap.size w3 (w4.setCell ⟨w3.heap.size + 1, 0, none⟩ (.slice vp (k + 1) vc))) := (hbw.trans (hb4.mono (by omega))).setCell (by show _ ≤ w3.heap.size + 1; omega) _
          have HI5 := hide (hset.out.of_block ((Below.heap_setCell w4 ⟨w3.heap.size + 1, 0, none⟩ (.slice vp (k + 1) vc) w3.heap.size (by show w3.heap.size ≠ w3.heap.size + 1; omega)).trans (hb4.block w3.heap.size (by omega))))
          have HLV : Hid ((vs ++ [Value.slice lp (fct n) lc]).length = k + 1) := by show _ = _; rw [List.length_append, hlv.out]; rfl
          clear HL4 hb4 hk4 y0 y1 y2 y3 f0 f3 hown4 hgrow hrow1 hT1 HT1 HLU
          generalize w4.setCell ⟨w3.heap.size + 1, 0, none⟩ (.slice vp (k + 1) vc) = w5 at *
          refine hK.out _ _ trivial (fun _ => ?_)
          clear hK
          refine wpAnyH_done (by kernel_rfl) ?_ _
          go_wp2
          go_roundw
          case rel => exact ⟨k + 1, _, _, _, by omega, by go_num, HLV, HL5, HS5, HI5, HB5.out⟩
          case measure => simp [intOf]; omega
        · go_simp
          refine hK.out _ _ trivial (fun _ => ?_)
          clear hK
          refine wpAnyH_ready (rs := [1]) (by kernel_rfl) (by simp) ?_
          refine AllReadyH.cons rfl (fun K hK => ?_) (AllReadyH.nil)
          go_simp
          refine hK.out _ _ trivial (fun _ => ?_)
          clear hK
          refine wpAnyH_ready (rs := [6]) (by kernel_rfl) (by simp) ?_
          refine AllReadyH.cons rfl (fun K hK => ?_) (AllReadyH.nil)
          have hT1 := HT.out.below hBo
          have hrow1 := hT1.row
          rw [hlv.out] at hrow1
          have HT1 := hide hT1
          have HLU := hide (owns_base hlu (show w3.heap.size + 1 + 1 ≤ wr.drew.heap.size by exact hsbl))
          have hso := hBo.size
          refine step_append_own rfl (.tmp 32) (.tmp 36) 24 rfl (w3.heap.size + 1 + 1) 22 i0 (.slice none 0 0) 1 24 Try.underlying24 hi hz0 hz1 hz2 rfl (by decide) (.slice tp k tc) k vs rfl (hrow1.alloc _) ⟨wo.heap.size, 0, none⟩ 1 1 [.slice lp (fct n) lc] rfl rfl (cell_one_new _ _ _) (by intro u hu; simp at hu; subst hu; rfl) (by unfold maxLen; omega) (by omega) (by simp; omega) ?_
          intro v' w4 hown4 hgrow
          refine hK.out _ _ trivial (fun _ => ?_)
          clear hK
          refine wpAnyH_take (i := 7) (v := .pointer (some ⟨w3.heap.size + 1, 0, none⟩)) rfl (by kernel_rfl) (by kernel_rfl) (by kernel_rfl) (fun _ _ _ h => h) (Or.inl ⟨by kernel_rfl, fun w' _ => by go_simp⟩) trivial ?_
          refine wpAnyH_ready (rs := [8]) (by kernel_rfl) (by simp) ?_
          refine AllReadyH.cons rfl (fun K hK => ?_) (AllReadyH.nil)
          obtain ⟨vp, vc, rfl⟩ := owns_slice hown4
          have hb4 : Below (w3.heap.size + 1 + 1) wr w4 := ((hBo.mono (by omega)).alloc (by omega) _).grown hgrow (by simp; omega) (fun g hg => (hrow1.lt g hg).1)
          have hk4 := (hb4.block (w3.heap.size + 1) (by omega)).trans hblk.out
          obtain ⟨y0, y1, y2, y3, f0, f3⟩ := cells4 hk4
          go_simp
          have HS5 := hide (set4z hk4 (.slice vp (k + 1) vc))
          have HL4 : Hid (LL w4 (w3.heap.size + 1 + 1) (.slice vp (k + 1) vc) (vs ++ [.slice lp (fct n) lc]) ((List.range (k + 1)).map (fun i => ledl n (L.getD i [])))) := by
            show LL _ _ _ _ _
            rw [range_succ_map]
            exact HT1.out.push (by rw [ledl_len]; exact HLU.out) (by rw [hlv.out]; exact hown4) hgrow
          have HL5 : Hid (LL (w4.setCell ⟨w3.heap.size + 1, 0, none⟩ (.slice vp (k + 1) vc)) (w3.heap.size + 1 + 1) (.slice vp (k + 1) vc) (vs ++ [.slice lp (fct n) lc]) ((List.range (k + 1)).map (fun i => ledl n (L.getD i [])))) := HL4.out.setLow (by exact Nat.lt_succ_self _) _
          have HB5 : Hid (Below w3.heap.size w3 (w4.setCell ⟨w3.heap.size + 1, 0, none⟩ (.slice vp (k + 1) vc))) := (hbw.trans (hb4.mono (by omega))).setCell (by show _ ≤ w3.heap.size + 1; omega) _
          have HI5 := hide (hset.out.of_block ((Below.heap_setCell w4 ⟨w3.heap.size + 1, 0, none⟩ (.slice vp (k + 1) vc) w3.heap.size (by show w3.heap.size ≠ w3.heap.size + 1; omega)).trans (hb4.block w3.heap.size (by omega))))
          have HLV : Hid ((vs ++ [Value.slice lp (fct n) lc]).length = k + 1) := by show _ = _; rw [List.length_append, hlv.out]; rfl
          clear HL4 hb4 hk4 y0 y1 y2 y3 f0 f3 hown4 hgrow hrow1 hT1 HT1 HLU
          generalize w4.setCell ⟨w3.heap.size + 1, 0, none⟩ (.slice vp (k + 1) vc) = w5 at *
          refine hK.out _ _ trivial (fun _ => ?_)
          clear hK
          refine wpAnyH_done (by kernel_rfl) ?_ _
          go_wp2
          go_roundw
          case rel => exact ⟨k + 1, _, _, _, by omega, by go_num, HLV, HL5, HS5, HI5, HB5.out⟩
          case measure => simp [intOf]; omega
    · obtain rfl : k = L.length := by omega
      have hTk : ∀ j, j < L.length → ((List.range L.length).map (fun i => ledl n (L.getD i []))).getD j [] = ledl n (L.getD j []) := fun j hj => by simp [List.getD, hj]
      have hU : Und (nxc n L) L.length (fct n) wr.heap.size (w3.heap.size + 1) w3.heap.size (.slice tp L.length tc) (.slice up ul uc) ((List.range L.length).map (fun i => ledl n (L.getD i []))) (unl L L.length) wr := by
        refine ⟨hsbl, by omega, by omega, unl_tried L _ (fun i j _ _ e a => by unfold nxc; rw [e]), by omega, by simp, by omega, fun j a hj ha => ?_, fun W hF => ⟨?_, ?_⟩⟩
        · rw [hTk j hj]
          refine ⟨by rw [ledl_len]; exact ha, ?_, nxc_lt HR.out a hj⟩
          simp [ledl, nxc, List.getD, ha]
        · exact (HT.out.frm (fun b hb1 hb2 => hF.block b hb2 (by omega) (by omega))).ints
        · refine Ints.own (base := w2.heap.size) (e := 3) (n := ul) ?_
          refine owns_block (owns_below HUO.out hbw (Nat.le_refl _)) (fun g hg => ?_)
          have h9 := (HUO.out.lt g hg).2
          exact hF.block g (by omega) (by omega) (by omega)
      have hWk : Wk wr wr.heap.size (w3.heap.size + 1) w3.heap.size (.slice tp L.length tc) (.slice up ul uc) (.slice none 0 0) [0] [] := ⟨hblk.out, hset.out, World.ownsRow_nil _ _ _ _⟩
      have HFROM := hide (from_ok hU (fct n - 1) [0] 0 [] _ wr (by simp; omega) (by intro x hx; simp at hx; omega) (by simp) (by omega) rfl (Frm.refl _ _ _ _) (Nat.le_refl _) hWk)
      have hB3 := HB3.out.trans (hbw.mono HB3.out.size)
      have hs3 := HB3.out.size
      clear hU hWk HT hTk
      go_wp2_with fail
      refine HFROM.out.mono ?_
      rintro e w9 ⟨hF9, (⟨q, wv9, rfl, hg, hmin, hs9, ho9⟩ | ⟨wv9, rfl, hno, _⟩)⟩
      · rw [List.length_nil, Nat.zero_add, List.nil_append] at ho9
        obtain ⟨z0, z1, z2, z3, f0', f3'⟩ := cells4 hs9
        have HB9 : Hid (Below w.heap.size w w9) := hB3.trans (hF9.below (by omega) (by omega) (by omega))
        have HI9 : Hid (Ints w9 wv9 (nI q)) := Ints.own ho9
        have HG := hide hg
        have HMin := hide hmin
        obtain ⟨wp, wc, rfl⟩ := owns_slice ho9
        clear hs9 ho9 hg hmin hF9 HFROM hbw hB3 z0 z1 z2 f0' f3'
        go_wp2
        go_ret3
        exact ⟨HB9.out, Or.inl ⟨q, _, rfl, HI9.out, HG.out, HMin.out⟩⟩
      · have HB9 : Hid (Below w.heap.size w w9) := hB3.trans (hF9.below (by omega) (by omega) (by omega))
        have HNo := hide hno
        clear hno hF9 HFROM hbw hB3
        go_wp2
        go_ret3
        exact ⟨HB9.out, Or.inr ⟨rfl, HNo.out⟩⟩

end Go.Proofs.Ythbhoohdniamaaa

/- Contract: campaniletop.rings. -/
namespace Go.Proofs.Ythbhoohdniamaaa
open Go.RowKit

/-- Are all numbers on a way unlike, and is the last one 0? -/
def rngb (nx : Nat → Nat → Nat) : List Nat → Nat → List Nat → Bool
  | _, a, [] => decide (a = 0)
  | seen, a, k :: t => decide (¬ a ∈ seen) && rngb nx (a :: seen) (nx k a) t

theorem rngb_good {nx : Nat → Nat → Nat} {K N : Nat} : ∀ (q seen : List Nat) (a : Nat), q ≠ [] → (∀ k, k ∈ q → k < K) → a ∉ seen → ((rngb nx seen a q = true ∧ seen.length + q.length = N) ↔ Good nx K N (a :: seen) a q)
  | [], _, _, h, _, _ => absurd rfl h
  | [k], seen, a, _, hk, ha => by
    have hkK : k < K := hk k (by simp)
    unfold Good
    constructor
    · rintro ⟨h1, h2⟩
      refine ⟨hkK, Or.inl ⟨rfl, ?_, by simpa using h2⟩⟩
      have h3 := (Bool.and_eq_true _ _ ▸ h1 : _ ∧ _).2
      exact of_decide_eq_true h3
    · rintro ⟨_, (⟨_, h3, h4⟩ | ⟨_, h3⟩)⟩
      · refine ⟨?_, by simpa using h4⟩
        show (decide (¬ a ∈ seen) && decide (nx k a = 0)) = true
        simp [ha, h3]
      · exact absurd h3 (by unfold Good; exact fun h => h)
  | k :: k' :: t, seen, a, _, hk, ha => by
    have hkK : k < K := hk k (by simp)
    have ih := fun (hn : nx k a ∉ a :: seen) => rngb_good (nx := nx) (K := K) (N := N) (k' :: t) (a :: seen) (nx k a) (by simp) (fun x hx => hk x (List.mem_cons_of_mem _ hx)) hn
    have hlen : seen.length + (k :: k' :: t).length = (a :: seen).length + (k' :: t).length := by simp; omega
    rw [hlen]
    unfold Good
    constructor
    · rintro ⟨h1, h2⟩
      have h3 : rngb nx (a :: seen) (nx k a) (k' :: t) = true := (Bool.and_eq_true _ _ ▸ h1 : _ ∧ _).2
      have h4 : nx k a ∉ a :: seen := of_decide_eq_true (Bool.and_eq_true _ _ ▸ h3 : _ ∧ _).1
      exact ⟨hkK, Or.inr ⟨h4, (ih h4).1 ⟨h3, h2⟩⟩⟩
    · rintro ⟨_, (⟨h3, _⟩ | ⟨h4, h3⟩)⟩
      · cases h3
      · obtain ⟨h5, h6⟩ := (ih h4).2 h3
        refine ⟨?_, h6⟩
        show (decide (¬ a ∈ seen) && rngb nx (a :: seen) (nx k a) (k' :: t)) = true
        rw [h5]
        simp [ha]

theorem rankR_sorted0 : ∀ l : List Int, l.Pairwise (· < ·) → rankR l = 0
  | [], _ => rfl
  | x :: xs, h => by
    obtain ⟨h1, h2⟩ := List.pairwise_cons.1 h
    show cnt x xs * fct xs.length + rankR xs = 0
    have hc : cnt x xs = 0 := by
      unfold cnt
      rw [List.length_eq_zero_iff, List.filter_eq_nil_iff]
      intro y hy
      have := h1 y hy
      simp; omega
    rw [hc, rankR_sorted0 xs h2, Nat.zero_mul]

/-- What the map holds. -/
def memF (seen : List Nat) : Int → Option Value := fun x => if ∃ s, s ∈ seen ∧ x = ((s : Nat) : Int) then some (.bool true) else none

theorem memF_yes {seen : List Nat} {a : Nat} (h : a ∈ seen) : memF seen (a : Int) = some (.bool true) := by unfold memF; rw [if_pos ⟨a, h, rfl⟩]

theorem memF_no {seen : List Nat} {a : Nat} (h : a ∉ seen) : memF seen (a : Int) = none := by
  unfold memF; rw [if_neg]
  rintro ⟨s, hs, e⟩
  have : a = s := by omega
  exact h (this ▸ hs)

theorem memF_put (seen : List Nat) (a : Nat) (x : Int) : upd (memF seen) (a : Int) (.bool true) x = memF (a :: seen) x := by
  unfold upd memF
  by_cases h : x = (a : Int)
  · rw [if_pos h, if_pos ⟨a, by simp, h⟩]
  · rw [if_neg h]
    by_cases h2 : ∃ s, s ∈ seen ∧ x = ((s : Nat) : Int)
    · obtain ⟨s, h3, h4⟩ := h2
      rw [if_pos ⟨s, h3, h4⟩, if_pos ⟨s, List.mem_cons_of_mem _ h3, h4⟩]
    · rw [if_neg h2, if_neg]
      rintro ⟨s, h3, h4⟩
      rcases List.mem_cons.1 h3 with h5 | h5
      · exact h (by rw [h4, h5])
      · exact h2 ⟨s, h5, h4⟩

theorem Ints.map_kept {w w' : World} {v : Value} {xs : List Int} {mb n : Nat} {f : Int → Option Value} (h : Ints w v xs) (hm : IMap w mb n f) (hg : w.grownBy w' (some mb)) : Ints w' v xs := by
  rcases h with h | ⟨b, off, cap, h1, h2, h3, h4, h5, h6⟩
  · exact Or.inl h
  · have hne : b ≠ mb := by
      intro e
      obtain ⟨es, c, hc⟩ := hm.obj
      have h7 := h6 0 h2
      rw [e] at h7
      simp [World.cell?, hc] at h7
    refine Or.inr ⟨b, off, cap, h1, h2, h3, h4, Nat.lt_of_lt_of_le h5 hg.size, fun j hj => ?_⟩
    rw [World.cell?_of_block (w := w) (hg.block b h5 (by simpa using hne))]
    exact h6 j hj

theorem drop_nat (q : List Nat) {k : Nat} (h : k < q.length) : q.drop k = q.getD k 0 :: q.drop (k + 1) := by
  rw [List.drop_eq_getElem_cons h]; simp [List.getD, h]

set_option maxRecDepth 20000 in
set_option maxHeartbeats 4000000 in
theorem rings_ok (n : Nat) (v pv : Value) (L : List (List Int)) (q : List Nat) (w : World) (h1 : 1 ≤ n) (h4 : n ≤ 4) (hX : IntsAll w v L) (hr : RowsN n L) (hp : Ints w pv (nI q)) (hk : ∀ k, k ∈ q → k < L.length) (hql : q.length ≤ 1000) (hLl : L.length ≤ 1000) :
    Calls Try.prog 20 #[.int .i64 n, v, pv] w fun e w' => e = .returned (.bool (rngb (nxc n L) [] 0 q && decide (q.length = fct n))) ∧ Below w.heap.size w w' := by
  have hmm := @run_makeMap Try.prog
  have hf := fct_24 h4
  have hfp := fct_pos n
  obtain ⟨p0, c0, rfl⟩ := hX.len
  obtain ⟨p1, c1, hpe⟩ := hp.form
  rw [nI_len] at hpe
  subst hpe
  have HX := hide hX
  have HR := hide hr
  have HP := hide hp
  have HK := hide hk
  clear hX hr hp hk
  go_enter Try.func20, Try.ntmps20
  go_wp2_with fail
  refine (rrounds_ok n w (by omega)).mono ?_
  rintro e w1 ⟨r0, rfl, hr0, hb1⟩
  have HR0 : Hid (Ints w1 r0 (rowAt n 0)) := by
    have : rowAt n 0 = rnd n := by
      have h9 : rkk (rnd n) = 0 := by unfold rkk; rw [rkTo_all]; exact rankR_sorted0 _ (rnd_sorted n)
      rw [← h9]; exact rowAt_rkk (isRow_rnd n) (rnd_length n)
    show Ints _ _ _
    rw [this]; exact Ints.own hr0
  have HM0 := hide ((IMap.made w1).congr (f' := memF []) (fun a => by unfold memF; rw [if_neg]; rintro ⟨s, hs, _⟩; cases hs))
  have hbA : Below w.heap.size w (w1.alloc (.map #[] 0)) := hb1.alloc hb1.size _
  have HRA := hide (HR0.out.below ((Below.refl _ _).alloc (Nat.le_refl _) (.map #[] 0)))
  have hmlow := hb1.size
  generalize hmb : w1.heap.size = mb at *
  obtain ⟨rp, rc, rfl⟩ := owns_slice hr0
  clear hr0 HR0 hb1
  go_wp2
  generalize w1.alloc (.map #[] 0) = wa at *
  go_loopw [7, 9] (fun rv i wr => ∃ (j a : Nat) (seen : List Nat), j ≤ q.length ∧ i = .int .i64 j ∧ a < fct n ∧ Hid (seen.length = j) ∧ Hid (Ints wr rv (rowAt n a)) ∧ Hid (IMap wr mb j (memF seen)) ∧ Hid (rngb (nxc n L) [] 0 q = rngb (nxc n L) seen a (q.drop j)) ∧ Below w.heap.size w wr) (fun _ i _ => q.length - (intOf i).toNat)
  case atStart => exact ⟨0, 0, [], by omega, rfl, hfp, rfl, HRA, HM0, rfl, hbA⟩
  case round =>
    clear HRA HM0 hbA
    obtain ⟨j, a, seen, hj, rfl, ha, hsl, hRi, hM, hrg, hbw⟩ := hrel
    have hbs := hbw.size
    obtain ⟨rp, rc, hre⟩ := hRi.out.form
    rw [rowAt_length ha] at hre
    subst hre
    have HRK := hide (fun W (hW : Below wr.heap.size wr W) => rrank_ok _ (rowAt n a) W (hRi.out.below hW) (rowAt_row ha) (by rw [rowAt_length ha]; omega) (by rw [rowAt_length ha]; omega))
    rw [show rkTo (rowAt n a) (rowAt n a).length = a from rank_rowAt ha] at HRK
    by_cases hlt : j < q.length
    · have hkm : q.getD j 0 ∈ q := by rw [show q.getD j 0 = q[j] from by simp [List.getD, hlt]]; exact List.getElem_mem hlt
      have hkL := HK.out _ hkm
      have hmem : L.getD (q.getD j 0) [] ∈ L := by rw [List.getD, List.getElem?_eq_getElem hkL]; exact List.getElem_mem hkL
      obtain ⟨lr1, lr2⟩ := HR.out _ hmem
      have hnl : nxc n L (q.getD j 0) a < fct n := nxc_lt HR.out a hkL
      have hby : by_ (rowAt n a) (L.getD (q.getD j 0) []) = rowAt n (nxc n L (q.getD j 0) a) := (rowAt_rkk (isRow_by (rowAt_row ha) lr1 (by rw [lr2, rowAt_length ha])) (by rw [by_length]; exact lr2)).symm
      have HRG : Hid (rngb (nxc n L) [] 0 q = (decide (¬ a ∈ seen) && rngb (nxc n L) (a :: seen) (nxc n L (q.getD j 0) a) (q.drop (j + 1)))) := by
        show _ = _
        rw [hrg.out, drop_nat q hlt]; rfl
      have HCP := hide (fun W (hW : Below w.heap.size w W) => (HP.out.below hW))
      have HCL := hide (fun W (hW : Below w.heap.size w W) => (HX.out.below hW).cell (by omega))
      have HBY := hide hby
      have HLR1 := hide lr1
      have HLR2 := hide lr2
      have HNL := hide hnl
      have hgd := nI_get q hlt
      generalize hkk : q.getD j 0 = k at *
      have h0k : ¬ ((k : Int) < 0) := by omega
      have hkl2 : ¬ (((L.length : Nat) : Int) ≤ (k : Int)) := by omega
      rcases HCP.out wr hbw with ⟨hq0, _⟩ | ⟨qb, qo, qc, hqe, hq1, hq2, hq3, hq4, hqcell⟩
      · have h9 : q.length = 0 := by rw [← nI_len q, hq0]; rfl
        omega
      rw [nI_len] at hqe hq1 hq2 hqcell
      simp only [Value.slice.injEq] at hqe
      obtain ⟨rfl, _, rfl⟩ := hqe
      have hqc := hqcell j hlt
      rw [hgd] at hqc
      have HQC := hide hqc
      clear hkm hmem lr1 lr2 hby hnl hqcell hkk hrg
      by_cases hs : a ∈ seen
      · have HE : Hid ((rngb (nxc n L) [] 0 q && decide (q.length = fct n)) = false) := by show _ = _; rw [HRG.out]; simp [hs]
        clear HRG
        go_wp2_with fail
        refine (HRK.out wr (Below.refl _ _)).mono ?_
        rintro e w2 ⟨rfl, hb2⟩
        have hM2 := hM.out.below hb2 hM.out.lt
        have hlk := hM2.look (t := 87) (e := 4) Try.underlying87 (Try.zero4 w2) (a := (a : Int)) (by omega) (by omega)
        rw [memF_yes hs, Option.getD_some] at hlk
        have hB2 := hbw.trans (hb2.mono hbs)
        clear hM2 hb2 hs hM hRi HRK hqc
        go_wp2
        go_ret
        exact ⟨ret_bool HE.out.symm, hB2⟩
      · have HE : Hid (rngb (nxc n L) [] 0 q = rngb (nxc n L) (a :: seen) (nxc n L k a) (q.drop (j + 1))) := by show _ = _; rw [HRG.out]; simp [hs]
        clear HRG
        go_wp2_with fail
        refine (HRK.out wr (Below.refl _ _)).mono ?_
        rintro e w2 ⟨rfl, hb2⟩
        have hM2 := hM.out.below hb2 hM.out.lt
        have hlk := hM2.look (t := 87) (e := 4) Try.underlying87 (Try.zero4 w2) (a := (a : Int)) (by omega) (by omega)
        rw [memF_no hs, Option.getD_none] at hlk
        have HS := hide hs
        clear hM2 hs hqc
        go_wp2_with fail
        refine (HRK.out w2 hb2).mono ?_
        rintro e w3 ⟨rfl, hb3⟩
        have hb23 : Below wr.heap.size wr w3 := hb2.trans (hb3.mono hb2.size)
        have HM3 := hide (hM.out.below hb23 hM.out.lt)
        have HR3 := hide (hRi.out.below hb23)
        have hB3 := hbw.trans (hb23.mono hbs)
        have hjm : j < maxLen := by unfold maxLen; omega
        clear hb2 hb3 hb23 hM hRi HRK hlk hbw
        go_wp2_with (at_mapUpdate; refine wpList_put rfl _ _ _ 87 rfl 4 Try.underlying87 HM3.out hjm (a : Int) (.bool true) rfl rfl rfl (by omega) (by omega) ?_)
        intro w5 hM5 hg5
        have HM5 := hide (hM5.congr (fun x => memF_put seen a x))
        have HR5 := hide (HR3.out.map_kept HM3.out hg5)
        have hB5 : Below w.heap.size w w5 := hB3.grown hg5 hB3.size (fun b hb => by injection hb with hb; omega)
        obtain ⟨tb, toff, tc, hte, ht1, ht2, ht3, htcell⟩ := HCL.out w5 hB5
        simp only [Value.slice.injEq] at hte
        obtain ⟨rfl, _, rfl⟩ := hte
        obtain ⟨lp, lc, htc, hti⟩ := htcell k hkL
        have hqc : w5.cell? ⟨qb, qo + j, none⟩ = some (.int .i64 (k : Int)) := by
          rcases HCP.out w5 hB5 with ⟨hq0, _⟩ | ⟨qb', qo', qc', hqe, hq1', hq2', hq3', hq4', hqcell⟩
          · have h9 : q.length = 0 := by rw [← nI_len q, hq0]; rfl
            omega
          rw [nI_len] at hqe hqcell
          simp only [Value.slice.injEq, Option.some.injEq, Addr.mk.injEq] at hqe
          obtain ⟨⟨rfl, rfl, _⟩, _, rfl⟩ := hqe
          have := hqcell j hlt
          rw [hgd] at this
          exact this
        have HBYC := hide (rby_own _ _ (rowAt n a) (L.getD k []) w5 HR5.out hti.out (fun j' hj' => by
          have := HLR1.out.at hj'
          rw [rowAt_length ha, ← HLR2.out]
          exact this) (by rw [rowAt_length ha]; omega) (by rw [HLR2.out]; omega))
        rw [HBY.out] at HBYC
        have hl2 := HLR2.out
        clear htcell hti hM5 hg5 HM3 HR3 hB3 HR5
        rw [hl2] at htc HBYC
        clear hl2
        go_wp2_with fail
        refine HBYC.out.mono ?_
        rintro e w6 ⟨nv, rfl, hnv, hb6⟩
        have HM6 := hide (HM5.out.below hb6 HM5.out.lt)
        have HR6 := hide (Ints.own hnv)
        have hB6 := hB5.trans (hb6.mono hB5.size)
        obtain ⟨np, nc, rfl⟩ := owns_slice hnv
        have HSL : Hid ((a :: seen).length = j + 1) := by show _ = _; rw [List.length_cons, hsl.out]
        clear hnv hb6 hB5 HM5 HBYC
        go_wp2
        go_roundw
        case rel => exact ⟨j + 1, nxc n L k a, a :: seen, by omega, by go_num, HNL.out, HSL, HR6, HM6, HE, hB6⟩
        case measure => simp [intOf]; omega
    · obtain rfl : j = q.length := by omega
      have HE : Hid (rngb (nxc n L) [] 0 q = decide (a = 0)) := by show _ = _; rw [hrg.out, List.drop_length]; rfl
      clear hrg
      go_wp2_with fail
      refine (factorial_any n wr (by omega)).mono ?_
      rintro e w2 ⟨rfl, rfl⟩
      by_cases hN : q.length = fct n
      · have e1 : (((q.length : Nat) : Int) == ((fct n : Nat) : Int)) = true := by rw [hN]; simp
        have HE2 : Hid ((rngb (nxc n L) [] 0 q && decide (q.length = fct n)) = ((a : Int) == 0)) := by
          show _ = _
          rw [HE.out, decide_eq_true hN, Bool.and_true]
          rcases Nat.eq_zero_or_pos a with h | h
          · rw [h]; rfl
          · rw [decide_eq_false (by omega)]; symm; rw [beq_eq_false_iff_ne]; omega
        clear HE hN
        go_wp2_with fail
        refine (HRK.out wr (Below.refl _ _)).mono ?_
        rintro e w2 ⟨rfl, hb2⟩
        have hB2 := hbw.trans (hb2.mono hbs)
        clear hb2 HRK hM hRi
        go_wp2
        go_ret
        exact ⟨ret_bool HE2.out.symm, hB2⟩
      · have e1 : (((q.length : Nat) : Int) == ((fct n : Nat) : Int)) = false := by rw [beq_eq_false_iff_ne]; omega
        have HE2 : Hid ((rngb (nxc n L) [] 0 q && decide (q.length = fct n)) = false) := by show _ = _; rw [decide_eq_false hN, Bool.and_false]
        clear HE hN HRK hM hRi
        go_wp2
        go_ret
        exact ⟨ret_bool HE2.out.symm, hbw⟩

end Go.Proofs.Ythbhoohdniamaaa

/- Contracts: place.Row, ChangeOf. -/
namespace Go.Proofs.Ythbhoohdniamaaa
open Go.RowKit

/-- A row that is changed up to a tile. -/
def Upto (n : Nat) (s : List Bool) (zs : List Int) : Prop := zs.length = n ∧ ∀ j, j < n → zs.getD j 0 = if j < tsz s then (trow s).getD j 0 else (j : Int)

theorem upto_start (n : Nat) : Upto n [] (rnd n) := ⟨rnd_length n, fun j hj => by rw [rnd_get hj, if_neg (by simp [tsz])]⟩

theorem upto_end {n : Nat} {t : List Bool} {zs : List Int} (h : Upto n t zs) (ht : tsz t = n) : zs = trow t :=
  ext_getD (by rw [h.1, trow_length, ht]) (fun j hj => by rw [h.2 j (by rw [← h.1]; exact hj), if_pos (by rw [ht, ← h.1]; exact hj)])

theorem trow_get_old {b : Bool} {s : List Bool} {j : Nat} (h : j < tsz s) : (trow (b :: s)).getD j 0 = (trow s).getD j 0 := by
  have hl : j < (trow s).length := by rw [trow_length]; exact h
  cases b <;> simp only [trow, List.getD] <;> rw [List.getElem?_append_left hl]

theorem trow_get_one (s : List Bool) : (trow (true :: s)).getD (tsz s) 0 = (tsz s : Nat) := by
  simp only [trow, List.getD]; rw [List.getElem?_append_right (by rw [trow_length]; omega), trow_length, Nat.sub_self]; rfl

theorem trow_get_fst (s : List Bool) : (trow (false :: s)).getD (tsz s) 0 = ((tsz s + 1 : Nat) : Int) := by
  simp only [trow, List.getD]; rw [List.getElem?_append_right (by rw [trow_length]; omega), trow_length, Nat.sub_self]; rfl

theorem trow_get_snd (s : List Bool) : (trow (false :: s)).getD (tsz s + 1) 0 = (tsz s : Nat) := by
  simp only [trow, List.getD]; rw [List.getElem?_append_right (by rw [trow_length]; omega), trow_length, show tsz s + 1 - tsz s = 1 from by omega]; rfl

theorem upto_one {n : Nat} {s : List Bool} {zs : List Int} (h : Upto n s zs) : Upto n (true :: s) zs := by
  have e : tsz (true :: s) = tsz s + 1 := rfl
  refine ⟨h.1, fun j hj => ?_⟩
  rw [h.2 j hj]
  by_cases h1 : j < tsz s
  · rw [if_pos h1, if_pos (by omega), trow_get_old h1]
  · by_cases h2 : j = tsz s
    · subst h2; rw [if_neg h1, if_pos (by omega), trow_get_one]
    · rw [if_neg h1, if_neg (by omega)]

theorem upto_two {n : Nat} {s : List Bool} {zs : List Int} (h : Upto n s zs) (hn : tsz s + 2 ≤ n) : Upto n (false :: s) ((zs.set (tsz s) ((tsz s + 1 : Nat) : Int)).set (tsz s + 1) (tsz s : Nat)) := by
  have e : tsz (false :: s) = tsz s + 2 := rfl
  refine ⟨by simp [h.1], fun j hj => ?_⟩
  rw [getD_set (by simp [h.1]; omega), getD_set (by rw [h.1]; omega), h.2 j hj]
  by_cases h1 : tsz s + 1 = j
  · subst h1; rw [if_pos rfl, if_pos (by omega), trow_get_snd]
  · rw [if_neg h1]
    by_cases h2 : tsz s = j
    · subst h2; rw [if_pos rfl, if_pos (by omega), trow_get_fst]
    · rw [if_neg h2]
      by_cases h3 : j < tsz s
      · rw [if_pos h3, if_pos (by omega), trow_get_old h3]
      · rw [if_neg h3, if_neg (by omega)]

theorem upto_at {n : Nat} {s : List Bool} {zs : List Int} (h : Upto n s zs) {j : Nat} (hj : j < n) (hs : tsz s ≤ j) : zs[j]?.getD 0 = (j : Int) := by
  have := h.2 j hj
  rw [if_neg (by omega)] at this
  exact this

set_option maxHeartbeats 4000000 in
theorem prow_ok (t : List Bool) (n : Nat) (v : Value) (w : World) (hn : tsz t = n) (h1 : 1 ≤ n) (h2 : n ≤ 12) (i1 : Ints w v (tpl t)) :
    Calls Try.prog 68 #[.int .i64 n, v] w fun e w' => ∃ v', e = .returned (.tuple #[v', .int .i64 0]) ∧ w'.ownsRow w.heap.size 3 1 v' n ((trow t).map (Value.int .i64)) ∧ Below w.heap.size w w' := by
  have HC := hide (pcheck_any n v (tpl t) w (by omega) (by omega) i1)
  rw [pck_til hn] at HC
  have HI := hide i1
  have HT := hide hn
  clear i1 hn
  go_enter Try.func68, Try.ntmps68
  go_wp2_with fail
  refine HC.out.mono ?_
  rintro e w' ⟨rfl, rfl⟩
  clear HC
  go_wp2_with fail
  refine (rounds_ok n w h1 h2).mono ?_
  rintro e w0 ⟨v', rfl, hown0, hb0⟩
  obtain ⟨g, cap, rfl, hg1, hg2, hcap, hcap2⟩ := owns_form hown0 h1
  go_wp2
  go_loopw [9] (fun i wr => ∃ (u s : List Bool) (zs : List Int), Hid (t = u ++ s) ∧ Hid (Upto n s zs) ∧ tsz s ≤ n ∧ i = .int .i64 (tsz s : Nat) ∧ wr.ownsRow w.heap.size 3 1 (.slice (some ⟨g, 0, none⟩) n cap) n (zs.map (Value.int .i64)) ∧ Below w.heap.size w wr) (fun i _ => n - (intOf i).toNat)
  case atStart => exact ⟨t, [], rnd n, by show _ = _; simp, upto_start n, Nat.zero_le _, rfl, hown0, hb0⟩
  case round =>
    obtain ⟨u, s, zs, hus, hup, hsn, rfl, hown, hbw⟩ := hrel
    clear hown0 hb0
    by_cases hlt : tsz s < n
    · obtain ⟨u', b, hu, hus'⟩ := til_next (u := u) (s := s) (by rw [← hus.out, HT.out]; exact hlt)
      have HU : Hid (t = u' ++ b :: s) := by show _ = _; rw [hus.out, hus']
      have HCo := hide (contains_any v (tpl t) ((tsz s : Nat) + 1) wr (HI.out.below hbw))
      have hm := mem_next u' s b
      rw [← HU.out] at hm
      have hsz : tsz (b :: s) ≤ n := by have := tsz_mono (b :: s) u'; rw [← HU.out, HT.out] at this; exact this
      clear hu hus' hus
      cases b with
      | true =>
        rw [decide_eq_true (hm.2 rfl)] at HCo
        have HZ := hide (upto_one hup.out)
        clear hm hup
        simp only [tsz] at hsz
        go_wp2_with fail
        refine HCo.out.mono ?_
        rintro e w' ⟨rfl, rfl⟩
        go_wp2
        go_roundw
        case rel => exact ⟨u', true :: s, zs, HU, HZ, hsz, by simp only [tsz]; go_num, hown, hbw⟩
        case measure => simp [intOf]; omega
      | false =>
        rw [decide_eq_false (by rw [hm]; decide)] at HCo
        simp only [tsz] at hsz
        have HZ := hide (upto_two hup.out hsz)
        have hl1 : tsz s < n := by omega
        have hl2 : tsz s + 1 < n := by omega
        obtain ⟨y, hy, hcx, hfx⟩ := owns_cellAt hown hl1
        obtain ⟨z, hz, hcz, hfz⟩ := owns_cellAt hown hl2
        have hyv : y = ((tsz s : Nat) : Int) := by rw [← hy.out]; exact upto_at hup.out hl1 (Nat.le_refl _)
        have hzv : z = ((tsz s + 1 : Nat) : Int) := by rw [← hz.out]; exact upto_at hup.out hl2 (by omega)
        clear hm hup hy hz
        have hown1 := owns_set_int (m := tsz s) hown z
        have hown2 := owns_set_int (m := tsz s + 1) hown1 y
        rw [hzv, hyv] at hown2
        have HOW := hide hown2
        generalize hS : tsz s = S' at *
        subst hyv hzv
        clear hown1 hown2
        go_wp2_with fail
        refine HCo.out.mono ?_
        rintro e w' ⟨rfl, rfl⟩
        go_wp2
        go_region
        all_goals
          go_wp2
          go_roundw
          case rel => exact ⟨u', false :: s, _, HU, HZ, by simp only [tsz]; omega, by simp only [tsz]; go_num, HOW.out, ((hbw.setCell (p := ⟨g, S', none⟩) hg1 _).setCell (p := ⟨g, S' + 1, none⟩) hg1 _).drew⟩
          case measure => simp [intOf]; omega
    · have hs : tsz s = n := by omega
      have hu : u = [] := til_whole (by rw [← hus.out, HT.out, hs]; exact Nat.le_refl _)
      have hts : t = s := by rw [hus.out, hu, List.nil_append]
      have hzt : zs = trow t := by rw [hts]; exact upto_end hup.out hs
      have HOW := hide hown
      rw [hzt] at HOW
      clear hown hup hus hzt hts hu
      go_wp2
      go_ret2
      exact ⟨_, rfl, HOW.out, hbw⟩

end Go.Proofs.Ythbhoohdniamaaa

/- Contract: the answer's ChangeMay. -/
namespace Go.Proofs.Ythbhoohdniamaaa
open Go.RowKit

end Go.Proofs.Ythbhoohdniamaaa
