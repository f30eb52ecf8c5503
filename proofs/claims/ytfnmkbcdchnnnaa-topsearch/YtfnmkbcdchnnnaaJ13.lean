/- Joined: SaQ, SrtA, XtD, XtQ. -/
import Derived.Test.YtfnmkbcdchnnnaaJ12
import Derived.Test.YtfnmkbcdchnnnaaJ8
import Derived.Test.YtfnmkbcdchnnnaaJ6
import Derived.BigQuiet
import Derived.Test.YtfnmkbcdchnnnaaJ3
/- A search by the calls that were made; what it finds, held against Prove; plain hunt on four. -/
namespace Go.Proofs.Ytfnmkbcdchnnnaa
open Go.RowKit
set_option maxRecDepth 20000
set_option linter.unusedVariables false

/-- The rows of the lead by one call. -/
def tsB (n : Nat) (ts : List (List Bool)) (SS : List (List (List Bool))) (c : Nat) : List (List Int) := leadTo n (calledBy ts (SS.getD c [])) ts.length

theorem byG_gOf {n C : Nat} {ts : List (List Bool)} {SS : List (List (List Bool))} (hl1 : 1 ≤ ts.length) (hS : ∀ c, c < C → (SS.getD c []).length ≤ 1) : byG (tsB n ts SS) ts.length C = gOf n ts SS C := by
  unfold byG gOf
  refine List.map_congr_left (fun c hc => ?_)
  have hc' : c < C := List.mem_range.1 hc
  have hAl : (calledBy ts (SS.getD c [])).length = ts.length := calledBy_length (Nat.le_trans (hS c hc') hl1)
  unfold tsB
  have e : (calledBy ts (SS.getD c [])).take ts.length = calledBy ts (SS.getD c []) := List.take_of_length_le (by omega)
  rw [leadTo_get (Nat.le_refl _), e]

theorem allOf_one (ts : List (List Bool)) (SS : List (List (List Bool))) (c : Nat) : allOf ts SS [(c : Int)] = calledBy ts (SS.getD c []) := by simp [allOf]

theorem bnd_le {N l : Nat} (hN : N ≤ 3) (hl : l ≤ 6) : bnd N l ≤ 20000 := by
  have : ∀ (a : Fin 4) (b : Fin 7), bnd a.1 b.1 ≤ 20000 := by decide +kernel
  exact this ⟨N, by omega⟩ ⟨l, by omega⟩

/-- Touches, by calls of at most one change. -/
theorem touches_by (s : ByteArray) (n : Nat) (vp : Option Addr) (vc : Nat) (ts : List (List Bool)) (cv : Value) (cs : List (Int × List (List Int))) (SS : List (List (List Bool))) (leads many : Nat) (w : World) (hs : s.size ≤ 9223372036854775807) (hn : nm s = true) (h1 : 2 ≤ n) (h2 : n ≤ 12) (hl1 : 1 ≤ ts.length) (hl2 : ts.length ≤ 200)
    (hts : ∀ t, t ∈ ts → tsz t = n) (hv : IntsAll w (.slice vp ts.length vc) (ts.map tpl)) (hcv : CallsAt w cv cs) (hco : CallsOk n ts.length cs) (hc1 : 1 ≤ cs.length) (hc2 : cs.length ≤ 3)
    (hSS : ∀ c, c < cs.length → (cs.getD c (0, [])).2 = (SS.getD c []).map tpl ∧ (∀ t, t ∈ SS.getD c [] → tsz t = n) ∧ (SS.getD c []).length ≤ 1) (hm1 : 1 ≤ leads) (hm2 : leads ≤ 6) (hy1 : 1 ≤ many) (hy2 : many ≤ 50) :
    Calls Try.prog 18 #[meth s n (.slice vp ts.length vc), cv, .int .i64 leads, .int .i64 many] w (TouchPost ((sols (gOf n ts SS cs.length) leads [] 1).take many) w) := by
  obtain ⟨cb, co, cc, hce, hcr⟩ := hcv
  have hcv : CallsAt w cv cs := ⟨cb, co, cc, hce, hcr⟩
  subst hce
  have hA : ∀ c, c < cs.length → (calledBy ts (SS.getD c [])).length = ts.length ∧ ∀ t, t ∈ calledBy ts (SS.getD c []) → tsz t = n := fun c hc => ⟨calledBy_length (Nat.le_trans (hSS c hc).2.2 hl1), calledBy_mem hts (hSS c hc).2.1⟩
  have := touches_ok s n vp ts.length vc (some ⟨cb, co, none⟩) cs.length cc leads many (tsB n ts SS) w (by omega) h2 hl1 (by omega) hc1 (by omega) hm1 (by omega) hy1 hy2 (bnd_le hc2 hm2)
    (fun c hc => ⟨leadTo_length _ _ _, leadTo_rows (hA c hc).2⟩)
    (fun W hW => by
      have h9 := ccheck_ok s n vp vc (ts.map tpl) (.slice (some ⟨cb, co, none⟩) cs.length cc) cs W hs hn h1 h2 (by rw [List.length_map]; exact hl1) (by rw [List.length_map]; exact hl2) (by rw [List.length_map]; exact hv.below hW) (tile_one hts) (hcv.below hW) (by rw [List.length_map]; exact hco) hc1 (by omega)
      rw [List.length_map] at h9
      exact h9)
    (fun c hc W lv hW hI => by
      have h9 := crows_ok s n vp vc ts (.slice (some ⟨cb, co, none⟩) cs.length cc) cs SS lv [(c : Int)] W hs hn h1 h2 hl1 hl2 hts (hv.below hW) (hcv.below hW) hco hc1 (by omega) (fun c hc => ⟨(hSS c hc).1, (hSS c hc).2.1, Nat.le_trans (hSS c hc).2.2 hl1⟩) hI (by simp) (by simp) (fun l hl => by simp at hl; omega) (by simp; omega)
      rw [allOf_one, List.length_singleton, Nat.one_mul] at h9
      exact h9)
  rw [fnd_top, byG_gOf hl1 (fun c hc => (hSS c hc).2.2)] at this
  exact this

/-- Prove, of a touch by calls. -/
theorem prove_by (s : ByteArray) (n : Nat) (vp : Option Addr) (vc : Nat) (ts : List (List Bool)) (cv : Value) (cs : List (Int × List (List Int))) (SS : List (List (List Bool))) (lv : Value) (t : List Nat) (w : World) (hs : s.size ≤ 9223372036854775807) (hn : nm s = true) (h1 : 2 ≤ n) (h2 : n ≤ 12) (hl1 : 1 ≤ ts.length) (hl2 : ts.length ≤ 8)
    (hts : ∀ t, t ∈ ts → tsz t = n) (hv : IntsAll w (.slice vp ts.length vc) (ts.map tpl)) (hcv : CallsAt w cv cs) (hco : CallsOk n ts.length cs) (hc1 : 1 ≤ cs.length) (hc2 : cs.length ≤ 3)
    (hSS : ∀ c, c < cs.length → (cs.getD c (0, [])).2 = (SS.getD c []).map tpl ∧ (∀ t, t ∈ SS.getD c [] → tsz t = n) ∧ (SS.getD c []).length ≤ 1) (hI : Ints w lv (nI t)) (ht1 : 1 ≤ t.length) (ht2 : t.length ≤ 6) (hin : ∀ c, c ∈ t → c < cs.length) :
    Calls Try.prog 24 #[meth s n (.slice vp ts.length vc), cv, lv] w fun e w' => ∃ (r q : Bool) (i j : Int), e = .returned (.tuple #[.agg #[.int .i64 ((t.length * ts.length : Nat) : Int), .bool r, .bool q, .int .i64 i, .int .i64 j], .int .i64 0]) ∧ ((q = true ∧ r = true) ↔ (tRows (gOf n ts SS cs.length) 1 t).Nodup ∧ tEnd (gOf n ts SS cs.length) 1 t = 1) ∧ Below w.heap.size w w' := by
  have hnl : (nI t).length = t.length := by simp [nI]
  have hLb : t.length * ts.length ≤ 6 * 8 := Nat.mul_le_mul ht2 hl2
  have hLa : 1 ≤ t.length * ts.length := Nat.mul_le_mul ht1 hl1
  obtain ⟨⟨e1, e2⟩, hFn⟩ := touch_pm (n := n) (C := cs.length) h2 hl1 hts (fun c hc => (hSS c hc).2) t hin
  have hR := fun W (hW : Below w.heap.size w W) => crows_ok s n vp vc ts cv cs SS lv (nI t) W hs hn h1 h2 hl1 (by omega) hts (hv.below hW) (hcv.below hW) hco hc1 (by omega) (fun c hc => ⟨(hSS c hc).1, (hSS c hc).2.1, Nat.le_trans (hSS c hc).2.2 hl1⟩) (hI.below hW) (by omega) (by omega) (fun l hl => by
    unfold nI at hl
    obtain ⟨c, hc, rfl⟩ := List.mem_map.1 hl
    have := hin c hc
    omega) (by rw [hnl]; omega)
  rw [hnl] at hR
  refine (prove_ok s n vp ts.length vc cv lv (t.length * ts.length) _ w (by omega) h2 (leadTo_length n (allOf ts SS (nI t)) (t.length * ts.length)) hLa (by omega) (leadTo_rows hFn) hR).mono ?_
  rintro e w' ⟨r, q, i, j, rfl, hq, hr, hb⟩
  refine ⟨r, q, i, j, rfl, ?_, hb⟩
  have hAll : ∀ x, x ∈ (leadTo n (allOf ts SS (nI t)) (t.length * ts.length)).take (t.length * ts.length) → isRow x ∧ x.length = n := fun x hx => by
    have := leadTo_rows hFn x (List.mem_of_mem_take hx)
    exact ⟨this.row, this.len⟩
  have hlenA : (allOf ts SS (nI t)).length = t.length * ts.length := by
    unfold allOf
    rw [flat_length (K := ts.length) _ (fun g hg => ?_), List.length_map, hnl]
    obtain ⟨l, hl, rfl⟩ := List.mem_map.1 hg
    unfold nI at hl
    obtain ⟨c, hc, rfl⟩ := List.mem_map.1 hl
    rw [Int.toNat_natCast]
    exact calledBy_length (Nat.le_trans (hSS c (hin c hc)).2.2 hl1)
  have h0 : (leadTo n (allOf ts SS (nI t)) (t.length * ts.length)).getD 0 [] = rnd n := by rw [leadTo_get (Nat.zero_le _)]; rfl
  have hL : (leadTo n (allOf ts SS (nI t)) (t.length * ts.length)).getD (t.length * ts.length) [] = prd n (allOf ts SS (nI t)) := by rw [leadTo_get (Nat.le_refl _), List.take_of_length_le (by omega)]
  have hpr := prd_row n (allOf ts SS (nI t)) hFn
  have hinj : prd n (allOf ts SS (nI t)) = rnd n ↔ tEnd (gOf n ts SS cs.length) 1 t = 1 := by
    rw [← e2]
    constructor
    · intro h; rw [h]; exact pad_rnd h2
    · intro h
      have h9 := (nodup_pad (n := n) h2 (L := [prd n (allOf ts SS (nI t)), rnd n]) (fun x hx => by
        rcases List.mem_cons.1 hx with rfl | hx
        · exact hpr
        · simp at hx; subst hx; exact ⟨isRow_rnd n, rnd_length n⟩))
      apply Classical.byContradiction
      intro hne
      have h8 := h9.2 (by simp [hne])
      rw [List.map_cons, List.map_cons, h, pad_rnd h2] at h8
      simp at h8
  rw [hq, hr, ← e1, ← rowsP_lead, nodup_pad h2 hAll, h0, hL, decide_eq_true_iff, hinj]

theorem callsOf_one (n : Nat) (w : World) :
    Calls Try.prog 20 #[.slice none 0 0, .int .i64 n, .int .i64 1] w fun e w' => ∃ (u : Value), e = .returned u ∧ w'.ownsRow w.heap.size 85 2 u 1 (ceCells [⟨112, .slice none 0 0, []⟩]) ∧ Cok n w' w.heap.size [⟨112, .slice none 0 0, []⟩] ∧ Below w.heap.size w w' := by
  have ho0 : (w.alloc (.cells #[.int .i32 112, .slice none 0 0] 85)).ownsRow w.heap.size 85 2 (.slice (some ⟨w.heap.size, 0, none⟩) 1 1) 1 (ceCells [⟨112, .slice none 0 0, []⟩]) := World.ownsRow_lit w #[.int .i32 112, .slice none 0 0] 1 (Nat.le_refl _) (by unfold maxLen; omega) rfl
  have hok : Cok n (w.alloc (.cells #[.int .i32 112, .slice none 0 0] 85)) w.heap.size [⟨112, .slice none 0 0, []⟩] := by
    refine ⟨fun e he => ?_, fun k hk => ?_, fun e he => ?_, fun e he => ?_⟩
    · simp at he; subst he; exact ⟨[], LL.nil _ _⟩
    · simp at hk; subst hk; rfl
    · simp at he; subst he; simp
    · simp at he; subst he; intro j hj; simp at hj
  have HO := hide ho0
  have HK := hide hok
  have hB : Below w.heap.size w (w.alloc (.cells #[.int .i32 112, .slice none 0 0] 85)) := (Below.refl _ _).alloc (Nat.le_refl _) _
  clear ho0 hok
  go_enter Try.func20, Try.ntmps20
  go_wp2
  go_loopw [7, 8] (fun v i wr => v = .slice (some ⟨w.heap.size, 0, none⟩) 1 1 ∧ i = .int .i64 1 ∧ wr = w.alloc (.cells #[.int .i32 112, .slice none 0 0] 85)) (fun _ _ _ => 0)
  case atStart => exact ⟨rfl, rfl, rfl⟩
  case round =>
    obtain ⟨rfl, rfl, rfl⟩ := hrel
    go_wp2
    go_ret
    exact ⟨_, rfl, HO.out, HK.out, hB⟩

/-- What plain hunt on four finds in four leads. -/
theorem hunt_sols {SS : List (List (List Bool))} (hS : SS.getD 0 [] = []) : sols (gOf 4 huntT SS 1) 4 [] 1 = [[0, 0, 0, 0]] := by
  have hSS : ∀ c, c < 1 → (∀ t, t ∈ SS.getD c [] → tsz t = 4) ∧ (SS.getD c []).length ≤ 1 := fun c hc => by
    obtain rfl : c = 0 := by omega
    rw [hS]
    exact ⟨(fun t ht => by cases ht), by simp⟩
  obtain ⟨⟨e1, e2⟩, _⟩ := touch_pm (n := 4) (C := 1) (by decide) (ts := huntT) (SS := SS) (by decide) hunt_tsz hSS [0, 0, 0, 0] (fun c hc => by simp at hc; omega)
  have hA : allOf huntT SS (nI [0, 0, 0, 0]) = huntT ++ huntT ++ huntT ++ huntT := by
    unfold allOf nI
    simp only [List.map_cons, List.map_nil]
    simp only [Int.toNat_natCast, hS]
    decide
  rw [hA] at e1 e2
  have hin : [0, 0, 0, 0] ∈ sols (gOf 4 huntT SS 1) 4 [] 1 := by
    rw [found_iff, gOf_length]
    refine ⟨rfl, fun c hc => by simp at hc; omega, ?_, ?_⟩
    · rw [← e1, ← rowsP_lead, nodup_pad (n := 4) (by decide)]
      · decide +kernel
      · intro r hr
        have := leadTo_rows (n := 4) (k := [0, 0, 0, 0].length * huntT.length) (F := huntT ++ huntT ++ huntT ++ huntT) (by decide) r (List.mem_of_mem_take hr)
        exact ⟨this.row, this.len⟩
    · rw [← e2]
      have h9 : prd 4 (huntT ++ huntT ++ huntT ++ huntT) = rnd 4 := by decide +kernel
      rw [h9]
      exact pad_rnd (by decide)
  have hall : ∀ t, t ∈ sols (gOf 4 huntT SS 1) 4 [] 1 → t = [0, 0, 0, 0] := fun t ht => by
    rw [found_iff, gOf_length] at ht
    obtain ⟨h1, h2, _⟩ := ht
    have : ∀ x, x ∈ t → x = 0 := fun x hx => by have := h2 x hx; omega
    match t, h1, this with
    | [a, b, c, d], _, h => rw [h a (by simp), h b (by simp), h c (by simp), h d (by simp)]
  have hs := sols_sorted (gOf 4 huntT SS 1) 4 [] 1
  generalize sols (gOf 4 huntT SS 1) 4 [] 1 = A at *
  match A, hin, hall, hs with
  | [], h, _, _ => cases h
  | [x], _, h, _ => rw [h x (by simp)]
  | x :: y :: z, _, h, hs =>
    exfalso
    have h1 := (List.pairwise_cons.1 hs).1 y (by simp)
    rw [h x (by simp), h y (by simp)] at h1
    exact ltl_irrefl _ h1

end Go.Proofs.Ytfnmkbcdchnnnaa

/- Contracts: cmp.Compare, slices.Compare of lists of one length; the order of lists. -/
namespace Go.Proofs.Ytfnmkbcdchnnnaa
open Go.RowKit

def cI (x y : Int) : Int := if x < y then -1 else if y < x then 1 else 0

def lcmp : List Int → List Int → Int
  | [], [] => 0
  | [], _ :: _ => -1
  | _ :: _, [] => 1
  | x :: xs, y :: ys => if cI x y = 0 then lcmp xs ys else cI x y

theorem lcmp_cons (x y : Int) (xs ys : List Int) : lcmp (x :: xs) (y :: ys) = if x < y then -1 else if y < x then 1 else lcmp xs ys := by
  show (if cI x y = 0 then lcmp xs ys else cI x y) = _
  unfold cI
  by_cases h1 : x < y
  · simp [h1]
  · by_cases h2 : y < x <;> simp [h1, h2]

theorem lcmp_self : ∀ a, lcmp a a = 0
  | [] => rfl
  | x :: xs => by rw [lcmp_cons, if_neg (by omega), if_neg (by omega)]; exact lcmp_self xs

theorem lcmp_trans : ∀ a b c, lcmp a b < 0 → lcmp b c < 0 → lcmp a c < 0
  | [], [], _, h, _ => absurd h (by decide)
  | [], _ :: _, [], _, h => absurd h (by show ¬ ((1 : Int) < 0); decide)
  | [], _ :: _, _ :: _, _, _ => by show (-1 : Int) < 0; decide
  | _ :: _, [], _, h, _ => absurd h (by show ¬ ((1 : Int) < 0); decide)
  | _ :: _, _ :: _, [], _, h => absurd h (by show ¬ ((1 : Int) < 0); decide)
  | x :: xs, y :: ys, z :: zs, h1, h2 => by
    have ih := lcmp_trans xs ys zs
    rw [lcmp_cons] at h1 h2 ⊢
    repeat' split at h1
    all_goals repeat' split at h2
    all_goals repeat' split
    all_goals first | omega | exact ih h1 h2

theorem lcmp_ntrans : ∀ a b c, ¬ lcmp a b < 0 → ¬ lcmp b c < 0 → ¬ lcmp a c < 0
  | [], [], c, _, h => h
  | [], _ :: _, _, h, _ => absurd (show (-1 : Int) < 0 by decide) h
  | _ :: _, [], [], _, _ => by show ¬ ((1 : Int) < 0); decide
  | _ :: _, [], _ :: _, _, h => absurd (show (-1 : Int) < 0 by decide) h
  | _ :: _, _ :: _, [], _, _ => by show ¬ ((1 : Int) < 0); decide
  | x :: xs, y :: ys, z :: zs, h1, h2 => by
    have ih := lcmp_ntrans xs ys zs
    rw [lcmp_cons] at h1 h2 ⊢
    repeat' split at h1
    all_goals repeat' split at h2
    all_goals repeat' split
    all_goals first | omega | exact ih h1 h2

end Go.Proofs.Ytfnmkbcdchnnnaa

/- Contracts: the answer's Below; slices.BinarySearchFunc among rows in order. -/
namespace Go.Proofs.Ytfnmkbcdchnnnaa
open Go.RowKit

/-- Is a list ahead of another? -/
def blw : List Int → List Int → Bool
  | [], [] => false
  | [], _ :: _ => true
  | _ :: _, [] => false
  | a :: x, b :: y => if a = b then blw x y else decide (a < b)

theorem blw_end (xs ys : List Int) (k : Nat) (h : ¬ (k < xs.length ∧ k < ys.length)) (hk : k ≤ xs.length) (hk2 : k ≤ ys.length) : blw (xs.drop k) (ys.drop k) = decide (xs.length < ys.length) := by
  by_cases h1 : k < xs.length
  · have h2 : ¬ k < ys.length := fun h2 => h ⟨h1, h2⟩
    rw [List.drop_eq_nil_of_le (show ys.length ≤ k by omega), drop_cons xs h1]
    symm
    rw [show blw (xs[k]?.getD 0 :: xs.drop (k + 1)) [] = false from rfl]
    simp; omega
  · rw [List.drop_eq_nil_of_le (show xs.length ≤ k by omega)]
    by_cases h2 : k < ys.length
    · rw [drop_cons ys h2]
      symm
      rw [show blw [] (ys[k]?.getD 0 :: ys.drop (k + 1)) = true from rfl]
      simp; omega
    · rw [List.drop_eq_nil_of_le (show ys.length ≤ k by omega)]
      symm
      rw [show blw [] [] = false from rfl]
      simp; omega

set_option maxRecDepth 20000 in
set_option maxHeartbeats 2000000 in
theorem rbelow_any (v1 v2 : Value) (xs ys : List Int) (w : World) (h1 : Ints w v1 xs) (h2 : Ints w v2 ys) (hl1 : xs.length ≤ 1000000) (hl2 : ys.length ≤ 1000000) :
    Calls Try.prog 25 #[v1, v2] w fun e w' => e = .returned (.bool (blw xs ys)) ∧ Below w.heap.size w w' := by
  obtain ⟨p1, c1, rfl⟩ := h1.form
  obtain ⟨p2, c2, rfl⟩ := h2.form
  have HC1 := hide h1
  have HC2 := hide h2
  clear h1 h2
  go_enter Try.func25, Try.ntmps25
  go_wp2
  go_loopw [5] (fun i wr => ∃ k : Nat, k ≤ xs.length ∧ k ≤ ys.length ∧ i = .int .i64 k ∧ Hid (blw xs ys = blw (xs.drop k) (ys.drop k)) ∧ Below w.heap.size w wr) (fun i _ => xs.length - (intOf i).toNat)
  case atStart => exact ⟨0, by omega, by omega, rfl, rfl, Below.refl _ _⟩
  case round =>
    obtain ⟨k, hk, hk2, rfl, ht, hbw⟩ := hrel
    by_cases hlt : k < xs.length
    · by_cases hlt2 : k < ys.length
      · rcases HC1.out with ⟨rfl, _⟩ | ⟨b, off, cap, hv, h0, hc, hm, hb, hcell⟩
        · simp at hlt
        rcases HC2.out with ⟨rfl, _⟩ | ⟨b2, off2, cap2, hv2, h02, hc2, hm2, hb2, hcell2⟩
        · simp at hlt2
        simp only [Value.slice.injEq] at hv hv2
        obtain ⟨rfl, _, rfl⟩ := hv
        obtain ⟨rfl, _, rfl⟩ := hv2
        obtain ⟨x, hx, hcx⟩ := cellAt hcell hlt
        obtain ⟨y, hy, hcy⟩ := cellAt hcell2 hlt2
        have gx : wr.cell? ⟨b, off + k, none⟩ = some (.int .i64 x) := (hbw.cell (by exact hb)).trans hcx
        have gy : wr.cell? ⟨b2, off2 + k, none⟩ = some (.int .i64 y) := (hbw.cell (by exact hb2)).trans hcy
        have HD : Hid (blw xs ys = if x = y then blw (xs.drop (k + 1)) (ys.drop (k + 1)) else decide (x < y)) := by show _ = _; rw [ht.out, drop_cons xs hlt, drop_cons ys hlt2, hx.out, hy.out]; rfl
        clear hcx hcy hcell hcell2 ht hx hy
        by_cases hxy : x = y
        · subst hxy
          have HD' : Hid (blw xs ys = blw (xs.drop (k + 1)) (ys.drop (k + 1))) := by have := HD.out; rw [if_pos rfl] at this; exact this
          clear HD
          go_wp2
          go_region
          all_goals
            go_wp2
            go_roundw
            case rel => exact ⟨k + 1, by omega, by omega, by go_num, HD', by first | exact hbw | exact hbw.drew | exact hbw.drew.drew⟩
            case measure => simp [intOf]; omega
        · have hne : (x != y) = true := by simpa using hxy
          have HD' : Hid (blw xs ys = decide (x < y)) := by have := HD.out; rw [if_neg hxy] at this; exact this
          clear HD hxy
          go_wp2
          go_region
          all_goals
            go_wp2
            go_region
            all_goals
              go_wp2
              go_ret
              exact ⟨ret_bool HD'.out.symm, by first | exact hbw | exact hbw.drew | exact hbw.drew.drew⟩
      · have HE : Hid (blw xs ys = decide (xs.length < ys.length)) := by show _ = _; rw [ht.out]; exact blw_end xs ys k (fun h => hlt2 h.2) hk hk2
        go_wp2
        go_ret
        exact ⟨ret_bool (by rw [HE.out]), hbw⟩
    · have HE : Hid (blw xs ys = decide (xs.length < ys.length)) := by show _ = _; rw [ht.out]; exact blw_end xs ys k (fun h => hlt h.1) hk hk2
      go_wp2
      go_ret
      exact ⟨ret_bool (by rw [HE.out]), hbw⟩

end Go.Proofs.Ytfnmkbcdchnnnaa

/- The answer's Below only reads; lists of numbers as words. -/
namespace Go.Proofs.Ytfnmkbcdchnnnaa
open Go.RowKit

set_option maxRecDepth 20000 in
set_option maxHeartbeats 2000000 in
theorem rbelow_q (v1 v2 : Value) (xs ys : List Int) (w : World) (h1 : Ints w v1 xs) (h2 : Ints w v2 ys) (hl1 : xs.length ≤ 1000000) (hl2 : ys.length ≤ 1000000) :
    Calls Try.prog 25 #[v1, v2] w fun e w' => e = .returned (.bool (blw xs ys)) ∧ ∃ m, w' = w.drewN m := by
  obtain ⟨p1, c1, rfl⟩ := h1.form
  obtain ⟨p2, c2, rfl⟩ := h2.form
  have HC1 := hide h1
  have HC2 := hide h2
  clear h1 h2
  go_enter Try.func25, Try.ntmps25
  go_wp2
  go_loopw [5] (fun i wr => ∃ k : Nat, k ≤ xs.length ∧ k ≤ ys.length ∧ i = .int .i64 k ∧ Hid (blw xs ys = blw (xs.drop k) (ys.drop k)) ∧ ∃ m, wr = w.drewN m) (fun i _ => xs.length - (intOf i).toNat)
  case atStart => exact ⟨0, by omega, by omega, rfl, rfl, 0, rfl⟩
  case round =>
    obtain ⟨k, hk, hk2, rfl, ht, dm, rfl⟩ := hrel
    by_cases hlt : k < xs.length
    · by_cases hlt2 : k < ys.length
      · rcases HC1.out with ⟨rfl, _⟩ | ⟨b, off, cap, hv, h0, hc, hm, hb, hcell⟩
        · simp at hlt
        rcases HC2.out with ⟨rfl, _⟩ | ⟨b2, off2, cap2, hv2, h02, hc2, hm2, hb2, hcell2⟩
        · simp at hlt2
        simp only [Value.slice.injEq] at hv hv2
        obtain ⟨rfl, _, rfl⟩ := hv
        obtain ⟨rfl, _, rfl⟩ := hv2
        obtain ⟨x, hx, hcx⟩ := cellAt hcell hlt
        obtain ⟨y, hy, hcy⟩ := cellAt hcell2 hlt2
        have gx : w.cell? ⟨b, off + k, none⟩ = some (.int .i64 x) := hcx
        have gy : w.cell? ⟨b2, off2 + k, none⟩ = some (.int .i64 y) := hcy
        have HD : Hid (blw xs ys = if x = y then blw (xs.drop (k + 1)) (ys.drop (k + 1)) else decide (x < y)) := by show _ = _; rw [ht.out, drop_cons xs hlt, drop_cons ys hlt2, hx.out, hy.out]; rfl
        clear hcx hcy hcell hcell2 ht hx hy
        by_cases hxy : x = y
        · subst hxy
          have HD' : Hid (blw xs ys = blw (xs.drop (k + 1)) (ys.drop (k + 1))) := by have := HD.out; rw [if_pos rfl] at this; exact this
          clear HD
          go_wp2
          go_region
          all_goals
            go_wp2
            go_roundw
            case rel => exact ⟨k + 1, by omega, by omega, by go_num, HD', by first | exact ⟨_, rfl⟩ | exact ⟨dm + 1, rfl⟩ | exact ⟨dm + 2, rfl⟩⟩
            case measure => simp [intOf]; omega
        · have hne : (x != y) = true := by simpa using hxy
          have HD' : Hid (blw xs ys = decide (x < y)) := by have := HD.out; rw [if_neg hxy] at this; exact this
          clear HD hxy
          go_wp2
          go_region
          all_goals
            go_wp2
            go_region
            all_goals
              go_wp2
              go_ret
              exact ⟨ret_bool HD'.out.symm, by first | exact ⟨_, rfl⟩ | exact ⟨dm + 1, rfl⟩ | exact ⟨dm + 2, rfl⟩⟩
      · have HE : Hid (blw xs ys = decide (xs.length < ys.length)) := by show _ = _; rw [ht.out]; exact blw_end xs ys k (fun h => hlt2 h.2) hk hk2
        go_wp2
        go_ret
        exact ⟨ret_bool (by rw [HE.out]), _, rfl⟩
    · have HE : Hid (blw xs ys = decide (xs.length < ys.length)) := by show _ = _; rw [ht.out]; exact blw_end xs ys k (fun h => hlt h.1) hk hk2
      go_wp2
      go_ret
      exact ⟨ret_bool (by rw [HE.out]), _, rfl⟩

theorem blw_nI : ∀ x y : List Nat, blw (nI x) (nI y) = true ↔ Ltl x y
  | [], [] => by simp [nI, blw, Ltl]
  | [], _ :: _ => by simp [nI, blw, Ltl]
  | _ :: _, [] => by simp [nI, blw, Ltl]
  | a :: x, b :: y => by
    have ih := blw_nI x y
    show (if ((a : Nat) : Int) = ((b : Nat) : Int) then blw (nI x) (nI y) else decide (((a : Nat) : Int) < ((b : Nat) : Int))) = true ↔ (a < b ∨ (a = b ∧ Ltl x y))
    by_cases h : a = b
    · rw [if_pos (by rw [h]), ih]
      constructor
      · exact fun h2 => Or.inr ⟨h, h2⟩
      · rintro (h2 | h2)
        · omega
        · exact h2.2
    · rw [if_neg (by omega), decide_eq_true_iff]
      constructor
      · exact fun h2 => Or.inl (by omega)
      · rintro (h2 | h2)
        · omega
        · exact absurd h2.1 h

end Go.Proofs.Ytfnmkbcdchnnnaa
