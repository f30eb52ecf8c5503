/- Joined: ScB, ScC, ScD. -/
import Derived.Test.YtoiiadiimfohiaaJ5
import Derived.Test.YtoiiadiimfohiaaJ14
/- Refusals: call.Rows, truth.Prove, Heads, ByHeads, method.Lead, truth.False. -/
namespace Go.Proofs.Ytoiiadiimfohiaa
open Go.RowKit
set_option maxRecDepth 20000
set_option linter.unusedVariables false

def NoRows (er : Int) (w : World) (e : Ending) (w' : World) : Prop := e = .returned (.tuple #[.slice none 0 0, .int .i64 er]) ∧ Below w.heap.size w w'

set_option maxHeartbeats 2000000 in
theorem rows_bad (s : ByteArray) (n : Int) (vp : Option Addr) (vc : Nat) (css : List (List Int)) (cv : Value) (cs : List Cl) (lv : Value) (ls : List Int) (w : World) (hs : s.size ≤ 9223372036854775807)
    (hv : IntsAll w (.slice vp css.length vc) css) (hcv : CallsIn w cv cs) (hl : Ints w lv ls) (hz : tErr s n css cs ls ≠ 0) :
    Calls Try.prog 25 #[meth s n (.slice vp css.length vc), cv, lv] w (NoRows (tErr s n css cs ls) w) := by
  have hB0 : Below w.heap.size w (w.alloc (.cells #[.string s, .int .i64 n, .slice vp css.length vc] 24)) := (Below.refl _ _).alloc (Nat.le_refl _) _
  have HM := hide (may_all s n vp vc css cv cs lv ls (w.alloc (.cells #[.string s, .int .i64 n, .slice vp css.length vc] 24)) hs (hv.below hB0) (hcv.below hB0) (hl.below hB0))
  obtain ⟨cp, cc, rfl⟩ := hcv.form
  obtain ⟨lp, lc, rfl⟩ := hl.form
  clear hv hcv hl
  generalize tErr s n css cs ls = er at *
  have hzz : (er != 0) = true := by simpa using hz
  clear hz
  generalize css.length = K at *
  generalize ls.length = T at *
  generalize cs.length = C at *
  unfold meth at HM
  unfold meth
  go_enter Try.func25, Try.ntmps25
  go_wp2_with fail
  refine HM.out.mono ?_
  rintro e w1 ⟨rfl, hb1⟩
  have HB1 := hide (hB0.trans (hb1.mono hB0.size))
  clear hb1 HM hB0
  go_wp2
  go_ret2
  exact ⟨rfl, HB1.out⟩

set_option maxHeartbeats 2000000 in
theorem heads_bad (s : ByteArray) (n : Int) (vp : Option Addr) (K vc : Nat) (cp : Option Addr) (C cc : Nat) (lp : Option Addr) (T lc : Nat) (er : Int) (w : World) (hz : er ≠ 0)
    (hR : ∀ W, Below w.heap.size w W → Calls Try.prog 25 #[meth s n (.slice vp K vc), .slice cp C cc, .slice lp T lc] W (NoRows er W)) :
    Calls Try.prog 9 #[meth s n (.slice vp K vc), .slice cp C cc, .slice lp T lc] w (NoRows er w) := by
  have hB0 : Below w.heap.size w (w.alloc (.cells #[.string s, .int .i64 n, .slice vp K vc] 24)) := (Below.refl _ _).alloc (Nat.le_refl _) _
  have HM := hide (hR _ hB0)
  have hzz : (er != 0) = true := by simpa using hz
  clear hz hR
  unfold meth at HM
  unfold meth
  go_enter Try.func9, Try.ntmps9
  go_wp2_with fail
  refine HM.out.mono ?_
  rintro e w1 ⟨rfl, hb1⟩
  have HB1 := hide (hB0.trans (hb1.mono hB0.size))
  clear hb1 HM hB0
  go_wp2
  go_ret2
  exact ⟨rfl, HB1.out⟩

set_option maxHeartbeats 2000000 in
theorem byHeads_bad (s : ByteArray) (n : Int) (vp : Option Addr) (K vc : Nat) (cp : Option Addr) (C cc : Nat) (lp : Option Addr) (T lc : Nat) (er : Int) (w : World) (hz : er ≠ 0)
    (hR : ∀ W, Below w.heap.size w W → Calls Try.prog 25 #[meth s n (.slice vp K vc), .slice cp C cc, .slice lp T lc] W (NoRows er W)) :
    Calls Try.prog 10 #[meth s n (.slice vp K vc), .slice cp C cc, .slice lp T lc] w fun e w' => e = .returned (.tuple #[.bool false, .int .i64 er]) ∧ Below w.heap.size w w' := by
  have hBW : Below w.heap.size w ((w.alloc (.cells #[.string s, .int .i64 n, .slice vp K vc] 24)).alloc (.cells #[.slice cp C cc] 25)) := ((Below.refl _ _).alloc (Nat.le_refl _) _).alloc (by simp) _
  have HM := hide (heads_bad s n vp K vc cp C cc lp T lc er ((w.alloc (.cells #[.string s, .int .i64 n, .slice vp K vc] 24)).alloc (.cells #[.slice cp C cc] 25)) hz (fun W hW => hR W (hBW.trans (hW.mono hBW.size))))
  have hzz : (er != 0) = true := by simpa using hz
  clear hz hR
  unfold meth at HM
  unfold meth
  go_enter Try.func10, Try.ntmps10
  go_wp2_with fail
  refine HM.out.mono ?_
  rintro e w1 ⟨rfl, hb1⟩
  have HB1 := hide (hBW.trans (hb1.mono hBW.size))
  clear hb1 HM hBW
  go_wp2
  go_ret2
  exact ⟨rfl, HB1.out⟩

set_option maxHeartbeats 2000000 in
theorem prove_bad (s : ByteArray) (n : Int) (vp : Option Addr) (K vc : Nat) (cp : Option Addr) (C cc : Nat) (lp : Option Addr) (T lc : Nat) (er : Int) (w : World) (hz : er ≠ 0)
    (hR : ∀ W, Below w.heap.size w W → Calls Try.prog 25 #[meth s n (.slice vp K vc), .slice cp C cc, .slice lp T lc] W (NoRows er W)) :
    Calls Try.prog 8 #[meth s n (.slice vp K vc), .slice cp C cc, .slice lp T lc] w fun e w' => e = .returned (.tuple #[.agg #[.int .i64 0, .bool false, .bool false, .int .i64 0, .int .i64 0], .int .i64 er]) ∧ Below w.heap.size w w' := by
  have hB0 : Below w.heap.size w ((w.alloc (.cells #[.string s, .int .i64 n, .slice vp K vc] 24)).alloc (.cells #[.int .i64 0, .bool false, .bool false, .int .i64 0, .int .i64 0] 30)) := ((Below.refl _ _).alloc (Nat.le_refl _) _).alloc (by simp) _
  have HM := hide (hR _ hB0)
  have hzz : (er != 0) = true := by simpa using hz
  clear hz hR
  unfold meth at HM
  unfold meth
  go_enter Try.func8, Try.ntmps8
  go_wp2_with fail
  refine HM.out.mono ?_
  rintro e w1 ⟨rfl, hb1⟩
  have hblk1 : w1.heap[w.heap.size + 1]? = some (.cells #[.int .i64 0, .bool false, .bool false, .int .i64 0, .int .i64 0] 30) := (hb1.block (w.heap.size + 1) (by simp)).trans (by
    have h9 := heap_alloc_new (w.alloc (.cells #[.string s, .int .i64 n, .slice vp K vc] 24)) (.cells #[.int .i64 0, .bool false, .bool false, .int .i64 0, .int .i64 0] 30)
    rw [show (w.alloc (.cells #[.string s, .int .i64 n, .slice vp K vc] 24)).heap.size = w.heap.size + 1 from by simp] at h9
    exact h9)
  have HB1 := hide (hB0.trans (hb1.mono hB0.size))
  have hsz : w.heap.size + 1 < w1.heap.size := Nat.lt_of_lt_of_le (by simp) hb1.size
  obtain ⟨z0, z1, z2, z3, z4, f0, f1, f2, f3, f4⟩ := cells5 hblk1
  have HF := hide (set5 (a' := .int .i64 0) (b' := .bool false) (c' := .bool false) (d' := .int .i64 0) (e' := .int .i64 0) hblk1)
  have HFB := hide (((((HB1.out.setCell (p := ⟨w.heap.size + 1, 0, none⟩) (by simp) (.int .i64 0)).setCell (p := ⟨w.heap.size + 1, 1, none⟩) (by simp) (.bool false)).setCell (p := ⟨w.heap.size + 1, 2, none⟩) (by simp) (.bool false)).setCell (p := ⟨w.heap.size + 1, 3, none⟩) (by simp) (.int .i64 0)).setCell (p := ⟨w.heap.size + 1, 4, none⟩) (by simp) (.int .i64 0))
  clear hb1 HM hB0
  go_wp2
  refine ret_row_tmp (p := 6) (u := 7) rfl rfl rfl HF.out rfl rfl ⟨rfl, HFB.out⟩

set_option maxHeartbeats 2000000 in
theorem lead_bad (s : ByteArray) (n : Int) (v : Value) (X : List (List Int)) (w : World) (hs : s.size ≤ 9223372036854775807) (hv : IntsAll w v X) (hz : mErr s n X ≠ 0) :
    Calls Try.prog 31 #[meth s n v] w (NoRows (mErr s n X) w) := by
  have hB0 : Below w.heap.size w (w.alloc (.cells #[.string s, .int .i64 n, v] 24)) := (Below.refl _ _).alloc (Nat.le_refl _) _
  have HM := hide (mcheck_all s n v X (w.alloc (.cells #[.string s, .int .i64 n, v] 24)) hs (hv.below hB0))
  obtain ⟨vp, vc, rfl⟩ := hv.len
  clear hv
  generalize mErr s n X = er at *
  have hzz : (er != 0) = true := by simpa using hz
  clear hz
  generalize X.length = K at *
  unfold meth at HM
  unfold meth
  go_enter Try.func31, Try.ntmps31
  go_wp2_with fail
  refine HM.out.mono ?_
  rintro e w1 ⟨rfl, hb1⟩
  have HB1 := hide (hB0.trans (hb1.mono hB0.size))
  clear hb1 HM hB0
  go_wp2
  go_ret2
  exact ⟨rfl, HB1.out⟩

set_option maxHeartbeats 2000000 in
theorem false_bad (s : ByteArray) (n : Int) (v : Value) (X : List (List Int)) (w : World) (hs : s.size ≤ 9223372036854775807) (hv : IntsAll w v X) (hz : mErr s n X ≠ 0) :
    Calls Try.prog 11 #[meth s n v] w fun e w' => e = .returned (.tuple #[.slice none 0 0, .bool false, .int .i64 (mErr s n X)]) ∧ Below w.heap.size w w' := by
  have hB0 : Below w.heap.size w (w.alloc (.cells #[.string s, .int .i64 n, v] 24)) := (Below.refl _ _).alloc (Nat.le_refl _) _
  have HM := hide (lead_bad s n v X (w.alloc (.cells #[.string s, .int .i64 n, v] 24)) hs (hv.below hB0) hz)
  obtain ⟨vp, vc, rfl⟩ := hv.len
  clear hv
  generalize mErr s n X = er at *
  have hzz : (er != 0) = true := by simpa using hz
  clear hz
  generalize X.length = K at *
  unfold meth at HM
  unfold meth
  go_enter Try.func11, Try.ntmps11
  go_wp2_with fail
  refine HM.out.mono ?_
  rintro e w1 ⟨rfl, hb1⟩
  have HB1 := hide (hB0.trans (hb1.mono hB0.size))
  clear hb1 HM hB0
  go_wp2
  go_ret3
  exact ⟨rfl, HB1.out⟩

end Go.Proofs.Ytoiiadiimfohiaa

/- The law TruthSays. -/
namespace Go.Proofs.Ytoiiadiimfohiaa
open Go.RowKit
set_option maxRecDepth 20000
set_option linter.unusedVariables false

theorem mem_getDq {α : Type} {l : List α} {q : Nat} {d : α} (h : q < l.length) : l.getD q d ∈ l := by
  rw [List.getD, List.getElem?_eq_getElem h, Option.getD_some]; exact List.getElem_mem h

theorem okc_of {n : Int} {x : List Int} (h1 : 1 ≤ n) (h2 : n ≤ 12) (h : pc n x = 0) : okc n 0 x = true := by
  unfold pc at h
  rw [if_pos ⟨h1, h2⟩] at h
  unfold pck at h
  split at h
  · assumption
  · cases h

theorem tiles_in {n : Nat} {X : List (List Int)} (h1 : 1 ≤ n) (h2 : n ≤ 12) (h : fstE (n : Int) X = 0) : ∃ ss : List (List Bool), X = ss.map tpl ∧ ∀ t, t ∈ ss → tsz t = n :=
  tiles_of X (fun j hj => okc_of (by omega) (by omega) (fstE_zero h _ (by simp [List.getD, hj])))

/-- A method in which nothing is wrong. -/
theorem mErr_zero {s : ByteArray} {n : Int} {X : List (List Int)} (h : mErr s n X = 0) : ∃ (N : Nat) (ts : List (List Bool)), n = (N : Int) ∧ X = ts.map tpl ∧ nm s = true ∧ 2 ≤ N ∧ N ≤ 12 ∧ 1 ≤ ts.length ∧ ts.length ≤ 200 ∧ ∀ t, t ∈ ts → tsz t = N := by
  unfold mErr at h
  split at h
  · rename_i hn
    split at h
    · cases h
    · rename_i hc
      obtain ⟨N, rfl⟩ : ∃ N : Nat, n = (N : Int) := ⟨n.toNat, by omega⟩
      obtain ⟨ts, h3, h4⟩ := tiles_in (by omega) (by omega) h
      have hl : X.length = ts.length := by rw [h3, List.length_map]
      exact ⟨N, ts, rfl, h3, hn, by omega, by omega, by omega, by omega, h4⟩
  · cases h

theorem oErr_zero {n : Int} {K : Nat} {ah : List Cl} {c : Cl} (h : oErr n K ah c = 0) : sgnR c.1 = true ∧ c.1 ∉ ah.map Prod.fst ∧ c.2.length ≤ K ∧ fstE n c.2 = 0 := by
  unfold oErr at h
  split at h
  · rename_i h1
    split at h
    · cases h
    · rename_i h2
      split at h
      · cases h
      · rename_i h3; exact ⟨h1, h2, by omega, h⟩
  · cases h

theorem cFst_zero {n : Int} {K : Nat} {cs : List Cl} : ∀ m j, cs.length - j = m → cFst n K (cs.take j) (cs.drop j) = 0 → ∀ i, j ≤ i → i < cs.length → oErr n K (cs.take i) (cs.getD i (0, [])) = 0
  | 0, j, hm, _, i, h1, h2 => by omega
  | m + 1, j, hm, h, i, h1, h2 => by
    have hj : j < cs.length := by omega
    by_cases hz : oErr n K (cs.take j) (cs.getD j (0, [])) = 0
    · rcases Nat.lt_or_ge j i with h3 | h3
      · rw [cFst_ok hj hz] at h
        exact cFst_zero m (j + 1) (by omega) h i h3 h2
      · obtain rfl : i = j := by omega
        exact hz
    · rw [cFst_bad hj hz] at h
      exact absurd h hz

theorem tiles_cs {n : Nat} : ∀ (cs : List Cl), (∀ c, c ∈ cs → ∃ ss : List (List Bool), c.2 = ss.map tpl ∧ ∀ t, t ∈ ss → tsz t = n) → ∃ SS : List (List (List Bool)), SS.length = cs.length ∧ ∀ c, c < cs.length → (cs.getD c (0, [])).2 = (SS.getD c []).map tpl ∧ ∀ t, t ∈ SS.getD c [] → tsz t = n
  | [], _ => ⟨[], rfl, fun c hc => absurd hc (by simp)⟩
  | a :: cs, h => by
    obtain ⟨SS, h1, h2⟩ := tiles_cs cs (fun c hc => h c (List.mem_cons_of_mem _ hc))
    obtain ⟨ss, h3, h4⟩ := h a List.mem_cons_self
    refine ⟨ss :: SS, by simp [h1], fun c hc => ?_⟩
    cases c with
    | zero => exact ⟨h3, h4⟩
    | succ c => exact h2 c (by simpa using hc)

/-- Calls in which nothing is wrong. -/
theorem cErr_zero {s : ByteArray} {n : Int} {X : List (List Int)} {cs : List Cl} (h : cErr s n X cs = 0) : mErr s n X = 0 ∧ 1 ≤ cs.length ∧ cs.length ≤ 8 ∧ ∀ i, i < cs.length → oErr n X.length (cs.take i) (cs.getD i (0, [])) = 0 := by
  unfold cErr at h
  split at h
  · rename_i h1
    split at h
    · cases h
    · rename_i h2
      exact ⟨h1, by omega, by omega, fun i hi => cFst_zero cs.length 0 (by omega) h i (by omega) hi⟩
  · rename_i h1; exact absurd h h1

theorem calls_good {n : Nat} {K : Nat} {cs : List Cl} (h1 : 1 ≤ n) (h2 : n ≤ 12) (h : ∀ i, i < cs.length → oErr (n : Int) K (cs.take i) (cs.getD i (0, [])) = 0) :
    CallsOk (n : Int) K cs ∧ ∃ SS : List (List (List Bool)), ∀ c, c < cs.length → (cs.getD c (0, [])).2 = (SS.getD c []).map tpl ∧ (∀ t, t ∈ SS.getD c [] → tsz t = n) ∧ (SS.getD c []).length ≤ K := by
  have hz := fun i hi => oErr_zero (h i hi)
  refine ⟨⟨fun j hj => (hz j hj).1, fun i j hij hj e => (hz j hj).2.1 ((sign_in (Nat.le_of_lt hj)).2 ⟨i, hij, e⟩), fun j hj => (hz j hj).2.2.1, fun j hj q hq => okc_of (by omega) (by omega) (fstE_zero (hz j hj).2.2.2 _ (mem_getDq hq))⟩, ?_⟩
  obtain ⟨SS, h3, h4⟩ := tiles_cs (n := n) cs (fun c hc => by
    obtain ⟨j, hj, e⟩ := List.getElem_of_mem hc
    have h9 := (hz j hj).2.2.2
    have e2 : cs.getD j (0, []) = c := by rw [List.getD, List.getElem?_eq_getElem hj, Option.getD_some, e]
    rw [e2] at h9
    exact tiles_in h1 h2 h9)
  refine ⟨SS, fun c hc => ⟨(h4 c hc).1, (h4 c hc).2, ?_⟩⟩
  have := (hz c hc).2.2.1
  rw [(h4 c hc).1, List.length_map] at this
  exact this

theorem nat_list2 {k : Nat} : ∀ {ls : List Int}, (∀ l, l ∈ ls → 0 ≤ l ∧ l < (k : Int)) → ∃ t : List Nat, nI t = ls ∧ ∀ c, c ∈ t → c < k
  | [], _ => ⟨[], rfl, fun c hc => by cases hc⟩
  | l :: ls, h => by
    obtain ⟨t, h1, h2⟩ := nat_list2 (ls := ls) (fun x hx => h x (List.mem_cons_of_mem _ hx))
    obtain ⟨a1, a2⟩ := h l List.mem_cons_self
    refine ⟨l.toNat :: t, ?_, fun c hc => ?_⟩
    · show ((l.toNat : Nat) : Int) :: nI t = l :: ls
      rw [h1, Int.toNat_of_nonneg a1]
    · rcases List.mem_cons.1 hc with rfl | hc
      · omega
      · exact h2 c hc

/-- A touch in which nothing is wrong. -/
theorem tErr_zero {W : World} {s : ByteArray} {n : Int} {vp : Option Addr} {vc : Nat} {X : List (List Int)} {cv : Value} {cs : List Cl} {lp : Option Addr} {lc : Nat} {ls : List Int} (h : tErr s n X cs ls = 0) (hs : s.size ≤ 1048576)
    (hv : IntsAll W (.slice vp X.length vc) X) (hcv : CallsIn W cv cs) (hl : Ints W (.slice lp ls.length lc) ls) (h60 : ls.length ≤ 60 ∨ 400 < ls.length) :
    ∃ (N : Nat) (ts : List (List Bool)) (SS : List (List (List Bool))) (t : List Nat), n = (N : Int) ∧ X.length = ts.length ∧ ls.length = t.length ∧ Tch W s N vp vc ts cv cs SS lp lc t := by
  unfold tErr at h
  split at h
  · rename_i hc
    split at h
    · rename_i hle
      split at h
      · cases h
      · rename_i hml
        obtain ⟨hm, c1, c2, c3⟩ := cErr_zero hc
        obtain ⟨N, ts, rfl, rfl, hn, a1, a2, a3, a4, a5⟩ := mErr_zero hm
        rw [List.length_map] at *
        obtain ⟨hok, SS, hSS⟩ := calls_good (by omega) a2 c3
        unfold lErr at hle
        split at hle
        · cases hle
        · rename_i hln
          split at hle
          · rename_i hall
            obtain ⟨t, ht1, ht2⟩ := nat_list2 hall
            subst ht1
            rw [nI_len] at *
            refine ⟨N, ts, SS, t, rfl, rfl, rfl, { size := hs, nam := hn, isn := by rw [nm_isN]; exact hn, n1 := a1, n2 := a2, l1 := a3, l2 := a4, tz := a5, val := hv, cat := ?_, cok := hok, c1 := c1, c2 := c2, css := hSS, lat := hl, t1 := by omega, t2 := by omega, tin := ht2, mul := by omega }⟩
            rcases hcv with ⟨h9, _⟩ | ⟨_, h9⟩
            · rw [h9] at c1; simp at c1
            · exact h9
          · cases hle
    · rename_i hle; exact absurd h hle
  · rename_i hc; exact absurd h hc

end Go.Proofs.Ytoiiadiimfohiaa

/- The law TruthSays where a touch may not be. -/
namespace Go.Proofs.Ytoiiadiimfohiaa
open Go.RowKit
set_option maxRecDepth 20000
set_option linter.unusedVariables false

set_option maxHeartbeats 4000000 in
theorem truthSays_gaa (s : ByteArray) (n : Int) (vp : Option Addr) (vc : Nat) (X : List (List Int)) (cp : Option Addr) (cc : Nat) (cs : List Cl) (lp : Option Addr) (lc : Nat) (ls : List Int) (w : World) (hs : s.size ≤ 1048576)
    (hv : IntsAll w (.slice vp X.length vc) X) (hcv : CallsIn w (.slice cp cs.length cc) cs) (hl : Ints w (.slice lp ls.length lc) ls) (hz : tErr s n X cs ls ≠ 0) (hm : mErr s n X = 0)
    (k1 : cs.length ≤ 12) (k3 : ls.length ≤ 500) (gT : ¬ 60 < (ls.length : Int)) (gK : ¬ 40 < (X.length : Int)) :
    Calls Try.prog 3 #[.agg #[.string s, .int .i64 n, .slice vp X.length vc], .slice cp cs.length cc, .slice lp ls.length lc] w fun e w' => e = .returned (.bool true) ∧ Below w.heap.size w w' := by
  have hs2 : s.size ≤ 9223372036854775807 := Nat.le_trans hs (by omega)
  have HR : Hid (∀ W, Below w.heap.size w W → Calls Try.prog 25 #[meth s n (.slice vp X.length vc), .slice cp cs.length cc, .slice lp ls.length lc] W (NoRows (tErr s n X cs ls) W)) := fun W hW => rows_bad s n vp vc X _ cs _ ls W hs2 (hv.below hW) (hcv.below hW) (hl.below hW) hz
  have HMY := hide (fun W (hW : Below w.heap.size w W) => rtmay_all s n vp vc X _ cs _ ls W hs (hv.below hW) (hcv.below hW) (hl.below hW))
  have HMM := hide (fun W (hW : Below w.heap.size w W) => rmay_all s n _ X W hs (hv.below hW))
  obtain ⟨Nn, ts, hne, hXe, hnm, a1, a2, a3, a4, a5⟩ := mErr_zero hm
  rw [hm] at HMM
  have hXl : X.length = ts.length := by rw [hXe, List.length_map]
  have HFA : Hid (∀ W, Below w.heap.size w W → Calls Try.prog 11 #[meth s n (.slice vp X.length vc)] W (FalsePost Nn ts W)) := fun W hW => by
    rw [hne]
    exact false_ok s Nn _ ts W hs2 hnm a1 a2 a3 a4 a5 (by have := hv.below hW; rw [← hXe]; exact this)
  have HRF : Hid (∀ W, Below w.heap.size w W → Calls Try.prog 13 #[.agg #[.string s, .int .i64 n, .slice vp X.length vc]] W (RFPost Nn (ldr Nn ts) W)) := fun W hW => by
    rw [hXl, hne]
    exact rfalse_ok s Nn vp vc ts W a1 a2 a3 a4 a5 (by have := hv.below hW; rw [hXl, hXe] at this; exact this)
  have HXE := hide hXe
  clear hm a3 a4 a5 hnm hXl hXe hne

  have HSUB : Hid (∀ W W', Below w.heap.size w W → Below W.heap.size W W' → Below w.heap.size w W') := fun W W' h1 h2 => h1.trans (h2.mono h1.size)
  have hzz : (tErr s n X cs ls != 0) = true := by simpa using hz
  have hze : (tErr s n X cs ls == 0) = false := by rw [beq_eq_false_iff_ne]; exact hz
  generalize tErr s n X cs ls = er at *
  have HPR := hide (fun W (hW : Below w.heap.size w W) => prove_bad s n vp X.length vc cp cs.length cc lp ls.length lc er W hz (fun W' hW' => HR.out W' (HSUB.out W W' hW hW')))
  have HHD := hide (fun W (hW : Below w.heap.size w W) => heads_bad s n vp X.length vc cp cs.length cc lp ls.length lc er W hz (fun W' hW' => HR.out W' (HSUB.out W W' hW hW')))
  have HBY := hide (fun W (hW : Below w.heap.size w W) => byHeads_bad s n vp X.length vc cp cs.length cc lp ls.length lc er W hz (fun W' hW' => HR.out W' (HSUB.out W W' hW hW')))
  unfold NoRows at HHD
  unfold meth at HPR HHD HBY HFA
  clear hv hcv hl hz HR HSUB hs hs2
  generalize X.length = K at *
  generalize cs.length = C at *
  generalize ls.length = T at *
  have HB0 := hide ((Below.refl w.heap.size w).alloc (Nat.le_refl _) (mbox s n (.slice vp K vc)))
  obtain ⟨d0, d1, d2⟩ := mbox_cells w s n (.slice vp K vc)
  have g1 : ¬ 12 < (C : Int) := by omega
  have g3 : ¬ 500 < (T : Int) := by omega
  go_enter Try.func3, Try.ntmps3
  go_wp2_with fail
  refine (HMY.out _ HB0.out).mono ?_
  rintro e w1 ⟨rfl, hb1⟩
  have x1 : ∀ j, w1.cell? ⟨w.heap.size, j, none⟩ = (w.alloc (mbox s n (.slice vp K vc))).cell? ⟨w.heap.size, j, none⟩ := fun j => hb1.cell (p := ⟨w.heap.size, j, none⟩) (by simp)
  have hs0 : w.heap.size < w1.heap.size := Nat.lt_of_lt_of_le (by simp) hb1.size
  have m0 := (x1 0).trans d0
  have m1 := (x1 1).trans d1
  have m2 := (x1 2).trans d2
  have HB1 := hide (HB0.out.trans (hb1.mono HB0.out.size))
  clear hb1 x1 d0 d1 d2 HB0 HMY
  go_wp2_with fail
  refine (HPR.out _ HB1.out).mono ?_
  rintro e w2 ⟨rfl, hb2⟩
  have hbA2 : Below w1.heap.size w1 (w2.alloc (repC 0 false false 0 0)) := hb2.alloc hb2.size _
  have x2 : ∀ j', (w2.alloc (repC 0 false false 0 0)).cell? ⟨w.heap.size, j', none⟩ = w1.cell? ⟨w.heap.size, j', none⟩ := fun j' => hbA2.cell (p := ⟨w.heap.size, j', none⟩) hs0
  have n0 := (x2 0).trans m0
  have n1 := (x2 1).trans m1
  have n2 := (x2 2).trans m2
  have HB2 := hide (HB1.out.trans (hbA2.mono HB1.out.size))
  have HN2 := hide (heap_alloc_new w2 (repC 0 false false 0 0))
  have hsz2 : w2.heap.size < (w2.alloc (repC 0 false false 0 0)).heap.size := by simp
  have hs2 : w.heap.size < w2.heap.size := Nat.lt_of_lt_of_le hs0 hb2.size
  clear hb2 hbA2 x2 m0 m1 m2 HB1 HPR
  go_wp2_with fail
  refine (HHD.out _ HB2.out).mono ?_
  rintro e w3 ⟨rfl, hb3⟩
  change Below (w2.alloc (repC 0 false false 0 0)).heap.size (w2.alloc (repC 0 false false 0 0)) w3 at hb3
  have HK3 := hide ((hb3.block w2.heap.size hsz2).trans HN2.out)
  have x3 : ∀ j', w3.cell? ⟨w.heap.size, j', none⟩ = (w2.alloc (repC 0 false false 0 0)).cell? ⟨w.heap.size, j', none⟩ := fun j' => hb3.cell (p := ⟨w.heap.size, j', none⟩) (by show w.heap.size < _; omega)
  have m0 := (x3 0).trans n0
  have m1 := (x3 1).trans n1
  have m2 := (x3 2).trans n2
  have HB3 := hide (HB2.out.trans (hb3.mono HB2.out.size))
  have hs3 : w2.heap.size < w3.heap.size := Nat.lt_of_lt_of_le hsz2 hb3.size
  clear hb3 x3 n0 n1 n2 HB2 HHD HN2 hsz2
  go_wp2_with fail
  refine (HBY.out _ HB3.out).mono ?_
  rintro e w4 ⟨rfl, hb4⟩
  have x4 : ∀ j', w4.cell? ⟨w.heap.size, j', none⟩ = w3.cell? ⟨w.heap.size, j', none⟩ := fun j' => hb4.cell (p := ⟨w.heap.size, j', none⟩) (by show w.heap.size < _; omega)
  have n0 := (x4 0).trans m0
  have n1 := (x4 1).trans m1
  have n2 := (x4 2).trans m2
  have HB4 := hide (HB3.out.trans (hb4.mono HB3.out.size))
  have HK4 := hide ((hb4.block w2.heap.size hs3).trans HK3.out)
  have hs4 : w2.heap.size < w4.heap.size := Nat.lt_of_lt_of_le hs3 hb4.size
  have hee : (er != er) = false := by simp
  clear hb4 x4 m0 m1 m2 HB3 HK3 HBY hs3
  go_wp2_with fail
  refine (HFA.out _ HB4.out).mono ?_
  rintro e w5 ⟨u5, vs5, X5, t5, rfl, hpm5, hL5, hnd5, hb5⟩
  have HPM5 := hide hpm5
  have HND5 := hide hnd5
  have HI5 := hide hL5.ints
  have hl5 : vs5.length = X5.length := hL5.len
  obtain ⟨p5, c5, rfl⟩ := owns_slice hL5.row
  rw [hl5] at HI5 ⊢
  have x5 : ∀ j', w5.cell? ⟨w.heap.size, j', none⟩ = w4.cell? ⟨w.heap.size, j', none⟩ := fun j' => hb5.cell (p := ⟨w.heap.size, j', none⟩) (by show w.heap.size < _; omega)
  have m0 := (x5 0).trans n0
  have m1 := (x5 1).trans n1
  have m2 := (x5 2).trans n2
  have HB5 := hide (HB4.out.trans (hb5.mono HB4.out.size))
  have HK5 := hide ((hb5.block w2.heap.size hs4).trans HK4.out)
  have hs5 : w2.heap.size < w5.heap.size := Nat.lt_of_lt_of_le hs4 hb5.size
  clear hpm5 hnd5 hL5 hl5 hb5 x5 n0 n1 n2 HB4 HK4 HFA hs4
  go_wp2_with fail
  refine (HMM.out _ HB5.out).mono ?_
  rintro e w6 ⟨rfl, hb6⟩
  have x6 : ∀ j', w6.cell? ⟨w.heap.size, j', none⟩ = w5.cell? ⟨w.heap.size, j', none⟩ := fun j' => hb6.cell (p := ⟨w.heap.size, j', none⟩) (by show w.heap.size < _; omega)
  have n0 := (x6 0).trans m0
  have n1 := (x6 1).trans m1
  have n2 := (x6 2).trans m2
  have HB6 := hide (HB5.out.trans (hb6.mono HB5.out.size))
  have HK6 := hide ((hb6.block w2.heap.size hs5).trans HK5.out)
  have HI6 := hide (HI5.out.below hb6)
  have hs6 : w2.heap.size < w6.heap.size := Nat.lt_of_lt_of_le hs5 hb6.size
  clear hb6 x6 m0 m1 m2 HB5 HK5 HI5 HMM hs5
  go_wp2_with fail
  refine (HRF.out _ HB6.out).mono ?_
  rintro e w7 ⟨u7, X7, t7, rfl, hI7, hnd7, hri7, hme7, hb7⟩
  have htt : t7 = t5 := by
    have h9 := hnd7.trans HND5.out.symm
    cases t5 <;> cases t7 <;> simp_all
  have hXX : X5 = X7 := by
    obtain ⟨pm, so⟩ := HPM5.out
    have hf := hdsTo_fact Nn (pr (ldr Nn ts))
    have hr5 : Ris X5 := so.imp (fun {a b} h => by rw [blw_lcmp]; exact decide_eq_false (Int.not_lt.2 h))
    refine rising_eq (hr5.rising (pm.nodup_iff.2 hf.1)) hri7 (fun x => ?_)
    rw [pm.mem_iff, hme7]
    exact hf.2.1 x
  subst htt hXX
  have HB7 := hide (HB6.out.trans (hb7.mono HB6.out.size))
  have HK7 := hide ((hb7.block w2.heap.size hs6).trans HK6.out)
  have HSA0 := hide (sameAll_any _ _ _ _ w7 (HI6.out.below hb7) hI7)
  have HSA : Hid (Calls Try.prog 14 #[.slice p5 X5.length c5, u7] w7 fun e w' => e = .returned (.bool true) ∧ Below w7.heap.size w7 w') := HSA0.out.mono (fun e w' h => ⟨h.1.trans (by simp), h.2⟩)
  obtain ⟨p7, c7, rfl⟩ := hI7.len
  have hs7 : w2.heap.size < w7.heap.size := Nat.lt_of_lt_of_le hs6 hb7.size
  clear hI7 hnd7 hri7 hme7 hb7 n0 n1 n2 HB6 HK6 HI6 HRF HPM5 HND5 HSA0 hs6
  go_wp2_with fail
  refine HSA.out.mono ?_
  rintro e w8 ⟨rfl, hb8⟩
  have HB8 := hide (HB7.out.trans (hb8.mono HB7.out.size))
  have HK8 := hide ((hb8.block w2.heap.size hs7).trans HK7.out)
  have htn : (t7 != t7) = false := by simp
  obtain ⟨z0, z1, z2, z3, z4, _⟩ := cells5 HK8.out
  clear hb8 HB7 HK7 HSA hs7 HK8
  go_wp2
  go_ret
  exact ⟨by simp, HB8.out⟩

set_option maxHeartbeats 4000000 in
theorem truthSays_gab (s : ByteArray) (n : Int) (vp : Option Addr) (vc : Nat) (X : List (List Int)) (cp : Option Addr) (cc : Nat) (cs : List Cl) (lp : Option Addr) (lc : Nat) (ls : List Int) (w : World) (hs : s.size ≤ 1048576)
    (hv : IntsAll w (.slice vp X.length vc) X) (hcv : CallsIn w (.slice cp cs.length cc) cs) (hl : Ints w (.slice lp ls.length lc) ls) (hz : tErr s n X cs ls ≠ 0) (hm : mErr s n X = 0)
    (k1 : cs.length ≤ 12) (k3 : ls.length ≤ 500) (gT : ¬ 60 < (ls.length : Int)) (gK : 40 < (X.length : Int)) (gK2 : ¬ (X.length : Int) < 201) :
    Calls Try.prog 3 #[.agg #[.string s, .int .i64 n, .slice vp X.length vc], .slice cp cs.length cc, .slice lp ls.length lc] w fun e w' => e = .returned (.bool true) ∧ Below w.heap.size w w' := by
  have hs2 : s.size ≤ 9223372036854775807 := Nat.le_trans hs (by omega)
  have HR : Hid (∀ W, Below w.heap.size w W → Calls Try.prog 25 #[meth s n (.slice vp X.length vc), .slice cp cs.length cc, .slice lp ls.length lc] W (NoRows (tErr s n X cs ls) W)) := fun W hW => rows_bad s n vp vc X _ cs _ ls W hs2 (hv.below hW) (hcv.below hW) (hl.below hW) hz
  have HMY := hide (fun W (hW : Below w.heap.size w W) => rtmay_all s n vp vc X _ cs _ ls W hs (hv.below hW) (hcv.below hW) (hl.below hW))
  have HMM := hide (fun W (hW : Below w.heap.size w W) => rmay_all s n _ X W hs (hv.below hW))
  obtain ⟨Nn, ts, hne, hXe, hnm, a1, a2, a3, a4, a5⟩ := mErr_zero hm
  rw [hm] at HMM
  have hXl : X.length = ts.length := by rw [hXe, List.length_map]
  have HFA : Hid (∀ W, Below w.heap.size w W → Calls Try.prog 11 #[meth s n (.slice vp X.length vc)] W (FalsePost Nn ts W)) := fun W hW => by
    rw [hne]
    exact false_ok s Nn _ ts W hs2 hnm a1 a2 a3 a4 a5 (by have := hv.below hW; rw [← hXe]; exact this)
  have HRF : Hid (∀ W, Below w.heap.size w W → Calls Try.prog 13 #[.agg #[.string s, .int .i64 n, .slice vp X.length vc]] W (RFPost Nn (ldr Nn ts) W)) := fun W hW => by
    rw [hXl, hne]
    exact rfalse_ok s Nn vp vc ts W a1 a2 a3 a4 a5 (by have := hv.below hW; rw [hXl, hXe] at this; exact this)
  have HXE := hide hXe
  clear hm a3 a4 a5 hnm hXl hXe hne

  have HSUB : Hid (∀ W W', Below w.heap.size w W → Below W.heap.size W W' → Below w.heap.size w W') := fun W W' h1 h2 => h1.trans (h2.mono h1.size)
  have hzz : (tErr s n X cs ls != 0) = true := by simpa using hz
  have hze : (tErr s n X cs ls == 0) = false := by rw [beq_eq_false_iff_ne]; exact hz
  generalize tErr s n X cs ls = er at *
  have HPR := hide (fun W (hW : Below w.heap.size w W) => prove_bad s n vp X.length vc cp cs.length cc lp ls.length lc er W hz (fun W' hW' => HR.out W' (HSUB.out W W' hW hW')))
  have HHD := hide (fun W (hW : Below w.heap.size w W) => heads_bad s n vp X.length vc cp cs.length cc lp ls.length lc er W hz (fun W' hW' => HR.out W' (HSUB.out W W' hW hW')))
  have HBY := hide (fun W (hW : Below w.heap.size w W) => byHeads_bad s n vp X.length vc cp cs.length cc lp ls.length lc er W hz (fun W' hW' => HR.out W' (HSUB.out W W' hW hW')))
  unfold NoRows at HHD
  unfold meth at HPR HHD HBY HFA
  clear hv hcv hl hz HR HSUB hs hs2
  generalize X.length = K at *
  generalize cs.length = C at *
  generalize ls.length = T at *
  have HB0 := hide ((Below.refl w.heap.size w).alloc (Nat.le_refl _) (mbox s n (.slice vp K vc)))
  obtain ⟨d0, d1, d2⟩ := mbox_cells w s n (.slice vp K vc)
  have g1 : ¬ 12 < (C : Int) := by omega
  have g3 : ¬ 500 < (T : Int) := by omega
  go_enter Try.func3, Try.ntmps3
  go_wp2_with fail
  refine (HMY.out _ HB0.out).mono ?_
  rintro e w1 ⟨rfl, hb1⟩
  have x1 : ∀ j, w1.cell? ⟨w.heap.size, j, none⟩ = (w.alloc (mbox s n (.slice vp K vc))).cell? ⟨w.heap.size, j, none⟩ := fun j => hb1.cell (p := ⟨w.heap.size, j, none⟩) (by simp)
  have hs0 : w.heap.size < w1.heap.size := Nat.lt_of_lt_of_le (by simp) hb1.size
  have m0 := (x1 0).trans d0
  have m1 := (x1 1).trans d1
  have m2 := (x1 2).trans d2
  have HB1 := hide (HB0.out.trans (hb1.mono HB0.out.size))
  clear hb1 x1 d0 d1 d2 HB0 HMY
  go_wp2_with fail
  refine (HPR.out _ HB1.out).mono ?_
  rintro e w2 ⟨rfl, hb2⟩
  have hbA2 : Below w1.heap.size w1 (w2.alloc (repC 0 false false 0 0)) := hb2.alloc hb2.size _
  have x2 : ∀ j', (w2.alloc (repC 0 false false 0 0)).cell? ⟨w.heap.size, j', none⟩ = w1.cell? ⟨w.heap.size, j', none⟩ := fun j' => hbA2.cell (p := ⟨w.heap.size, j', none⟩) hs0
  have n0 := (x2 0).trans m0
  have n1 := (x2 1).trans m1
  have n2 := (x2 2).trans m2
  have HB2 := hide (HB1.out.trans (hbA2.mono HB1.out.size))
  have HN2 := hide (heap_alloc_new w2 (repC 0 false false 0 0))
  have hsz2 : w2.heap.size < (w2.alloc (repC 0 false false 0 0)).heap.size := by simp
  have hs2 : w.heap.size < w2.heap.size := Nat.lt_of_lt_of_le hs0 hb2.size
  clear hb2 hbA2 x2 m0 m1 m2 HB1 HPR
  go_wp2_with fail
  refine (HHD.out _ HB2.out).mono ?_
  rintro e w3 ⟨rfl, hb3⟩
  change Below (w2.alloc (repC 0 false false 0 0)).heap.size (w2.alloc (repC 0 false false 0 0)) w3 at hb3
  have HK3 := hide ((hb3.block w2.heap.size hsz2).trans HN2.out)
  have x3 : ∀ j', w3.cell? ⟨w.heap.size, j', none⟩ = (w2.alloc (repC 0 false false 0 0)).cell? ⟨w.heap.size, j', none⟩ := fun j' => hb3.cell (p := ⟨w.heap.size, j', none⟩) (by show w.heap.size < _; omega)
  have m0 := (x3 0).trans n0
  have m1 := (x3 1).trans n1
  have m2 := (x3 2).trans n2
  have HB3 := hide (HB2.out.trans (hb3.mono HB2.out.size))
  have hs3 : w2.heap.size < w3.heap.size := Nat.lt_of_lt_of_le hsz2 hb3.size
  clear hb3 x3 n0 n1 n2 HB2 HHD HN2 hsz2
  go_wp2_with fail
  refine (HBY.out _ HB3.out).mono ?_
  rintro e w4 ⟨rfl, hb4⟩
  have x4 : ∀ j', w4.cell? ⟨w.heap.size, j', none⟩ = w3.cell? ⟨w.heap.size, j', none⟩ := fun j' => hb4.cell (p := ⟨w.heap.size, j', none⟩) (by show w.heap.size < _; omega)
  have n0 := (x4 0).trans m0
  have n1 := (x4 1).trans m1
  have n2 := (x4 2).trans m2
  have HB4 := hide (HB3.out.trans (hb4.mono HB3.out.size))
  have HK4 := hide ((hb4.block w2.heap.size hs3).trans HK3.out)
  have hs4 : w2.heap.size < w4.heap.size := Nat.lt_of_lt_of_le hs3 hb4.size
  have hee : (er != er) = false := by simp
  clear hb4 x4 m0 m1 m2 HB3 HK3 HBY hs3
  go_wp2_with fail
  refine (HFA.out _ HB4.out).mono ?_
  rintro e w5 ⟨u5, vs5, X5, t5, rfl, hpm5, hL5, hnd5, hb5⟩
  have HPM5 := hide hpm5
  have HND5 := hide hnd5
  have HI5 := hide hL5.ints
  have hl5 : vs5.length = X5.length := hL5.len
  obtain ⟨p5, c5, rfl⟩ := owns_slice hL5.row
  rw [hl5] at HI5 ⊢
  have x5 : ∀ j', w5.cell? ⟨w.heap.size, j', none⟩ = w4.cell? ⟨w.heap.size, j', none⟩ := fun j' => hb5.cell (p := ⟨w.heap.size, j', none⟩) (by show w.heap.size < _; omega)
  have m0 := (x5 0).trans n0
  have m1 := (x5 1).trans n1
  have m2 := (x5 2).trans n2
  have HB5 := hide (HB4.out.trans (hb5.mono HB4.out.size))
  have HK5 := hide ((hb5.block w2.heap.size hs4).trans HK4.out)
  have hs5 : w2.heap.size < w5.heap.size := Nat.lt_of_lt_of_le hs4 hb5.size
  clear hpm5 hnd5 hL5 hl5 hb5 x5 n0 n1 n2 HB4 HK4 HFA hs4
  go_wp2_with fail
  refine (HMM.out _ HB5.out).mono ?_
  rintro e w6 ⟨rfl, hb6⟩
  have x6 : ∀ j', w6.cell? ⟨w.heap.size, j', none⟩ = w5.cell? ⟨w.heap.size, j', none⟩ := fun j' => hb6.cell (p := ⟨w.heap.size, j', none⟩) (by show w.heap.size < _; omega)
  have n0 := (x6 0).trans m0
  have n1 := (x6 1).trans m1
  have n2 := (x6 2).trans m2
  have HB6 := hide (HB5.out.trans (hb6.mono HB5.out.size))
  have HK6 := hide ((hb6.block w2.heap.size hs5).trans HK5.out)
  have HI6 := hide (HI5.out.below hb6)
  have hs6 : w2.heap.size < w6.heap.size := Nat.lt_of_lt_of_le hs5 hb6.size
  clear hb6 x6 m0 m1 m2 HB5 HK5 HI5 HMM hs5
  go_wp2_with fail
  refine (HRF.out _ HB6.out).mono ?_
  rintro e w7 ⟨u7, X7, t7, rfl, hI7, hnd7, hri7, hme7, hb7⟩
  have htt : t7 = t5 := by
    have h9 := hnd7.trans HND5.out.symm
    cases t5 <;> cases t7 <;> simp_all
  have hXX : X5 = X7 := by
    obtain ⟨pm, so⟩ := HPM5.out
    have hf := hdsTo_fact Nn (pr (ldr Nn ts))
    have hr5 : Ris X5 := so.imp (fun {a b} h => by rw [blw_lcmp]; exact decide_eq_false (Int.not_lt.2 h))
    refine rising_eq (hr5.rising (pm.nodup_iff.2 hf.1)) hri7 (fun x => ?_)
    rw [pm.mem_iff, hme7]
    exact hf.2.1 x
  subst htt hXX
  have HB7 := hide (HB6.out.trans (hb7.mono HB6.out.size))
  have HK7 := hide ((hb7.block w2.heap.size hs6).trans HK6.out)
  have HSA0 := hide (sameAll_any _ _ _ _ w7 (HI6.out.below hb7) hI7)
  have HSA : Hid (Calls Try.prog 14 #[.slice p5 X5.length c5, u7] w7 fun e w' => e = .returned (.bool true) ∧ Below w7.heap.size w7 w') := HSA0.out.mono (fun e w' h => ⟨h.1.trans (by simp), h.2⟩)
  obtain ⟨p7, c7, rfl⟩ := hI7.len
  have hs7 : w2.heap.size < w7.heap.size := Nat.lt_of_lt_of_le hs6 hb7.size
  clear hI7 hnd7 hri7 hme7 hb7 n0 n1 n2 HB6 HK6 HI6 HRF HPM5 HND5 HSA0 hs6
  go_wp2_with fail
  refine HSA.out.mono ?_
  rintro e w8 ⟨rfl, hb8⟩
  have HB8 := hide (HB7.out.trans (hb8.mono HB7.out.size))
  have HK8 := hide ((hb8.block w2.heap.size hs7).trans HK7.out)
  have htn : (t7 != t7) = false := by simp
  obtain ⟨z0, z1, z2, z3, z4, _⟩ := cells5 HK8.out
  clear hb8 HB7 HK7 HSA hs7 HK8
  go_wp2
  go_ret
  exact ⟨by simp, HB8.out⟩

set_option maxHeartbeats 4000000 in
theorem truthSays_gba (s : ByteArray) (n : Int) (vp : Option Addr) (vc : Nat) (X : List (List Int)) (cp : Option Addr) (cc : Nat) (cs : List Cl) (lp : Option Addr) (lc : Nat) (ls : List Int) (w : World) (hs : s.size ≤ 1048576)
    (hv : IntsAll w (.slice vp X.length vc) X) (hcv : CallsIn w (.slice cp cs.length cc) cs) (hl : Ints w (.slice lp ls.length lc) ls) (hz : tErr s n X cs ls ≠ 0) (hm : mErr s n X = 0)
    (k1 : cs.length ≤ 12) (k3 : ls.length ≤ 500) (gT : 60 < (ls.length : Int)) (gT2 : ¬ (ls.length : Int) < 401) (gK : ¬ 40 < (X.length : Int)) :
    Calls Try.prog 3 #[.agg #[.string s, .int .i64 n, .slice vp X.length vc], .slice cp cs.length cc, .slice lp ls.length lc] w fun e w' => e = .returned (.bool true) ∧ Below w.heap.size w w' := by
  have hs2 : s.size ≤ 9223372036854775807 := Nat.le_trans hs (by omega)
  have HR : Hid (∀ W, Below w.heap.size w W → Calls Try.prog 25 #[meth s n (.slice vp X.length vc), .slice cp cs.length cc, .slice lp ls.length lc] W (NoRows (tErr s n X cs ls) W)) := fun W hW => rows_bad s n vp vc X _ cs _ ls W hs2 (hv.below hW) (hcv.below hW) (hl.below hW) hz
  have HMY := hide (fun W (hW : Below w.heap.size w W) => rtmay_all s n vp vc X _ cs _ ls W hs (hv.below hW) (hcv.below hW) (hl.below hW))
  have HMM := hide (fun W (hW : Below w.heap.size w W) => rmay_all s n _ X W hs (hv.below hW))
  obtain ⟨Nn, ts, hne, hXe, hnm, a1, a2, a3, a4, a5⟩ := mErr_zero hm
  rw [hm] at HMM
  have hXl : X.length = ts.length := by rw [hXe, List.length_map]
  have HFA : Hid (∀ W, Below w.heap.size w W → Calls Try.prog 11 #[meth s n (.slice vp X.length vc)] W (FalsePost Nn ts W)) := fun W hW => by
    rw [hne]
    exact false_ok s Nn _ ts W hs2 hnm a1 a2 a3 a4 a5 (by have := hv.below hW; rw [← hXe]; exact this)
  have HRF : Hid (∀ W, Below w.heap.size w W → Calls Try.prog 13 #[.agg #[.string s, .int .i64 n, .slice vp X.length vc]] W (RFPost Nn (ldr Nn ts) W)) := fun W hW => by
    rw [hXl, hne]
    exact rfalse_ok s Nn vp vc ts W a1 a2 a3 a4 a5 (by have := hv.below hW; rw [hXl, hXe] at this; exact this)
  have HXE := hide hXe
  clear hm a3 a4 a5 hnm hXl hXe hne

  have HSUB : Hid (∀ W W', Below w.heap.size w W → Below W.heap.size W W' → Below w.heap.size w W') := fun W W' h1 h2 => h1.trans (h2.mono h1.size)
  have hzz : (tErr s n X cs ls != 0) = true := by simpa using hz
  have hze : (tErr s n X cs ls == 0) = false := by rw [beq_eq_false_iff_ne]; exact hz
  generalize tErr s n X cs ls = er at *
  have HPR := hide (fun W (hW : Below w.heap.size w W) => prove_bad s n vp X.length vc cp cs.length cc lp ls.length lc er W hz (fun W' hW' => HR.out W' (HSUB.out W W' hW hW')))
  have HHD := hide (fun W (hW : Below w.heap.size w W) => heads_bad s n vp X.length vc cp cs.length cc lp ls.length lc er W hz (fun W' hW' => HR.out W' (HSUB.out W W' hW hW')))
  have HBY := hide (fun W (hW : Below w.heap.size w W) => byHeads_bad s n vp X.length vc cp cs.length cc lp ls.length lc er W hz (fun W' hW' => HR.out W' (HSUB.out W W' hW hW')))
  unfold NoRows at HHD
  unfold meth at HPR HHD HBY HFA
  clear hv hcv hl hz HR HSUB hs hs2
  generalize X.length = K at *
  generalize cs.length = C at *
  generalize ls.length = T at *
  have HB0 := hide ((Below.refl w.heap.size w).alloc (Nat.le_refl _) (mbox s n (.slice vp K vc)))
  obtain ⟨d0, d1, d2⟩ := mbox_cells w s n (.slice vp K vc)
  have g1 : ¬ 12 < (C : Int) := by omega
  have g3 : ¬ 500 < (T : Int) := by omega
  go_enter Try.func3, Try.ntmps3
  go_wp2_with fail
  refine (HMY.out _ HB0.out).mono ?_
  rintro e w1 ⟨rfl, hb1⟩
  have x1 : ∀ j, w1.cell? ⟨w.heap.size, j, none⟩ = (w.alloc (mbox s n (.slice vp K vc))).cell? ⟨w.heap.size, j, none⟩ := fun j => hb1.cell (p := ⟨w.heap.size, j, none⟩) (by simp)
  have hs0 : w.heap.size < w1.heap.size := Nat.lt_of_lt_of_le (by simp) hb1.size
  have m0 := (x1 0).trans d0
  have m1 := (x1 1).trans d1
  have m2 := (x1 2).trans d2
  have HB1 := hide (HB0.out.trans (hb1.mono HB0.out.size))
  clear hb1 x1 d0 d1 d2 HB0 HMY
  go_wp2_with fail
  refine (HPR.out _ HB1.out).mono ?_
  rintro e w2 ⟨rfl, hb2⟩
  have hbA2 : Below w1.heap.size w1 (w2.alloc (repC 0 false false 0 0)) := hb2.alloc hb2.size _
  have x2 : ∀ j', (w2.alloc (repC 0 false false 0 0)).cell? ⟨w.heap.size, j', none⟩ = w1.cell? ⟨w.heap.size, j', none⟩ := fun j' => hbA2.cell (p := ⟨w.heap.size, j', none⟩) hs0
  have n0 := (x2 0).trans m0
  have n1 := (x2 1).trans m1
  have n2 := (x2 2).trans m2
  have HB2 := hide (HB1.out.trans (hbA2.mono HB1.out.size))
  have HN2 := hide (heap_alloc_new w2 (repC 0 false false 0 0))
  have hsz2 : w2.heap.size < (w2.alloc (repC 0 false false 0 0)).heap.size := by simp
  have hs2 : w.heap.size < w2.heap.size := Nat.lt_of_lt_of_le hs0 hb2.size
  clear hb2 hbA2 x2 m0 m1 m2 HB1 HPR
  go_wp2_with fail
  refine (HHD.out _ HB2.out).mono ?_
  rintro e w3 ⟨rfl, hb3⟩
  change Below (w2.alloc (repC 0 false false 0 0)).heap.size (w2.alloc (repC 0 false false 0 0)) w3 at hb3
  have HK3 := hide ((hb3.block w2.heap.size hsz2).trans HN2.out)
  have x3 : ∀ j', w3.cell? ⟨w.heap.size, j', none⟩ = (w2.alloc (repC 0 false false 0 0)).cell? ⟨w.heap.size, j', none⟩ := fun j' => hb3.cell (p := ⟨w.heap.size, j', none⟩) (by show w.heap.size < _; omega)
  have m0 := (x3 0).trans n0
  have m1 := (x3 1).trans n1
  have m2 := (x3 2).trans n2
  have HB3 := hide (HB2.out.trans (hb3.mono HB2.out.size))
  have hs3 : w2.heap.size < w3.heap.size := Nat.lt_of_lt_of_le hsz2 hb3.size
  clear hb3 x3 n0 n1 n2 HB2 HHD HN2 hsz2
  go_wp2_with fail
  refine (HBY.out _ HB3.out).mono ?_
  rintro e w4 ⟨rfl, hb4⟩
  have x4 : ∀ j', w4.cell? ⟨w.heap.size, j', none⟩ = w3.cell? ⟨w.heap.size, j', none⟩ := fun j' => hb4.cell (p := ⟨w.heap.size, j', none⟩) (by show w.heap.size < _; omega)
  have n0 := (x4 0).trans m0
  have n1 := (x4 1).trans m1
  have n2 := (x4 2).trans m2
  have HB4 := hide (HB3.out.trans (hb4.mono HB3.out.size))
  have HK4 := hide ((hb4.block w2.heap.size hs3).trans HK3.out)
  have hs4 : w2.heap.size < w4.heap.size := Nat.lt_of_lt_of_le hs3 hb4.size
  have hee : (er != er) = false := by simp
  clear hb4 x4 m0 m1 m2 HB3 HK3 HBY hs3
  go_wp2_with fail
  refine (HFA.out _ HB4.out).mono ?_
  rintro e w5 ⟨u5, vs5, X5, t5, rfl, hpm5, hL5, hnd5, hb5⟩
  have HPM5 := hide hpm5
  have HND5 := hide hnd5
  have HI5 := hide hL5.ints
  have hl5 : vs5.length = X5.length := hL5.len
  obtain ⟨p5, c5, rfl⟩ := owns_slice hL5.row
  rw [hl5] at HI5 ⊢
  have x5 : ∀ j', w5.cell? ⟨w.heap.size, j', none⟩ = w4.cell? ⟨w.heap.size, j', none⟩ := fun j' => hb5.cell (p := ⟨w.heap.size, j', none⟩) (by show w.heap.size < _; omega)
  have m0 := (x5 0).trans n0
  have m1 := (x5 1).trans n1
  have m2 := (x5 2).trans n2
  have HB5 := hide (HB4.out.trans (hb5.mono HB4.out.size))
  have HK5 := hide ((hb5.block w2.heap.size hs4).trans HK4.out)
  have hs5 : w2.heap.size < w5.heap.size := Nat.lt_of_lt_of_le hs4 hb5.size
  clear hpm5 hnd5 hL5 hl5 hb5 x5 n0 n1 n2 HB4 HK4 HFA hs4
  go_wp2_with fail
  refine (HMM.out _ HB5.out).mono ?_
  rintro e w6 ⟨rfl, hb6⟩
  have x6 : ∀ j', w6.cell? ⟨w.heap.size, j', none⟩ = w5.cell? ⟨w.heap.size, j', none⟩ := fun j' => hb6.cell (p := ⟨w.heap.size, j', none⟩) (by show w.heap.size < _; omega)
  have n0 := (x6 0).trans m0
  have n1 := (x6 1).trans m1
  have n2 := (x6 2).trans m2
  have HB6 := hide (HB5.out.trans (hb6.mono HB5.out.size))
  have HK6 := hide ((hb6.block w2.heap.size hs5).trans HK5.out)
  have HI6 := hide (HI5.out.below hb6)
  have hs6 : w2.heap.size < w6.heap.size := Nat.lt_of_lt_of_le hs5 hb6.size
  clear hb6 x6 m0 m1 m2 HB5 HK5 HI5 HMM hs5
  go_wp2_with fail
  refine (HRF.out _ HB6.out).mono ?_
  rintro e w7 ⟨u7, X7, t7, rfl, hI7, hnd7, hri7, hme7, hb7⟩
  have htt : t7 = t5 := by
    have h9 := hnd7.trans HND5.out.symm
    cases t5 <;> cases t7 <;> simp_all
  have hXX : X5 = X7 := by
    obtain ⟨pm, so⟩ := HPM5.out
    have hf := hdsTo_fact Nn (pr (ldr Nn ts))
    have hr5 : Ris X5 := so.imp (fun {a b} h => by rw [blw_lcmp]; exact decide_eq_false (Int.not_lt.2 h))
    refine rising_eq (hr5.rising (pm.nodup_iff.2 hf.1)) hri7 (fun x => ?_)
    rw [pm.mem_iff, hme7]
    exact hf.2.1 x
  subst htt hXX
  have HB7 := hide (HB6.out.trans (hb7.mono HB6.out.size))
  have HK7 := hide ((hb7.block w2.heap.size hs6).trans HK6.out)
  have HSA0 := hide (sameAll_any _ _ _ _ w7 (HI6.out.below hb7) hI7)
  have HSA : Hid (Calls Try.prog 14 #[.slice p5 X5.length c5, u7] w7 fun e w' => e = .returned (.bool true) ∧ Below w7.heap.size w7 w') := HSA0.out.mono (fun e w' h => ⟨h.1.trans (by simp), h.2⟩)
  obtain ⟨p7, c7, rfl⟩ := hI7.len
  have hs7 : w2.heap.size < w7.heap.size := Nat.lt_of_lt_of_le hs6 hb7.size
  clear hI7 hnd7 hri7 hme7 hb7 n0 n1 n2 HB6 HK6 HI6 HRF HPM5 HND5 HSA0 hs6
  go_wp2_with fail
  refine HSA.out.mono ?_
  rintro e w8 ⟨rfl, hb8⟩
  have HB8 := hide (HB7.out.trans (hb8.mono HB7.out.size))
  have HK8 := hide ((hb8.block w2.heap.size hs7).trans HK7.out)
  have htn : (t7 != t7) = false := by simp
  obtain ⟨z0, z1, z2, z3, z4, _⟩ := cells5 HK8.out
  clear hb8 HB7 HK7 HSA hs7 HK8
  go_wp2
  go_ret
  exact ⟨by simp, HB8.out⟩

set_option maxHeartbeats 4000000 in
theorem truthSays_gbb (s : ByteArray) (n : Int) (vp : Option Addr) (vc : Nat) (X : List (List Int)) (cp : Option Addr) (cc : Nat) (cs : List Cl) (lp : Option Addr) (lc : Nat) (ls : List Int) (w : World) (hs : s.size ≤ 1048576)
    (hv : IntsAll w (.slice vp X.length vc) X) (hcv : CallsIn w (.slice cp cs.length cc) cs) (hl : Ints w (.slice lp ls.length lc) ls) (hz : tErr s n X cs ls ≠ 0) (hm : mErr s n X = 0)
    (k1 : cs.length ≤ 12) (k3 : ls.length ≤ 500) (gT : 60 < (ls.length : Int)) (gT2 : ¬ (ls.length : Int) < 401) (gK : 40 < (X.length : Int)) (gK2 : ¬ (X.length : Int) < 201) :
    Calls Try.prog 3 #[.agg #[.string s, .int .i64 n, .slice vp X.length vc], .slice cp cs.length cc, .slice lp ls.length lc] w fun e w' => e = .returned (.bool true) ∧ Below w.heap.size w w' := by
  have hs2 : s.size ≤ 9223372036854775807 := Nat.le_trans hs (by omega)
  have HR : Hid (∀ W, Below w.heap.size w W → Calls Try.prog 25 #[meth s n (.slice vp X.length vc), .slice cp cs.length cc, .slice lp ls.length lc] W (NoRows (tErr s n X cs ls) W)) := fun W hW => rows_bad s n vp vc X _ cs _ ls W hs2 (hv.below hW) (hcv.below hW) (hl.below hW) hz
  have HMY := hide (fun W (hW : Below w.heap.size w W) => rtmay_all s n vp vc X _ cs _ ls W hs (hv.below hW) (hcv.below hW) (hl.below hW))
  have HMM := hide (fun W (hW : Below w.heap.size w W) => rmay_all s n _ X W hs (hv.below hW))
  obtain ⟨Nn, ts, hne, hXe, hnm, a1, a2, a3, a4, a5⟩ := mErr_zero hm
  rw [hm] at HMM
  have hXl : X.length = ts.length := by rw [hXe, List.length_map]
  have HFA : Hid (∀ W, Below w.heap.size w W → Calls Try.prog 11 #[meth s n (.slice vp X.length vc)] W (FalsePost Nn ts W)) := fun W hW => by
    rw [hne]
    exact false_ok s Nn _ ts W hs2 hnm a1 a2 a3 a4 a5 (by have := hv.below hW; rw [← hXe]; exact this)
  have HRF : Hid (∀ W, Below w.heap.size w W → Calls Try.prog 13 #[.agg #[.string s, .int .i64 n, .slice vp X.length vc]] W (RFPost Nn (ldr Nn ts) W)) := fun W hW => by
    rw [hXl, hne]
    exact rfalse_ok s Nn vp vc ts W a1 a2 a3 a4 a5 (by have := hv.below hW; rw [hXl, hXe] at this; exact this)
  have HXE := hide hXe
  clear hm a3 a4 a5 hnm hXl hXe hne

  have HSUB : Hid (∀ W W', Below w.heap.size w W → Below W.heap.size W W' → Below w.heap.size w W') := fun W W' h1 h2 => h1.trans (h2.mono h1.size)
  have hzz : (tErr s n X cs ls != 0) = true := by simpa using hz
  have hze : (tErr s n X cs ls == 0) = false := by rw [beq_eq_false_iff_ne]; exact hz
  generalize tErr s n X cs ls = er at *
  have HPR := hide (fun W (hW : Below w.heap.size w W) => prove_bad s n vp X.length vc cp cs.length cc lp ls.length lc er W hz (fun W' hW' => HR.out W' (HSUB.out W W' hW hW')))
  have HHD := hide (fun W (hW : Below w.heap.size w W) => heads_bad s n vp X.length vc cp cs.length cc lp ls.length lc er W hz (fun W' hW' => HR.out W' (HSUB.out W W' hW hW')))
  have HBY := hide (fun W (hW : Below w.heap.size w W) => byHeads_bad s n vp X.length vc cp cs.length cc lp ls.length lc er W hz (fun W' hW' => HR.out W' (HSUB.out W W' hW hW')))
  unfold NoRows at HHD
  unfold meth at HPR HHD HBY HFA
  clear hv hcv hl hz HR HSUB hs hs2
  generalize X.length = K at *
  generalize cs.length = C at *
  generalize ls.length = T at *
  have HB0 := hide ((Below.refl w.heap.size w).alloc (Nat.le_refl _) (mbox s n (.slice vp K vc)))
  obtain ⟨d0, d1, d2⟩ := mbox_cells w s n (.slice vp K vc)
  have g1 : ¬ 12 < (C : Int) := by omega
  have g3 : ¬ 500 < (T : Int) := by omega
  go_enter Try.func3, Try.ntmps3
  go_wp2_with fail
  refine (HMY.out _ HB0.out).mono ?_
  rintro e w1 ⟨rfl, hb1⟩
  have x1 : ∀ j, w1.cell? ⟨w.heap.size, j, none⟩ = (w.alloc (mbox s n (.slice vp K vc))).cell? ⟨w.heap.size, j, none⟩ := fun j => hb1.cell (p := ⟨w.heap.size, j, none⟩) (by simp)
  have hs0 : w.heap.size < w1.heap.size := Nat.lt_of_lt_of_le (by simp) hb1.size
  have m0 := (x1 0).trans d0
  have m1 := (x1 1).trans d1
  have m2 := (x1 2).trans d2
  have HB1 := hide (HB0.out.trans (hb1.mono HB0.out.size))
  clear hb1 x1 d0 d1 d2 HB0 HMY
  go_wp2_with fail
  refine (HPR.out _ HB1.out).mono ?_
  rintro e w2 ⟨rfl, hb2⟩
  have hbA2 : Below w1.heap.size w1 (w2.alloc (repC 0 false false 0 0)) := hb2.alloc hb2.size _
  have x2 : ∀ j', (w2.alloc (repC 0 false false 0 0)).cell? ⟨w.heap.size, j', none⟩ = w1.cell? ⟨w.heap.size, j', none⟩ := fun j' => hbA2.cell (p := ⟨w.heap.size, j', none⟩) hs0
  have n0 := (x2 0).trans m0
  have n1 := (x2 1).trans m1
  have n2 := (x2 2).trans m2
  have HB2 := hide (HB1.out.trans (hbA2.mono HB1.out.size))
  have HN2 := hide (heap_alloc_new w2 (repC 0 false false 0 0))
  have hsz2 : w2.heap.size < (w2.alloc (repC 0 false false 0 0)).heap.size := by simp
  have hs2 : w.heap.size < w2.heap.size := Nat.lt_of_lt_of_le hs0 hb2.size
  clear hb2 hbA2 x2 m0 m1 m2 HB1 HPR
  go_wp2_with fail
  refine (HHD.out _ HB2.out).mono ?_
  rintro e w3 ⟨rfl, hb3⟩
  change Below (w2.alloc (repC 0 false false 0 0)).heap.size (w2.alloc (repC 0 false false 0 0)) w3 at hb3
  have HK3 := hide ((hb3.block w2.heap.size hsz2).trans HN2.out)
  have x3 : ∀ j', w3.cell? ⟨w.heap.size, j', none⟩ = (w2.alloc (repC 0 false false 0 0)).cell? ⟨w.heap.size, j', none⟩ := fun j' => hb3.cell (p := ⟨w.heap.size, j', none⟩) (by show w.heap.size < _; omega)
  have m0 := (x3 0).trans n0
  have m1 := (x3 1).trans n1
  have m2 := (x3 2).trans n2
  have HB3 := hide (HB2.out.trans (hb3.mono HB2.out.size))
  have hs3 : w2.heap.size < w3.heap.size := Nat.lt_of_lt_of_le hsz2 hb3.size
  clear hb3 x3 n0 n1 n2 HB2 HHD HN2 hsz2
  go_wp2_with fail
  refine (HBY.out _ HB3.out).mono ?_
  rintro e w4 ⟨rfl, hb4⟩
  have x4 : ∀ j', w4.cell? ⟨w.heap.size, j', none⟩ = w3.cell? ⟨w.heap.size, j', none⟩ := fun j' => hb4.cell (p := ⟨w.heap.size, j', none⟩) (by show w.heap.size < _; omega)
  have n0 := (x4 0).trans m0
  have n1 := (x4 1).trans m1
  have n2 := (x4 2).trans m2
  have HB4 := hide (HB3.out.trans (hb4.mono HB3.out.size))
  have HK4 := hide ((hb4.block w2.heap.size hs3).trans HK3.out)
  have hs4 : w2.heap.size < w4.heap.size := Nat.lt_of_lt_of_le hs3 hb4.size
  have hee : (er != er) = false := by simp
  clear hb4 x4 m0 m1 m2 HB3 HK3 HBY hs3
  go_wp2_with fail
  refine (HFA.out _ HB4.out).mono ?_
  rintro e w5 ⟨u5, vs5, X5, t5, rfl, hpm5, hL5, hnd5, hb5⟩
  have HPM5 := hide hpm5
  have HND5 := hide hnd5
  have HI5 := hide hL5.ints
  have hl5 : vs5.length = X5.length := hL5.len
  obtain ⟨p5, c5, rfl⟩ := owns_slice hL5.row
  rw [hl5] at HI5 ⊢
  have x5 : ∀ j', w5.cell? ⟨w.heap.size, j', none⟩ = w4.cell? ⟨w.heap.size, j', none⟩ := fun j' => hb5.cell (p := ⟨w.heap.size, j', none⟩) (by show w.heap.size < _; omega)
  have m0 := (x5 0).trans n0
  have m1 := (x5 1).trans n1
  have m2 := (x5 2).trans n2
  have HB5 := hide (HB4.out.trans (hb5.mono HB4.out.size))
  have HK5 := hide ((hb5.block w2.heap.size hs4).trans HK4.out)
  have hs5 : w2.heap.size < w5.heap.size := Nat.lt_of_lt_of_le hs4 hb5.size
  clear hpm5 hnd5 hL5 hl5 hb5 x5 n0 n1 n2 HB4 HK4 HFA hs4
  go_wp2_with fail
  refine (HMM.out _ HB5.out).mono ?_
  rintro e w6 ⟨rfl, hb6⟩
  have x6 : ∀ j', w6.cell? ⟨w.heap.size, j', none⟩ = w5.cell? ⟨w.heap.size, j', none⟩ := fun j' => hb6.cell (p := ⟨w.heap.size, j', none⟩) (by show w.heap.size < _; omega)
  have n0 := (x6 0).trans m0
  have n1 := (x6 1).trans m1
  have n2 := (x6 2).trans m2
  have HB6 := hide (HB5.out.trans (hb6.mono HB5.out.size))
  have HK6 := hide ((hb6.block w2.heap.size hs5).trans HK5.out)
  have HI6 := hide (HI5.out.below hb6)
  have hs6 : w2.heap.size < w6.heap.size := Nat.lt_of_lt_of_le hs5 hb6.size
  clear hb6 x6 m0 m1 m2 HB5 HK5 HI5 HMM hs5
  go_wp2_with fail
  refine (HRF.out _ HB6.out).mono ?_
  rintro e w7 ⟨u7, X7, t7, rfl, hI7, hnd7, hri7, hme7, hb7⟩
  have htt : t7 = t5 := by
    have h9 := hnd7.trans HND5.out.symm
    cases t5 <;> cases t7 <;> simp_all
  have hXX : X5 = X7 := by
    obtain ⟨pm, so⟩ := HPM5.out
    have hf := hdsTo_fact Nn (pr (ldr Nn ts))
    have hr5 : Ris X5 := so.imp (fun {a b} h => by rw [blw_lcmp]; exact decide_eq_false (Int.not_lt.2 h))
    refine rising_eq (hr5.rising (pm.nodup_iff.2 hf.1)) hri7 (fun x => ?_)
    rw [pm.mem_iff, hme7]
    exact hf.2.1 x
  subst htt hXX
  have HB7 := hide (HB6.out.trans (hb7.mono HB6.out.size))
  have HK7 := hide ((hb7.block w2.heap.size hs6).trans HK6.out)
  have HSA0 := hide (sameAll_any _ _ _ _ w7 (HI6.out.below hb7) hI7)
  have HSA : Hid (Calls Try.prog 14 #[.slice p5 X5.length c5, u7] w7 fun e w' => e = .returned (.bool true) ∧ Below w7.heap.size w7 w') := HSA0.out.mono (fun e w' h => ⟨h.1.trans (by simp), h.2⟩)
  obtain ⟨p7, c7, rfl⟩ := hI7.len
  have hs7 : w2.heap.size < w7.heap.size := Nat.lt_of_lt_of_le hs6 hb7.size
  clear hI7 hnd7 hri7 hme7 hb7 n0 n1 n2 HB6 HK6 HI6 HRF HPM5 HND5 HSA0 hs6
  go_wp2_with fail
  refine HSA.out.mono ?_
  rintro e w8 ⟨rfl, hb8⟩
  have HB8 := hide (HB7.out.trans (hb8.mono HB7.out.size))
  have HK8 := hide ((hb8.block w2.heap.size hs7).trans HK7.out)
  have htn : (t7 != t7) = false := by simp
  obtain ⟨z0, z1, z2, z3, z4, _⟩ := cells5 HK8.out
  clear hb8 HB7 HK7 HSA hs7 HK8
  go_wp2
  go_ret
  exact ⟨by simp, HB8.out⟩

end Go.Proofs.Ytoiiadiimfohiaa
