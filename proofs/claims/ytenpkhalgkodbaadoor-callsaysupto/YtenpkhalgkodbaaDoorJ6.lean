/- Joined: MdC, MdD, XtA, CpC. -/
import Derived.Test.YtenpkhalgkodbaaDoorJ5
import Derived.Test.YtenpkhalgkodbaaDoorJ0
import Derived.BigQuiet
/- What is wrong with calls and leads; contracts at every call: call.checkOne. -/
namespace Go.Proofs.YtenpkhalgkodbaaDoor
open Go.RowKit
set_option maxRecDepth 20000
set_option linter.unusedVariables false

/-- A call: its sign and its changes. -/
abbrev Cl := Int × List (List Int)

/-- What is wrong with a call behind others. -/
def oErr (n : Int) (K : Nat) (ah : List Cl) (c : Cl) : Int :=
  if sgnR c.1 = true then (if c.1 ∈ ah.map Prod.fst then 8 else if K < c.2.length then 1 else fstE n c.2) else 4

def cFst (n : Int) (K : Nat) : List Cl → List Cl → Int
  | _, [] => 0
  | ah, c :: r => if oErr n K ah c = 0 then cFst n K (ah ++ [c]) r else oErr n K ah c

theorem cl_at {cs : List Cl} {j : Nat} (h : j < cs.length) : cs.drop j = cs.getD j (0, []) :: cs.drop (j + 1) ∧ cs.take (j + 1) = cs.take j ++ [cs.getD j (0, [])] := by
  have e : cs.getD j (0, []) = cs[j] := by simp [List.getD, h]
  rw [e]
  exact ⟨List.drop_eq_getElem_cons h, List.take_succ_eq_append_getElem h⟩

theorem cFst_ok {n : Int} {K : Nat} {cs : List Cl} {j : Nat} (h : j < cs.length) (hz : oErr n K (cs.take j) (cs.getD j (0, [])) = 0) : cFst n K (cs.take j) (cs.drop j) = cFst n K (cs.take (j + 1)) (cs.drop (j + 1)) := by
  rw [(cl_at h).1, (cl_at h).2, cFst, if_pos hz]

theorem cFst_bad {n : Int} {K : Nat} {cs : List Cl} {j : Nat} (h : j < cs.length) (hz : oErr n K (cs.take j) (cs.getD j (0, [])) ≠ 0) : cFst n K (cs.take j) (cs.drop j) = oErr n K (cs.take j) (cs.getD j (0, [])) := by
  rw [(cl_at h).1, cFst, if_neg hz]

/-- What is wrong with calls. -/
def cErr (s : ByteArray) (n : Int) (X : List (List Int)) (cs : List Cl) : Int :=
  if mErr s n X = 0 then (if cs.length < 1 ∨ 8 < cs.length then 1 else cFst n X.length [] cs) else mErr s n X

/-- What is wrong with leads. -/
def lErr (C : Nat) (ls : List Int) : Int :=
  if ls.length < 1 ∨ 400 < ls.length then 1 else if ∀ l, l ∈ ls → 0 ≤ l ∧ l < (C : Int) then 0 else 12

/-- What is wrong with a touch. -/
def tErr (s : ByteArray) (n : Int) (X : List (List Int)) (cs : List Cl) (ls : List Int) : Int :=
  if cErr s n X cs = 0 then (if lErr cs.length ls = 0 then (if 20000 < ls.length * X.length then 3 else 0) else lErr cs.length ls) else cErr s n X cs

/-- Calls in memory, none too. -/
def CallsIn (w : World) (v : Value) (cs : List Cl) : Prop := (cs = [] ∧ ∃ p c, v = .slice p 0 c) ∨ (1 ≤ cs.length ∧ CallsAt w v cs)

theorem CallsIn.below {w w' : World} {v : Value} {cs : List Cl} (h : CallsIn w v cs) (hb : Below w.heap.size w w') : CallsIn w' v cs := by
  rcases h with h | ⟨h1, h2⟩
  · exact Or.inl h
  · exact Or.inr ⟨h1, h2.below hb⟩

theorem CallsIn.form {w : World} {v : Value} {cs : List Cl} (h : CallsIn w v cs) : ∃ p c, v = .slice p cs.length c := by
  rcases h with ⟨rfl, p, c, rfl⟩ | ⟨h1, b, off, cap, rfl, _⟩
  · exact ⟨p, c, rfl⟩
  · exact ⟨_, cap, rfl⟩

set_option maxHeartbeats 1000000 in
theorem isSign_any (r s : Int) (u : Value) (B : Nat) (w : World) (hB : w.cell? ⟨B, 0, none⟩ = some (.int .i32 s)) (hb : B < w.heap.size) :
    Calls Tryd.prog 72 #[.agg #[.int .i32 r, u], .pointer (some ⟨B, 0, none⟩)] w fun e w' => e = .returned (.bool (r == s)) ∧ Below w.heap.size w w' := by
  have hB1 : Below w.heap.size w (w.alloc (.cells #[.int .i32 r, u] 50)) := (Below.refl _ _).alloc (Nat.le_refl _) _
  have g1 : (w.alloc (.cells #[.int .i32 r, u] 50)).cell? ⟨B, 0, none⟩ = some (.int .i32 s) := (hB1.cell (p := ⟨B, 0, none⟩) hb).trans hB
  have g2 : (w.alloc (.cells #[.int .i32 r, u] 50)).cell? ⟨w.heap.size, 0, none⟩ = some (.int .i32 r) := by
    have h9 := heap_alloc_new w (.cells #[.int .i32 r, u] 50)
    unfold World.cell?
    simp only [h9]
    rfl
  clear hB
  generalize hq : (r == s) = q at *
  go_enter Tryd.func72, Tryd.ntmps72
  go_wp2
  go_ret
  exact ⟨rfl, hB1⟩

set_option maxHeartbeats 1000000 in
theorem indexSign_any (s : Int) (B : Nat) (b off cap : Nat) (sg : List Int) (w : World) (hB : w.cell? ⟨B, 0, none⟩ = some (.int .i32 s)) (hb : B < w.heap.size) (hbl : b < w.heap.size)
    (hcell : ∀ k, k < sg.length → ∃ u, w.cell? ⟨b, off + k * 2, none⟩ = some (.int .i32 (sg.getD k 0)) ∧ w.cell? ⟨b, off + k * 2 + 1, none⟩ = some u ∧ u.oneCell' = true) (hm3 : sg.length ≤ 1000) :
    Calls Tryd.prog 71 #[.slice (some ⟨b, off, none⟩) sg.length cap, .func (.func 72) #[] #[.pointer (some ⟨B, 0, none⟩)]] w fun e w' => (∃ i : Int, e = .returned (.int .i64 i) ∧ (0 ≤ i ↔ s ∈ sg)) ∧ Below w.heap.size w w' := by
  have HC := hide hcell
  have HB := hide hB
  obtain ⟨m, hm⟩ : ∃ m, Hid (sg.length = m) := ⟨_, rfl⟩
  rw [hm.out] at HC hm3 ⊢
  clear hcell hB
  go_enter Tryd.func71, Tryd.ntmps71
  go_wp2
  go_loopw [8] (fun i wr => ∃ k : Nat, k ≤ m ∧ i = .int .i64 k ∧ Hid (∀ j, j < k → sg.getD j 0 ≠ s) ∧ Below w.heap.size w wr) (fun i _ => m - (intOf i).toNat)
  case atStart => exact ⟨0, by omega, rfl, (fun j hj => absurd hj (by omega)), Below.refl _ _⟩
  case round =>
    obtain ⟨k, hk, rfl, hN, hbw⟩ := hrel
    have hbs := hbw.size
    by_cases hlt : k < m
    · obtain ⟨u, a1, a2, a4⟩ := HC.out k hlt
      have g1 : wr.cell? ⟨b, off + k * 2, none⟩ = some (.int .i32 (sg.getD k 0)) := (hbw.cell (by exact hbl)).trans a1
      have g2 : wr.cell? ⟨b, off + k * 2 + 1, none⟩ = some u := (hbw.cell (p := ⟨b, off + k * 2 + 1, none⟩) (by exact hbl)).trans a2
      have HK := hide (isSign_any (sg.getD k 0) s u B wr ((hbw.cell (p := ⟨B, 0, none⟩) hb).trans HB.out) (by omega))
      clear a1 a2
      by_cases he : sg.getD k 0 = s
      · have HI : Hid (s ∈ sg) := by
          have hk' : k < sg.length := by rw [hm.out]; exact hlt
          show s ∈ sg
          rw [← he, List.getD, List.getElem?_eq_getElem hk', Option.getD_some]
          exact List.getElem_mem _
        rw [show (sg.getD k 0 == s) = true from by simpa using he] at HK
        clear he hN
        generalize sg.getD k 0 = r at *
        go_wp2_with fail
        refine HK.out.mono ?_
        rintro e w2 ⟨rfl, hb2⟩
        have hB2 : Below w.heap.size w w2 := hbw.trans (hb2.mono hbs)
        clear hb2
        go_wp2
        go_ret
        exact ⟨⟨(k : Int), rfl, ⟨fun _ => HI.out, fun _ => by omega⟩⟩, hB2⟩
      · rw [show (sg.getD k 0 == s) = false from by rw [beq_eq_false_iff_ne]; exact he] at HK
        have HN2 : Hid (∀ j, j < k + 1 → sg.getD j 0 ≠ s) := fun j hj => by
          rcases Nat.lt_succ_iff_lt_or_eq.1 hj with h | h
          · exact hN.out j h
          · rw [h]; exact he
        clear he hN
        generalize sg.getD k 0 = r at *
        go_wp2_with fail
        refine HK.out.mono ?_
        rintro e w2 ⟨rfl, hb2⟩
        have hB2 : Below w.heap.size w w2 := hbw.trans (hb2.mono hbs)
        clear hb2
        go_wp2
        go_roundw
        case rel => exact ⟨k + 1, by omega, by go_num, HN2, hB2⟩
        case measure => simp [intOf]; omega
    · have HNI : Hid (¬ s ∈ sg) := fun h => by
        obtain ⟨j, hj, e⟩ := List.getElem_of_mem h
        have := hN.out j (by rw [hm.out] at hj; omega)
        rw [List.getD, List.getElem?_eq_getElem hj, Option.getD_some] at this
        exact this e
      clear hN
      go_wp2
      go_ret
      exact ⟨⟨-1, rfl, ⟨fun h => absurd h (by omega), fun h => absurd h HNI.out⟩⟩, hbw⟩

set_option maxHeartbeats 1000000 in
theorem find_all (s : Int) (b off cap : Nat) (sg : List Int) (w : World) (hbl : b < w.heap.size)
    (hcell : ∀ k, k < sg.length → ∃ u, w.cell? ⟨b, off + k * 2, none⟩ = some (.int .i32 (sg.getD k 0)) ∧ w.cell? ⟨b, off + k * 2 + 1, none⟩ = some u ∧ u.oneCell' = true) (hm3 : sg.length ≤ 1000) :
    Calls Tryd.prog 49 #[.slice (some ⟨b, off, none⟩) sg.length cap, .int .i32 s] w fun e w' => (∃ i : Int, e = .returned (.int .i64 i) ∧ (0 ≤ i ↔ s ∈ sg)) ∧ Below w.heap.size w w' := by
  have hmf : ∀ (fn : Fn) (first cap : Array Value) (w : World), (Instr.makeFunc fn first cap).run Tryd.prog w = .ok (.func fn first cap) w := fun _ _ _ _ => rfl
  have hB1 : Below w.heap.size w (w.alloc (.cells #[.int .i32 s] 21)) := (Below.refl _ _).alloc (Nat.le_refl _) _
  have h9 := heap_alloc_new w (.cells #[.int .i32 s] 21)
  have HI := hide (indexSign_any s w.heap.size b off cap sg (w.alloc (.cells #[.int .i32 s] 21)) (by unfold World.cell?; simp only [h9]; rfl) (by simp) (by simp; omega) (fun k hk => by
    obtain ⟨u, a1, a2, a3⟩ := hcell k hk
    exact ⟨u, (hB1.cell (p := ⟨b, off + k * 2, none⟩) hbl).trans a1, (hB1.cell (p := ⟨b, off + k * 2 + 1, none⟩) hbl).trans a2, a3⟩) hm3)
  obtain ⟨m, hm⟩ : ∃ m, Hid (sg.length = m) := ⟨_, rfl⟩
  rw [hm.out] at HI ⊢
  clear hcell h9 hm3
  go_enter Tryd.func49, Tryd.ntmps49
  go_wp2_with fail
  refine HI.out.mono ?_
  rintro e w2 ⟨⟨i, rfl, hi⟩, hb2⟩
  have hB2 : Below w.heap.size w w2 := hB1.trans (hb2.mono (by simp))
  have HII := hide hi
  clear hb2 hB1 hi
  go_wp2
  go_ret
  exact ⟨⟨i, rfl, HII.out⟩, hB2⟩

set_option maxHeartbeats 4000000 in
theorem checkOne_all (sn : ByteArray) (n : Int) (vp : Option Addr) (k vc : Nat) (s : Int) (cv : Value) (css : List (List Int)) (b off cap : Nat) (ah : List Cl) (w : World) (hbl : b < w.heap.size)
    (hcell : ∀ k, k < ah.length → ∃ u, w.cell? ⟨b, off + k * 2, none⟩ = some (.int .i32 (ah.getD k (0, [])).1) ∧ w.cell? ⟨b, off + k * 2 + 1, none⟩ = some u ∧ u.oneCell' = true) (hm3 : ah.length ≤ 1000) (hcv : IntsAll w cv css) :
    Calls Tryd.prog 26 #[meth sn n (.slice vp k vc), .slice (some ⟨b, off, none⟩) ah.length cap, .agg #[.int .i32 s, cv]] w fun e w' => e = .returned (.int .i64 (oErr n k ah (s, css))) ∧ Below w.heap.size w w' := by
  obtain ⟨cp, cc, rfl⟩ := hcv.len
  have hBW : Below w.heap.size w ((w.alloc (.cells #[.string sn, .int .i64 n, .slice vp k vc] 24)).alloc (.cells #[.int .i32 s, .slice cp css.length cc] 50)) := ((Below.refl _ _).alloc (Nat.le_refl _) _).alloc (by simp) _
  have hbox := ((Box.start w sn n (.slice vp k vc) 24).below ((Below.refl _ _).alloc (Nat.le_refl _) (.cells #[.int .i32 s, .slice cp css.length cc] 50)))
  have h9 := heap_alloc_new (w.alloc (.cells #[.string sn, .int .i64 n, .slice vp k vc] 24)) (.cells #[.int .i32 s, .slice cp css.length cc] 50)
  rw [show (w.alloc (.cells #[.string sn, .int .i64 n, .slice vp k vc] 24)).heap.size = w.heap.size + 1 from by simp] at h9
  have c0 : ((w.alloc (.cells #[.string sn, .int .i64 n, .slice vp k vc] 24)).alloc (.cells #[.int .i32 s, .slice cp css.length cc] 50)).cell? ⟨w.heap.size + 1, 0, none⟩ = some (.int .i32 s) := by
    unfold World.cell?; simp only [h9]; rfl
  have c1 : ((w.alloc (.cells #[.string sn, .int .i64 n, .slice vp k vc] 24)).alloc (.cells #[.int .i32 s, .slice cp css.length cc] 50)).cell? ⟨w.heap.size + 1, 1, none⟩ = some (.slice cp css.length cc) := by
    unfold World.cell?; simp only [h9]; rfl
  have HSG := hide (fun W => sign_any s W)
  have HFD := hide (fun W (hb : Below w.heap.size w W) => find_all s b off cap (ah.map Prod.fst) W (Nat.lt_of_lt_of_le hbl hb.size) (fun k hk => by
    have hk' : k < ah.length := by simpa using hk
    obtain ⟨u, a1, a2, a3⟩ := hcell k hk'
    have e : (ah.map Prod.fst).getD k 0 = (ah.getD k (0, [])).1 := by simp [List.getD, hk']
    rw [e]
    exact ⟨u, (hb.cell (p := ⟨b, off + k * 2, none⟩) hbl).trans a1, (hb.cell (p := ⟨b, off + k * 2 + 1, none⟩) hbl).trans a2, a3⟩) (by rw [List.length_map]; exact hm3))
  rw [List.length_map] at HFD
  have HCV := hide hcv
  have HBX := hide hbox
  obtain ⟨m, hm⟩ : ∃ m, Hid (ah.length = m) := ⟨_, rfl⟩
  rw [hm.out] at HFD ⊢
  obtain ⟨N, hN⟩ : ∃ N, Hid (css.length = N) := ⟨_, rfl⟩
  rw [hN.out] at hBW c0 c1 HBX ⊢
  clear hcell hcv h9 hbox hm3
  unfold meth
  unfold oErr
  rw [hN.out]
  cases hsg : sgnR s with
  | false =>
    rw [if_neg (by simp)]
    rw [hsg] at HSG
    clear hsg
    go_enter Tryd.func26, Tryd.ntmps26
    go_wp2_with fail
    refine (HSG.out _).mono ?_
    rintro e w' ⟨rfl, rfl⟩
    go_wp2
    go_ret
    exact ⟨rfl, hBW⟩
  | true =>
    rw [if_pos rfl]
    rw [hsg] at HSG
    clear hsg
    by_cases hin : s ∈ ah.map Prod.fst
    · rw [if_pos hin]
      have HIN := hide hin
      clear hin
      go_enter Tryd.func26, Tryd.ntmps26
      go_wp2_with fail
      refine (HSG.out _).mono ?_
      rintro e w' ⟨rfl, rfl⟩
      go_wp2_with fail
      refine (HFD.out _ hBW).mono ?_
      rintro e w2 ⟨⟨i, rfl, hi⟩, hb2⟩
      have hi0 : 0 ≤ i := hi.2 HIN.out
      have HB2 := hide (hBW.trans (hb2.mono hBW.size))
      clear hi hb2 c0 c1 HSG HFD HBX
      go_wp2
      go_ret
      exact ⟨rfl, HB2.out⟩
    · rw [if_neg hin]
      have HIN := hide hin
      clear hin
      by_cases hkl : k < N
      · rw [if_pos hkl]
        have hgd : decide (((k : Nat) : Int) < ((N : Nat) : Int)) = true := decide_eq_true (by omega)
        have hgn : decide (k < N) = true := decide_eq_true hkl
        have hgi : (k : Int) < (N : Int) := by omega
        go_enter Tryd.func26, Tryd.ntmps26
        go_wp2_with fail
        refine (HSG.out _).mono ?_
        rintro e w' ⟨rfl, rfl⟩
        go_wp2_with fail
        refine (HFD.out _ hBW).mono ?_
        rintro e w2 ⟨⟨i, rfl, hi⟩, hb2⟩
        have hi0 : ¬ 0 ≤ i := fun h => HIN.out (hi.1 h)
        have HB2 := hide (hBW.trans (hb2.mono hBW.size))
        have d1 : w2.cell? ⟨w.heap.size + 1, 1, none⟩ = some (.slice cp N cc) := (hb2.cell (p := ⟨w.heap.size + 1, 1, none⟩) (by simp)).trans c1
        have e2 := (HBX.out.below hb2).c2
        clear hi hb2 c0 c1 HSG HFD HBX
        go_wp2
        go_ret
        exact ⟨rfl, HB2.out⟩
      · rw [if_neg hkl]
        obtain ⟨E, hE⟩ : ∃ E, Hid (fstE n css = E) := ⟨_, rfl⟩
        rw [hE.out]
        have hgd : decide (((k : Nat) : Int) < ((N : Nat) : Int)) = false := decide_eq_false (by omega)
        have hgn : decide (k < N) = false := decide_eq_false hkl
        go_enter Tryd.func26, Tryd.ntmps26
        go_wp2_with fail
        refine (HSG.out _).mono ?_
        rintro e w' ⟨rfl, rfl⟩
        go_wp2_with fail
        refine (HFD.out _ hBW).mono ?_
        rintro e w2 ⟨⟨i, rfl, hi⟩, hb2⟩
        have hi0 : ¬ 0 ≤ i := fun h => HIN.out (hi.1 h)
        have hB2 : Below w.heap.size w w2 := hBW.trans (hb2.mono hBW.size)
        have d1 : w2.cell? ⟨w.heap.size + 1, 1, none⟩ = some (.slice cp N cc) := (hb2.cell (p := ⟨w.heap.size + 1, 1, none⟩) (by simp)).trans c1
        have hx2 := HBX.out.below hb2
        have e1 := hx2.c1
        have e2 := hx2.c2
        have HB2 := hide hB2
        have HE1 := hide e1
        clear c0 c1 hb2 HSG HFD hBW HBX hx2 hB2 hkl hi
        go_wp2
        go_loopw [32] (fun i wr => ∃ j : Nat, j ≤ N ∧ i = .int .i64 j ∧ Hid (E = fstE n (css.drop j)) ∧ Hid (Below w.heap.size w wr) ∧ Hid (wr.cell? ⟨w.heap.size, 1, none⟩ = some (.int .i64 n))) (fun i _ => N - (intOf i).toNat)
        case atStart => exact ⟨0, by omega, rfl, hE.out.symm, HB2, HE1⟩
        case round =>
          clear e1 HB2 HE1 d1 e2
          obtain ⟨j, hj, rfl, hEk, hbw, hen⟩ := hrel
          have hB2 := hbw.out
          have e1 := hen.out
          by_cases hlt : j < N
          · have hjX : j < css.length := by rw [hN.out]; exact hlt
            obtain ⟨b3, off3, cap3, he, hb3, hlc3, hcm3, hcell3⟩ := (HCV.out.below hB2).cell (by rw [hN.out]; omega)
            rw [hN.out] at he hlc3 hcell3
            simp only [Value.slice.injEq] at he
            obtain ⟨rfl, he2, rfl⟩ := he
            clear he2
            obtain ⟨q, c, hce, hint⟩ := hcell3 j hlt
            have HPC := hide (pcheck_all n _ _ _ hint.out)
            clear hint hcell3
            by_cases hz : pc n (css.getD j []) = 0
            · have HEN : Hid (E = fstE n (css.drop (j + 1))) := hEk.out.trans (fstE_ok hjX hz)
              rw [hz] at HPC
              clear hz hEk
              generalize (css.getD j []).length = pl at hce HPC
              go_wp2_with fail
              refine HPC.out.mono ?_
              rintro e w' ⟨rfl, rfl⟩
              go_wp2
              go_roundw
              case rel => exact ⟨j + 1, by omega, by go_num, HEN, hbw, hen⟩
              case measure => simp [intOf]; omega
            · have HEN : Hid (E = pc n (css.getD j [])) := hEk.out.trans (fstE_bad hjX hz)
              have hzz : (pc n (css.getD j []) != 0) = true := by simpa using hz
              clear hz hEk
              generalize (css.getD j []).length = pl at hce HPC
              generalize pc n (css.getD j []) = pe at *
              go_wp2_with fail
              refine HPC.out.mono ?_
              rintro e w' ⟨rfl, rfl⟩
              go_wp2
              go_ret
              exact ⟨ret_int HEN.out.symm, hB2⟩
          · obtain rfl : j = N := by omega
            have HEN : Hid (E = 0) := by show E = 0; rw [hEk.out, List.drop_eq_nil_of_le (by rw [hN.out]; exact Nat.le_refl _)]; rfl
            clear hEk
            go_wp2
            go_ret
            exact ⟨ret_int HEN.out.symm, hB2⟩

end Go.Proofs.YtenpkhalgkodbaaDoor

/- Contracts at every input: call.Check, call.checkLeads, call.May. -/
namespace Go.Proofs.YtenpkhalgkodbaaDoor
open Go.RowKit
set_option maxRecDepth 20000
set_option linter.unusedVariables false

set_option maxHeartbeats 8000000 in
theorem ccheck_all (s : ByteArray) (n : Int) (vp : Option Addr) (vc : Nat) (css : List (List Int)) (cv : Value) (cs : List Cl) (w : World) (hs : s.size ≤ 9223372036854775807)
    (hv : IntsAll w (.slice vp css.length vc) css) (hcv : CallsIn w cv cs) :
    Calls Tryd.prog 8 #[meth s n (.slice vp css.length vc), cv] w fun e w' => e = .returned (.int .i64 (cErr s n css cs)) ∧ Below w.heap.size w w' := by
  have hB0 : Below w.heap.size w (w.alloc (.cells #[.string s, .int .i64 n, .slice vp css.length vc] 24)) := (Below.refl _ _).alloc (Nat.le_refl _) _
  have HMC := hide (mcheck_all s n (.slice vp css.length vc) css (w.alloc (.cells #[.string s, .int .i64 n, .slice vp css.length vc] 24)) hs (hv.below hB0))
  have hbox := Box.start w s n (.slice vp css.length vc) 24
  obtain ⟨cp, cc, rfl⟩ := hcv.form
  have HBX := hide hbox
  unfold cErr
  generalize mErr s n css = me at *
  obtain ⟨K, hK⟩ : ∃ K, Hid (css.length = K) := ⟨_, rfl⟩
  rw [hK.out] at hB0 HMC HBX ⊢
  obtain ⟨C, hC⟩ : ∃ C, Hid (cs.length = C) := ⟨_, rfl⟩
  rw [hC.out]
  have HCV := hide hcv
  clear hv hbox hcv
  unfold meth at HMC
  unfold meth
  by_cases hz : me = 0
  · subst hz
    rw [if_pos rfl]
    by_cases hcl : C < 1 ∨ 8 < C
    · rw [if_pos hcl]
      go_enter Tryd.func8, Tryd.ntmps8
      go_wp2_with fail
      refine HMC.out.mono ?_
      rintro e w1 ⟨rfl, hb1⟩
      have HB1 := hide (hB0.trans (hb1.mono (by simp)))
      clear HMC HBX hb1 hB0
      by_cases h1 : (C : Int) < 1
      · clear hcl
        go_wp2
        go_ret
        exact ⟨rfl, HB1.out⟩
      · have h2 : 8 < (C : Int) := by omega
        clear hcl
        go_wp2
        go_ret
        exact ⟨rfl, HB1.out⟩
    · rw [if_neg hcl]
      have hC1 : ¬ (C : Int) < 1 := by omega
      have hC2 : ¬ 8 < (C : Int) := by omega
      have hC3 : 1 ≤ C ∧ C ≤ 8 := by omega
      obtain ⟨b, off, cap, hce, hb, hlc, hcm, hcell⟩ : CallsAt w (.slice cp C cc) cs := by
        rcases HCV.out with ⟨h1, _⟩ | ⟨_, h2⟩
        · exfalso; have := hC.out; rw [h1] at this; simp at this; omega
        · rw [hC.out] at h2; exact h2
      rw [hC.out] at hce hlc
      simp only [Value.slice.injEq] at hce
      obtain ⟨rfl, _, rfl⟩ := hce
      have HC := hide hcell
      obtain ⟨E, hE⟩ : ∃ E, Hid (cFst n K [] cs = E) := ⟨_, rfl⟩
      rw [hE.out]
      clear hcell HCV hcl
      go_enter Tryd.func8, Tryd.ntmps8
      go_wp2_with fail
      refine HMC.out.mono ?_
      rintro e w1 ⟨rfl, hb1⟩
      have hB1 : Below w.heap.size w w1 := hB0.trans (hb1.mono (by simp))
      have HX1 := hide (HBX.out.below hb1)
      clear HMC HBX hb1 hB0
      go_wp2
      go_loopw [24] (fun i wr => ∃ j : Nat, j ≤ C ∧ i = .int .i64 j ∧ Hid (E = cFst n K (cs.take j) (cs.drop j)) ∧ Hid (Box wr w.heap.size s n (.slice vp K vc)) ∧ Below w.heap.size w wr) (fun i _ => C - (intOf i).toNat)
      case atStart => exact ⟨0, by omega, rfl, hE.out.symm, HX1, hB1⟩
      case round =>
        clear HX1 hB1
        obtain ⟨j, hj, rfl, hEk, hX, hbw⟩ := hrel
        have hbs := hbw.size
        by_cases hlt : j < C
        · have hjc : j < cs.length := by rw [hC.out]; exact hlt
          obtain ⟨u, a1, a2, a3⟩ := HC.out j hjc
          have g1 : wr.cell? ⟨b, off + j * 2, none⟩ = some (.int .i32 (cs.getD j (0, [])).1) := (hbw.cell (by exact hb)).trans a1
          have g2 : wr.cell? ⟨b, off + j * 2 + 1, none⟩ = some u := (hbw.cell (p := ⟨b, off + j * 2 + 1, none⟩) (by exact hb)).trans a2
          obtain ⟨up, uc, rfl⟩ := a3.len
          have htl : (cs.take j).length = j := by rw [List.length_take]; omega
          have HCK := hide (fun W (hW : Below w.heap.size w W) => checkOne_all s n vp K vc (cs.getD j (0, [])).1 (.slice up (cs.getD j (0, [])).2.length uc) (cs.getD j (0, [])).2 b off cc (cs.take j) W (Nat.lt_of_lt_of_le hb hW.size) (fun i hi => by
            have hij : i < j := by rw [htl] at hi; exact hi
            obtain ⟨u', b1, b2, b3⟩ := HC.out i (by omega)
            obtain ⟨p', c', e'⟩ := b3.len
            have e1 : (cs.take j).getD i (0, []) = cs.getD i (0, []) := by simp [List.getD, hij]
            rw [e1]
            exact ⟨u', (hW.cell (p := ⟨b, off + i * 2, none⟩) hb).trans b1, (hW.cell (p := ⟨b, off + i * 2 + 1, none⟩) hb).trans b2, by rw [e']; rfl⟩) (by rw [htl]; omega) (a3.below hW))
          rw [htl] at HCK
          have HEZ : Hid (oErr n K (cs.take j) (cs.getD j (0, [])) = 0 → E = cFst n K (cs.take (j + 1)) (cs.drop (j + 1))) := fun h => hEk.out.trans (cFst_ok hjc h)
          have HEB : Hid (oErr n K (cs.take j) (cs.getD j (0, [])) ≠ 0 → E = oErr n K (cs.take j) (cs.getD j (0, []))) := fun h => hEk.out.trans (cFst_bad hjc h)
          have HCK2 : Hid (∀ W, Below w.heap.size w W → Calls Tryd.prog 26 #[meth s n (.slice vp K vc), .slice (some ⟨b, off, none⟩) j cc, .agg #[.int .i32 (cs.getD j (0, [])).1, .slice up (cs.getD j (0, [])).2.length uc]] W fun e w' => e = .returned (.int .i64 (oErr n K (cs.take j) (cs.getD j (0, [])))) ∧ Below W.heap.size W w') := HCK.out
          clear a1 a2 a3 HCK hEk htl
          generalize oErr n K (cs.take j) (cs.getD j (0, [])) = oe at *
          generalize (cs.getD j (0, [])).1 = sg at *
          generalize (cs.getD j (0, [])).2.length = ul at *
          unfold meth at HCK2
          go_upto_region 9 with fail
          have hXA := hX.out.below ((Below.refl wr.heap.size wr).alloc (Nat.le_refl _) (.cells #[.int .i32 sg, .slice up ul uc] 50))
          have h9 := heap_alloc_new wr (.cells #[.int .i32 sg, .slice up ul uc] 50)
          have hBA : Below w.heap.size w (wr.alloc (.cells #[.int .i32 sg, .slice up ul uc] 50)) := hbw.alloc hbs _
          have hRA : wr.heap.size < (wr.alloc (.cells #[.int .i32 sg, .slice up ul uc] 50)).heap.size := by simp
          have d0 : (wr.alloc (.cells #[.int .i32 sg, .slice up ul uc] 50)).cell? ⟨wr.heap.size, 0, none⟩ = some (.int .i32 sg) := by unfold World.cell?; simp only [h9]; rfl
          have d1 : (wr.alloc (.cells #[.int .i32 sg, .slice up ul uc] 50)).cell? ⟨wr.heap.size, 1, none⟩ = some (.slice up ul uc) := by unfold World.cell?; simp only [h9]; rfl
          have b0 := hXA.c0
          have b1 := hXA.c1
          have b2 := hXA.c2
          have hbl := hXA.lt
          have HXA := hide hXA
          clear h9 g1 g2 hX hXA
          generalize (wr.alloc (.cells #[.int .i32 sg, .slice up ul uc] 50)) = WA at *
          generalize wr.heap.size = RA at *
          refine wp_region_held_drew (S := fun W' => Below WA.heap.size WA W') (by kernel_rfl) (below_drewJ WA) (fun hS => ?_)
          refine wpAnyH_take (i := 0) (v := .agg #[.string s, .int .i64 n, .slice vp K vc]) rfl (by kernel_rfl) (by kernel_rfl) (by kernel_rfl) (fun _ _ _ h => h) (Or.inl ⟨by kernel_rfl, fun w' hS' => by have q0 := (Below.cell hS' (p := ⟨w.heap.size, 0, none⟩) (by exact hbl)).trans b0; have q1 := (Below.cell hS' (p := ⟨w.heap.size, 1, none⟩) (by exact hbl)).trans b1; have q2 := (Below.cell hS' (p := ⟨w.heap.size, 2, none⟩) (by exact hbl)).trans b2; clear hS'; go_simp⟩) hS ?_
          refine wpAnyH_take (i := 1) (v := .slice (some ⟨b, off, none⟩) C cc) rfl (by kernel_rfl) (by kernel_rfl) (by kernel_rfl) (fun _ _ _ h => h) (Or.inl ⟨by kernel_rfl, fun w' hS' => by clear hS'; go_simp⟩) hS ?_
          refine wpAnyH_take (i := 2) (v := .int .i64 (j : Int)) rfl (by kernel_rfl) (by kernel_rfl) (by kernel_rfl) (fun _ _ _ h => h) (Or.inl ⟨by kernel_rfl, fun w' hS' => by clear hS'; go_simp⟩) hS ?_
          refine wpAnyH_take (i := 3) (v := .slice (some ⟨b, off, none⟩) j cc) rfl (by kernel_rfl) (by kernel_rfl) (by kernel_rfl) (fun _ _ _ h => h) (Or.inl ⟨by kernel_rfl, fun w' hS' => by clear hS'; go_simp; intro h0; exact absurd h0 (by omega)⟩) hS ?_
          refine wpAnyH_take (i := 4) (v := .agg #[.int .i32 sg, .slice up ul uc]) rfl (by kernel_rfl) (by kernel_rfl) (by kernel_rfl) (fun _ _ _ h => h) (Or.inl ⟨by kernel_rfl, fun w' hS' => by have q0 := (Below.cell hS' (p := ⟨RA, 0, none⟩) (by exact hRA)).trans d0; have q1 := (Below.cell hS' (p := ⟨RA, 1, none⟩) (by exact hRA)).trans d1; clear hS'; go_simp⟩) hS ?_
          refine wpAnyH_ready (rs := [5]) (by kernel_rfl) (by simp) ?_
          refine AllReadyH.cons rfl (fun K9 hK9 => ?_) AllReadyH.nil
          go_simp
          have hS0 := below_drewJ WA
          refine (HCK2.out WA.drew (hBA.trans (hS0.mono hBA.size))).mono ?_
          rintro ex wo ⟨rfl, hbo⟩
          have hSo : Below WA.heap.size WA wo := hS0.trans (hbo.mono hS0.size)
          refine hK9.out _ _ hSo (fun hS => ?_)
          clear hK9
          refine wpAnyH_take (i := 6) (v := .int .i64 oe) rfl (by kernel_rfl) (by kernel_rfl) (by kernel_rfl) (fun _ _ _ h => h) (Or.inl ⟨by kernel_rfl, fun w' hS' => by clear hS'; go_simp⟩) hS ?_
          refine wpAnyH_done (by kernel_rfl) ?_ _
          have HXo := hide (HXA.out.below hSo)
          have hBo : Below w.heap.size w wo := hBA.trans (hSo.mono hBA.size)
          clear hSo hbo hS0 HCK2 HXA
          by_cases hoz : oe = 0
          · have HEN := hide (HEZ.out hoz)
            subst hoz
            clear HEZ HEB
            go_wp2
            go_roundw
            case rel => exact ⟨j + 1, by omega, by go_num, HEN, HXo, hBo⟩
            case measure => simp [intOf]; omega
          · have HEN := hide (HEB.out hoz)
            have hzz : (oe != 0) = true := by simpa using hoz
            clear HEZ HEB hoz
            go_wp2
            go_ret
            exact ⟨ret_int HEN.out.symm, hBo⟩
        · obtain rfl : j = C := by omega
          have HEN : Hid (E = 0) := by show E = 0; rw [hEk.out, List.drop_eq_nil_of_le (by rw [hC.out]; exact Nat.le_refl _)]; rfl
          clear hEk
          go_wp2
          go_ret
          exact ⟨ret_int HEN.out.symm, hbw⟩
  · rw [if_neg hz]
    have hzz : (me != 0) = true := by simpa using hz
    clear hz
    go_enter Tryd.func8, Tryd.ntmps8
    go_wp2_with fail
    refine HMC.out.mono ?_
    rintro e w1 ⟨rfl, hb1⟩
    have HB1 := hide (hB0.trans (hb1.mono (by simp)))
    clear HMC HBX hb1 hB0
    go_wp2
    go_ret
    exact ⟨rfl, HB1.out⟩

set_option maxHeartbeats 4000000 in
theorem checkLeads_all (cp : Option Addr) (C cc : Nat) (v : Value) (ls : List Int) (w : World) (h : Ints w v ls) :
    Calls Tryd.prog 29 #[.slice cp C cc, v] w fun e w' => e = .returned (.int .i64 (lErr C ls)) ∧ w = w' := by
  obtain ⟨lp, lc, rfl⟩ := h.form
  obtain ⟨N, hN⟩ : ∃ N, Hid (ls.length = N) := ⟨_, rfl⟩
  have HI := hide h
  unfold lErr
  rw [hN.out] at HI ⊢
  clear h
  by_cases hl : N < 1 ∨ 400 < N
  · rw [if_pos hl]
    by_cases h1 : (N : Int) < 1
    · clear hl
      go_enter Tryd.func29, Tryd.ntmps29
      go_wp2
      go_ret
      exact ⟨rfl, rfl⟩
    · have h2 : 400 < (N : Int) := by omega
      clear hl
      go_enter Tryd.func29, Tryd.ntmps29
      go_wp2
      go_ret
      exact ⟨rfl, rfl⟩
  · rw [if_neg hl]
    rcases HI.out with ⟨hnil, _⟩ | ⟨b, off, cap, hle, h0, hc, hm, hb, hcell⟩
    · exfalso; have := hN.out; rw [hnil] at this; simp at this; omega
    rw [hN.out] at hle hc
    simp only [Value.slice.injEq] at hle
    obtain ⟨rfl, _, rfl⟩ := hle
    have HC := hide hcell
    have h1 : ¬ (N : Int) < 1 := by omega
    have h2 : ¬ 400 < (N : Int) := by omega
    obtain ⟨E, hE⟩ : ∃ E : Int, Hid ((if ∀ l, l ∈ ls → 0 ≤ l ∧ l < (C : Int) then 0 else 12) = E) := ⟨_, rfl⟩
    rw [hE.out]
    clear hl hcell HI
    go_enter Tryd.func29, Tryd.ntmps29
    go_wp2
    go_loop [17] (fun i => ∃ k : Nat, k ≤ N ∧ i = .int .i64 k ∧ Hid (∀ j, j < k → 0 ≤ ls.getD j 0 ∧ ls.getD j 0 < (C : Int))) (fun i => N - (intOf i).toNat)
    case atStart => exact ⟨0, by omega, rfl, (fun j hj => absurd hj (by omega))⟩
    case round =>
      obtain ⟨k, hk, rfl, hA⟩ := hrel
      by_cases hlt : k < N
      · have hkl : k < ls.length := by rw [hN.out]; exact hlt
        obtain ⟨y, hy, hcx⟩ := cellAt HC.out hkl
        have hyk : ls.getD k 0 = y := hy.out
        have hym : y ∈ ls := by
          rw [← hyk, List.getD, List.getElem?_eq_getElem hkl, Option.getD_some]
          exact List.getElem_mem _
        by_cases hyb : 0 ≤ y ∧ y < (C : Int)
        · have HA2 : Hid (∀ j, j < k + 1 → 0 ≤ ls.getD j 0 ∧ ls.getD j 0 < (C : Int)) := fun j hj => by
            rcases Nat.lt_succ_iff_lt_or_eq.1 hj with h | h
            · exact hA.out j h
            · rw [h, hyk]; exact hyb
          have hy3 : ¬ y < 0 := by omega
          have hy4 : ¬ y ≥ (C : Int) := by omega
          clear hy hym hyk hyb hA
          go_wp2
          go_round
          case rel => exact ⟨k + 1, by omega, by go_num, HA2⟩
          case measure => simp [intOf]; omega
        · have HE : Hid (E = 12) := by show E = 12; rw [← hE.out, if_neg (fun h => hyb (h y hym))]
          by_cases hy3 : y < 0
          · clear hy hym hyk hyb hA
            go_wp2
            go_ret
            exact ⟨ret_int HE.out.symm, rfl⟩
          · have hy4 : y ≥ (C : Int) := by omega
            clear hy hym hyk hyb hA
            go_wp2
            go_ret
            exact ⟨ret_int HE.out.symm, rfl⟩
      · obtain rfl : k = N := by omega
        have HE : Hid (E = 0) := by
          show E = 0
          rw [← hE.out, if_pos]
          intro l hl
          obtain ⟨j, hj, e⟩ := List.getElem_of_mem hl
          have := hA.out j (by rw [hN.out] at hj; exact hj)
          rw [List.getD, List.getElem?_eq_getElem hj, Option.getD_some, e] at this
          exact this
        clear hA
        go_wp2
        go_ret
        exact ⟨ret_int HE.out.symm, rfl⟩

set_option maxHeartbeats 4000000 in
theorem may_all (s : ByteArray) (n : Int) (vp : Option Addr) (vc : Nat) (css : List (List Int)) (cv : Value) (cs : List Cl) (lv : Value) (ls : List Int) (w : World) (hs : s.size ≤ 9223372036854775807)
    (hv : IntsAll w (.slice vp css.length vc) css) (hcv : CallsIn w cv cs) (hl : Ints w lv ls) :
    Calls Tryd.prog 14 #[meth s n (.slice vp css.length vc), cv, lv] w fun e w' => e = .returned (.int .i64 (tErr s n css cs ls)) ∧ Below w.heap.size w w' := by
  have hB0 : Below w.heap.size w (w.alloc (.cells #[.string s, .int .i64 n, .slice vp css.length vc] 24)) := (Below.refl _ _).alloc (Nat.le_refl _) _
  have HCC := hide (ccheck_all s n vp vc css cv cs (w.alloc (.cells #[.string s, .int .i64 n, .slice vp css.length vc] 24)) hs (hv.below hB0) (hcv.below hB0))
  have hbox := Box.start w s n (.slice vp css.length vc) 24
  obtain ⟨cp, cc, rfl⟩ := hcv.form
  have HCL := hide (fun W (hW : Below w.heap.size w W) => checkLeads_all cp cs.length cc lv ls W (hl.below hW))
  obtain ⟨lp, lc, rfl⟩ := hl.form
  have HBX := hide hbox
  have hmi : ((ls.length : Int)) * (css.length : Int) = ((ls.length * css.length : Nat) : Int) := (Int.natCast_mul _ _).symm
  have HSM : Hid (cErr s n css cs = 0 → lErr cs.length ls = 0 → ls.length * css.length ≤ 80000) := fun h1 h2 => by
    have a1 : mErr s n css = 0 := by
      unfold cErr at h1
      split at h1
      · assumption
      · rename_i h; exact absurd h1 h
    have a2 : css.length ≤ 200 := by
      unfold mErr at a1
      split at a1
      · split at a1
        · cases a1
        · omega
      · cases a1
    have a3 : ls.length ≤ 400 := by
      unfold lErr at h2
      split at h2
      · cases h2
      · omega
    exact Nat.mul_le_mul a3 a2
  clear hv hbox hl hcv
  unfold tErr
  generalize ls.length * css.length = P at *
  generalize cErr s n css cs = ce at *
  generalize lErr cs.length ls = le at *
  generalize css.length = K at *
  generalize ls.length = N at *
  generalize cs.length = C at *
  unfold meth at HCC
  unfold meth
  by_cases hz : ce = 0
  · subst hz
    rw [if_pos rfl]
    by_cases hlz : le = 0
    · subst hlz
      rw [if_pos rfl]
      have hPb := HSM.out rfl rfl
      by_cases hP : 20000 < P
      · rw [if_pos hP]
        have hPi : 20000 < (P : Int) := by omega
        go_enter Tryd.func14, Tryd.ntmps14
        go_wp2_with fail
        refine HCC.out.mono ?_
        rintro e w1 ⟨rfl, hb1⟩
        have hB1 : Below w.heap.size w w1 := hB0.trans (hb1.mono (by simp))
        have g2 := (HBX.out.below hb1).c2
        clear HCC HBX hb1 hB0
        go_wp2_with fail
        refine (HCL.out w1 hB1).mono ?_
        rintro e w2 ⟨rfl, rfl⟩
        clear HCL
        go_wp2
        go_ret
        exact ⟨rfl, hB1⟩
      · rw [if_neg hP]
        have hPi : ¬ 20000 < (P : Int) := by omega
        go_enter Tryd.func14, Tryd.ntmps14
        go_wp2_with fail
        refine HCC.out.mono ?_
        rintro e w1 ⟨rfl, hb1⟩
        have hB1 : Below w.heap.size w w1 := hB0.trans (hb1.mono (by simp))
        have g2 := (HBX.out.below hb1).c2
        clear HCC HBX hb1 hB0
        go_wp2_with fail
        refine (HCL.out w1 hB1).mono ?_
        rintro e w2 ⟨rfl, rfl⟩
        clear HCL
        go_wp2
        go_ret
        exact ⟨rfl, hB1⟩
    · rw [if_neg hlz]
      have hzz : (le != 0) = true := by simpa using hlz
      clear hlz HSM
      go_enter Tryd.func14, Tryd.ntmps14
      go_wp2_with fail
      refine HCC.out.mono ?_
      rintro e w1 ⟨rfl, hb1⟩
      have hB1 : Below w.heap.size w w1 := hB0.trans (hb1.mono (by simp))
      clear HCC HBX hb1 hB0
      go_wp2_with fail
      refine (HCL.out w1 hB1).mono ?_
      rintro e w2 ⟨rfl, rfl⟩
      clear HCL
      go_wp2
      go_ret
      exact ⟨rfl, hB1⟩
  · rw [if_neg hz]
    have hzz : (ce != 0) = true := by simpa using hz
    clear hz HSM
    go_enter Tryd.func14, Tryd.ntmps14
    go_wp2_with fail
    refine HCC.out.mono ?_
    rintro e w1 ⟨rfl, hb1⟩
    have hB1 : Below w.heap.size w w1 := hB0.trans (hb1.mono (by simp))
    clear HCC HBX hb1 hB0
    go_wp2
    go_ret
    exact ⟨rfl, hB1⟩

end Go.Proofs.YtenpkhalgkodbaaDoor

/- Plain: ways through all rows, one after another, in the order of lists; how many unlike numbers there are below a bound. -/
namespace Go.Proofs.YtenpkhalgkodbaaDoor
open Go.RowKit

/-- A way that goes on from a number, which has met these: each number once, and then 0. -/
def Good (nx : Nat → Nat → Nat) (K all : Nat) : List Nat → Nat → List Nat → Prop
  | _, _, [] => False
  | ks, at_, k :: t => k < K ∧ ((t = [] ∧ nx k at_ = 0 ∧ ks.length = all) ∨ (nx k at_ ∉ ks ∧ Good nx K all (nx k at_ :: ks) (nx k at_) t))

/-- The order of lists. -/
def Ltl : List Nat → List Nat → Prop
  | [], [] => False
  | [], _ :: _ => True
  | _ :: _, [] => False
  | a :: x, b :: y => a < b ∨ (a = b ∧ Ltl x y)

theorem nodup_le : ∀ (n : Nat) (l : List Nat), l.Nodup → (∀ x, x ∈ l → x < n) → l.length ≤ n
  | 0, l, _, h => by
    cases l with
    | nil => simp
    | cons x t => exact absurd (h x (by simp)) (by omega)
  | n + 1, l, hn, h => by
    by_cases hm : n ∈ l
    · have h1 := nodup_le n (l.erase n) (hn.erase n) (fun x hx => by
        have hx2 := (List.Nodup.mem_erase_iff hn).1 hx
        have := h x hx2.2
        have := hx2.1
        omega)
      have h2 := List.length_erase_of_mem hm
      have h3 : 0 < l.length := List.length_pos_of_mem hm
      omega
    · have h1 := nodup_le n l hn (fun x hx => by
        have := h x hx
        have : x ≠ n := fun e => hm (e ▸ hx)
        omega)
      omega

/-- The numbers that are tried stand for all: each once, in order. -/
structure Tried (nx : Nat → Nat → Nat) (K : Nat) (tr : List Nat) : Prop where
  low : ∀ k, k ∈ tr → k < K
  sorted : tr.Pairwise (· < ·)
  all : ∀ k, k < K → ∃ k', k' ∈ tr ∧ k' ≤ k ∧ ∀ a, nx k' a = nx k a

theorem Good.same {nx : Nat → Nat → Nat} {K all : Nat} {ks : List Nat} {a k k' : Nat} {t : List Nat} (h : Good nx K all ks a (k :: t)) (hk : k' < K) (e : nx k' a = nx k a) : Good nx K all ks a (k' :: t) := by
  unfold Good at h ⊢
  rw [e]
  exact ⟨hk, h.2⟩

theorem sorted_before {tr : List Nat} (h : tr.Pairwise (· < ·)) {i : Nat} (hi : i < tr.length) {k : Nat} (hk : k ∈ tr) (hlt : k < tr.getD i 0) : ∃ j, j < i ∧ tr.getD j 0 = k := by
  obtain ⟨j, hj, e⟩ := List.getElem_of_mem hk
  have ei : tr.getD i 0 = tr[i] := by simp [List.getD, hi]
  refine ⟨j, ?_, by simp [List.getD, hj, e]⟩
  rcases Nat.lt_trichotomy j i with h1 | h1 | h1
  · exact h1
  · subst h1; omega
  · have := List.pairwise_iff_getElem.1 h i j hi hj h1
    omega

/-- What is found first is the least. -/
theorem least_found {nx : Nat → Nat → Nat} {K all : Nat} {tr ks : List Nat} {a i : Nat} {q : List Nat} (hT : Tried nx K tr) (hi : i < tr.length) (hno : ∀ j, j < i → ∀ t, ¬ Good nx K all ks a (tr.getD j 0 :: t))
    (hq : ∀ t, Good nx K all ks a (tr.getD i 0 :: t) → ¬ Ltl t q) : ∀ t, Good nx K all ks a t → ¬ Ltl t (tr.getD i 0 :: q) := by
  intro t ht hl
  cases t with
  | nil => exact ht
  | cons k t =>
    have hk : k < K := by unfold Good at ht; exact ht.1
    rcases (show k < tr.getD i 0 ∨ (k = tr.getD i 0 ∧ Ltl t q) from hl) with h | ⟨rfl, h⟩
    · obtain ⟨k', hm, hle, he⟩ := hT.all k hk
      obtain ⟨j, hj, e⟩ := sorted_before hT.sorted hi hm (by omega)
      refine hno j hj t ?_
      rw [e]
      exact ht.same (hT.low k' hm) (he a)
    · exact hq t ht h

theorem none_found {nx : Nat → Nat → Nat} {K all : Nat} {tr ks : List Nat} {a : Nat} (hT : Tried nx K tr) (hno : ∀ j, j < tr.length → ∀ t, ¬ Good nx K all ks a (tr.getD j 0 :: t)) : ∀ t, ¬ Good nx K all ks a t := by
  intro t ht
  cases t with
  | nil => exact ht
  | cons k t =>
    have hk : k < K := by unfold Good at ht; exact ht.1
    obtain ⟨k', hm, hle, he⟩ := hT.all k hk
    obtain ⟨j, hj, e⟩ := List.getElem_of_mem hm
    refine hno j hj t ?_
    rw [show tr.getD j 0 = k' from by simp [List.getD, hj, e]]
    exact ht.same (hT.low k' hm) (he a)

/-- A step that is barred. -/
theorem good_barred {nx : Nat → Nat → Nat} {K all : Nat} {ks : List Nat} {a k : Nat} (h1 : nx k a ∈ ks) (h2 : ¬ (nx k a = 0 ∧ ks.length = all)) : ∀ t, ¬ Good nx K all ks a (k :: t) := by
  intro t ht
  unfold Good at ht
  rcases ht.2 with ⟨_, h3, h4⟩ | ⟨h3, _⟩
  · exact h2 ⟨h3, h4⟩
  · exact h3 h1

/-- Home. -/
theorem good_home {nx : Nat → Nat → Nat} {K all : Nat} {ks : List Nat} {a k : Nat} (hk : k < K) (h1 : nx k a = 0) (h2 : ks.length = all) : Good nx K all ks a [k] ∧ ∀ t, Good nx K all ks a (k :: t) → ¬ Ltl t [] := by
  refine ⟨⟨hk, Or.inl ⟨rfl, h1, h2⟩⟩, fun t _ hl => ?_⟩
  cases t with
  | nil => exact hl
  | cons _ _ => exact hl

theorem good_on {nx : Nat → Nat → Nat} {K all : Nat} {ks : List Nat} {a k : Nat} (h2 : ¬ (nx k a = 0 ∧ ks.length = all)) (t : List Nat) : Good nx K all ks a (k :: t) → Good nx K all (nx k a :: ks) (nx k a) t := by
  intro ht
  unfold Good at ht
  rcases ht.2 with ⟨_, h3, h4⟩ | ⟨_, h3⟩
  · exact absurd ⟨h3, h4⟩ h2
  · exact h3

def nI (l : List Nat) : List Int := l.map (fun (k : Nat) => (k : Int))

theorem nI_len (l : List Nat) : (nI l).length = l.length := by simp [nI]

theorem nI_get (l : List Nat) {i : Nat} (h : i < l.length) : (nI l).getD i 0 = ((l.getD i 0 : Nat) : Int) := by simp [nI, List.getD, h]

end Go.Proofs.YtenpkhalgkodbaaDoor

/- Contracts: call.runOf, call.Print. -/
namespace Go.Proofs.YtenpkhalgkodbaaDoor
open Go.RowKit Go.Shelf
set_option maxRecDepth 20000
set_option linter.unusedVariables false

/-- The k-th cell of leads in memory. -/
theorem lead_cell {w : World} {v : Value} {t : List Nat} (h : Ints w v (nI t)) (h1 : 1 ≤ t.length) : ∃ b off cap, v = .slice (some ⟨b, off, none⟩) t.length cap ∧ t.length ≤ cap ∧ cap ≤ 9223372036854775807 ∧ b < w.heap.size ∧ ∀ k, k < t.length → w.cell? ⟨b, off + k, none⟩ = some (.int .i64 ((t.getD k 0 : Nat) : Int)) := by
  rcases h with ⟨e, _⟩ | ⟨b, off, cap, e, h0, h2, h3, h4, hc⟩
  · exfalso
    have : t = [] := by simpa [nI] using e
    rw [this] at h1
    simp at h1
  · rw [nI_len] at e h2
    refine ⟨b, off, cap, e, h2, h3, h4, fun k hk => ?_⟩
    rw [hc k (by rw [nI_len]; exact hk), nI_get t hk]

set_option maxHeartbeats 2000000 in
theorem runOf_ok (v : Value) (t : List Nat) (w : World) (h : Ints w v (nI t)) (h1 : 1 ≤ t.length) (h2 : t.length ≤ 1000000) :
    Calls Tryd.prog 30 #[v] w fun e w' => (∃ run : Nat, e = .returned (.int .i64 (run : Int)) ∧ Run t 0 run) ∧ Below w.heap.size w w' := by
  obtain ⟨b, off, cap, rfl, hc1, hc2, hb, hcell⟩ := lead_cell h h1
  obtain ⟨T, hT⟩ : ∃ T, Hid (t.length = T) := ⟨_, rfl⟩
  rw [hT.out] at hc1 hcell h1 h2 ⊢
  have HC := hide hcell
  have c0 := HC.out 0 (by omega)
  rw [Nat.add_zero] at c0
  clear h hcell
  go_enter Tryd.func30, Tryd.ntmps30
  go_wp2
  go_loopw [3] (fun rv wr => ∃ run : Nat, 1 ≤ run ∧ run ≤ T ∧ run ≤ 99 ∧ rv = .int .i64 run ∧ Hid (∀ j, j < run → t.getD j 0 = t.getD 0 0) ∧ Hid (Below w.heap.size w wr)) (fun rv _ => 100 - (intOf rv).toNat)
  case atStart => exact ⟨1, by omega, by omega, by omega, rfl, (fun j hj => by rw [show j = 0 by omega]), Below.refl _ _⟩
  case round =>
    obtain ⟨run, r1, r2, r3, rfl, hS, hbw⟩ := hrel
    have d0 := (hbw.out.cell (p := ⟨b, off, none⟩) hb).trans c0
    by_cases hrT : run < T
    · have hi1 : (run : Int) < (T : Int) := by omega
      by_cases hr9 : run < 99
      · have hi2 : (run : Int) < 99 := by omega
        have cr := (hbw.out.cell (p := ⟨b, off + run, none⟩) hb).trans (HC.out run hrT)
        by_cases he : t.getD run 0 = t.getD 0 0
        · have hbq : (((t.getD run 0 : Nat) : Int) == ((t.getD 0 0 : Nat) : Int)) = true := by rw [he]; simp
          have HS2 : Hid (∀ j, j < run + 1 → t.getD j 0 = t.getD 0 0) := fun j hj => by
            rcases Nat.lt_succ_iff_lt_or_eq.1 hj with h | h
            · exact hS.out j h
            · rw [h]; exact he
          clear he hS
          generalize t.getD run 0 = x at *
          generalize t.getD 0 0 = y at *
          go_wp2
          go_quiet (fail)
          have HBn := hide (below_drewN hbw.out nq)
          go_wp2
          go_roundw
          case rel => exact ⟨run + 1, by omega, by omega, by omega, by go_num, HS2, HBn⟩
          case measure => simp [intOf]; omega
        · have hbq : (((t.getD run 0 : Nat) : Int) == ((t.getD 0 0 : Nat) : Int)) = false := by rw [beq_eq_false_iff_ne]; omega
          have HR : Hid (Run t 0 run) := ⟨r1, by rw [hT.out]; exact r2, by omega, hS.out, Or.inr (Or.inr he)⟩
          clear he hS
          generalize t.getD run 0 = x at *
          generalize t.getD 0 0 = y at *
          go_wp2
          go_quiet (fail)
          go_wp2
          go_ret
          exact ⟨⟨run, rfl, HR.out⟩, below_drewN hbw.out nq⟩
      · have hi2 : decide ((run : Int) < 99) = false := decide_eq_false (by omega)
        have hi4 : ¬ (run : Int) < 99 := by omega
        have HR : Hid (Run t 0 run) := ⟨r1, by rw [hT.out]; exact r2, by omega, hS.out, Or.inr (Or.inl (by omega))⟩
        clear hS
        go_wp2
        go_quiet (fail)
        go_wp2
        go_ret
        exact ⟨⟨run, rfl, HR.out⟩, below_drewN hbw.out nq⟩
    · have hi1 : decide ((run : Int) < (T : Int)) = false := decide_eq_false (by omega)
      have hi3 : decide (run < T) = false := decide_eq_false hrT
      have HR : Hid (Run t 0 run) := ⟨r1, by rw [hT.out]; exact r2, by omega, hS.out, Or.inl (by rw [hT.out]; omega)⟩
      clear hS
      go_wp2
      go_quiet (fail)
      go_wp2
      go_ret
      exact ⟨⟨run, rfl, HR.out⟩, below_drewN hbw.out nq⟩

/-- The bytes of a call's sign. -/
def sgB (cs : List Cl) (c : Nat) : List UInt8 := Lib.encodeRune (cs.getD c (0, [])).1

theorem sgB_length (cs : List Cl) (c : Nat) : (sgB cs c).length ≤ 4 := by
  unfold sgB
  have := (Lib.runeCells_le (cs.getD c (0, [])).1).2
  rwa [Lib.runeCells_length] at this

/-- What Print tells of leads: their text, or nothing. -/
def prT (cs : List Cl) (ls : List Int) : List UInt8 := if lErr cs.length ls = 0 then pF (sgB cs) 0 (ls.map Int.toNat) else []

def sLen : Value → Nat
  | .slice _ n _ => n
  | _ => 0

/-- What the loop of Print knows. -/
structure PRel (cs : List Cl) (L : List UInt8) (B : Nat) (w wr : World) (lv : Value) (t : List Nat) (acc : List UInt8) : Prop where
  lat : Ints w lv (nI t)
  bld : Bld B B acc wr
  eq : L = acc ++ pF (sgB cs) 0 t
  few : acc.length + 6 * t.length ≤ 6 * 400
  below : Below B w wr

theorem Ints.drop9 {w : World} {b off cap n k : Nat} {t : List Nat} (h : Ints w (.slice (some ⟨b, off, none⟩) n cap) (nI t)) (hn : t.length = n) (hk : k ≤ n) : Ints w (.slice (some ⟨b, off + k, none⟩) (n - k) (cap - k)) (nI (t.drop k)) := by
  rcases Nat.eq_or_lt_of_le hk with e | e
  · subst e
    refine Or.inl ⟨?_, some ⟨b, off + k, none⟩, cap - k, ?_⟩
    · rw [List.drop_eq_nil_of_le (by omega)]; rfl
    · rw [Nat.sub_self]
  · obtain ⟨b', off', cap', e1, h2, h3, h4, hc⟩ := lead_cell h (by omega)
    rw [hn] at e1 h2 hc
    simp only [Value.slice.injEq, Option.some.injEq, Addr.mk.injEq, and_true] at e1
    obtain ⟨⟨rfl, rfl⟩, _, rfl⟩ := e1
    have hl : (nI (t.drop k)).length = n - k := by rw [nI_len, List.length_drop, hn]
    refine Or.inr ⟨b, off + k, cap - k, by rw [hl], by rw [hl]; omega, by rw [hl]; omega, by omega, h4, fun j hj => ?_⟩
    rw [hl] at hj
    rw [Nat.add_assoc, hc (k + j) (by omega), nI_get _ (by rw [List.length_drop]; omega)]
    simp [List.getD]

set_option maxHeartbeats 4000000 in
theorem print_all (cv : Value) (cs : List Cl) (lv : Value) (ls : List Int) (w : World) (hcv : CallsIn w cv cs) (hl : Ints w lv ls) (hsr : ∀ c, c < cs.length → -2147483648 ≤ (cs.getD c (0, [])).1 ∧ (cs.getD c (0, [])).1 ≤ 2147483647) :
    Calls Tryd.prog 10 #[cv, lv] w fun e w' => e = .returned (.tuple #[.string ⟨(prT cs ls).toArray⟩, .int .i64 (lErr cs.length ls)]) ∧ Below w.heap.size w w' := by
  obtain ⟨cp, cc, rfl⟩ := hcv.form
  have HCL := hide (checkLeads_all cp cs.length cc lv ls w hl)
  unfold prT
  by_cases hz : lErr cs.length ls = 0
  · rw [if_pos hz, hz]
    rw [hz] at HCL
    have hlb : 1 ≤ ls.length ∧ ls.length ≤ 400 ∧ ∀ l, l ∈ ls → 0 ≤ l ∧ l < (cs.length : Int) := by
      unfold lErr at hz
      split at hz
      · cases hz
      · split at hz
        · rename_i h1 h2; exact ⟨by omega, by omega, h2⟩
        · cases hz
    obtain ⟨l1, l2, l3⟩ := hlb
    obtain ⟨t, ht1, ht2⟩ : ∃ t : List Nat, nI t = ls ∧ ∀ c, c ∈ t → c < cs.length := ⟨ls.map Int.toNat, by
      unfold nI
      rw [List.map_map]
      exact (List.map_congr_left (fun l hl => Int.toNat_of_nonneg (l3 l hl).1)).trans (List.map_id _), fun c hc => by
      obtain ⟨l, hl, rfl⟩ := List.mem_map.1 hc
      have := l3 l hl
      omega⟩
    have htt : ls.map Int.toNat = t := by
      rw [← ht1]
      unfold nI
      rw [List.map_map]
      exact (List.map_congr_left (fun c _ => Int.toNat_natCast c)).trans (List.map_id _)
    rw [htt]
    subst ht1
    rw [nI_len] at l1 l2
    have hcat : CallsAt w (.slice cp cs.length cc) cs := by
      rcases hcv with ⟨h9, _⟩ | ⟨_, h9⟩
      · exfalso
        have : t.getD 0 0 < cs.length := ht2 _ (by simp [List.getD, show 0 < t.length by omega])
        rw [h9] at this
        simp at this
      · exact h9
    obtain ⟨cb, co, cap, hce, hcb, hcc1, hcc2, hccell⟩ := hcat
    obtain ⟨C, hC⟩ : ∃ C, Hid (cs.length = C) := ⟨_, rfl⟩
    rw [hC.out] at hce hcc1 HCL ht2 hsr hccell ⊢
    simp only [Value.slice.injEq] at hce
    obtain ⟨rfl, _, rfl⟩ := hce
    obtain ⟨L, hL⟩ : ∃ L, Hid (pF (sgB cs) 0 t = L) := ⟨_, rfl⟩
    rw [hL.out]
    have HCC := hide hccell
    have HSR := hide hsr
    have HTI := hide ht2
    have HB0 := hide ((Below.refl w.heap.size w).alloc (Nat.le_refl _) (.cells #[.pointer none, .slice none 0 0] 57))
    have HR0 : Hid (PRel cs L w.heap.size w (w.alloc (.cells #[.pointer none, .slice none 0 0] 57)) lv t []) := by
      refine ⟨hl, Or.inl ⟨Nat.le_refl _, .slice none 0 0, heap_alloc_new _ _, World.ownsRow_nil _ _ _ _, fun e => by cases e⟩, hL.out.symm, by simp; omega, HB0.out⟩
    obtain ⟨lp, lc, rfl⟩ := hl.form
    rw [nI_len] at HCL HR0 ⊢
    obtain ⟨T, hT⟩ : ∃ T, Hid (t.length = T) := ⟨_, rfl⟩
    rw [hT.out] at HCL HR0 l1 l2 ⊢
    clear hl hcv hccell hsr ht2 htt l3 hz
    go_enter Tryd.func10, Tryd.ntmps10
    go_wp2_with fail
    refine HCL.out.mono ?_
    rintro e w1 ⟨rfl, rfl⟩
    clear HCL HB0
    go_wp2
    go_loopw [1] (fun lv wr => ∃ (u : List Nat) (acc : List UInt8) (p : Option Addr) (c : Nat), lv = .slice p u.length c ∧ Hid (∀ x, x ∈ u → x < C) ∧ Hid (PRel cs L w.heap.size w wr lv u acc)) (fun lv _ => sLen lv)
    case atStart => exact ⟨t, [], lp, lc, by rw [hT.out], HTI, HR0⟩
    case round =>
      clear HR0
      obtain ⟨u, acc, p, c, rfl, hU, hR⟩ := hrel
      obtain ⟨N, hN⟩ : ∃ N, Hid (u.length = N) := ⟨_, rfl⟩
      rw [hN.out] at hR ⊢
      have hbs := hR.out.below.size
      have hfew := hR.out.few
      rw [hN.out] at hfew
      by_cases h0 : 0 < N
      · have hu1 : 1 ≤ u.length := by rw [hN.out]; exact h0
        obtain ⟨lb, lo, lcap, hle, e2, e3, hlb, hlcell⟩ := lead_cell hR.out.lat hu1
        rw [hN.out] at hle e2 hlcell
        simp only [Value.slice.injEq] at hle
        obtain ⟨rfl, _, rfl⟩ := hle
        have HRO := hide (runOf_ok _ u wr (hR.out.lat.below hR.out.below) hu1 (by rw [hN.out]; omega))
        have hc0 := hlcell 0 h0
        rw [Nat.add_zero] at hc0
        have hx : u.getD 0 0 < C := hU.out _ (by rw [List.getD, List.getElem?_eq_getElem hu1, Option.getD_some]; exact List.getElem_mem _)
        obtain ⟨us, a1, a2, a3⟩ := HCC.out (u.getD 0 0) hx
        obtain ⟨sr1, sr2⟩ := HSR.out (u.getD 0 0) hx
        have HPT := hide (fun run (h : Run u 0 run) => pF_top (sgB cs) h)
        have HSG : Hid (sgB cs (u.getD 0 0) = Lib.encodeRune (cs.getD (u.getD 0 0) (0, [])).1) := rfl
        have hN0 : (0 : Int) < (N : Int) := by omega
        clear a2 a3 hlcell
        generalize hxe : u.getD 0 0 = x at *
        clear hxe
        generalize hre : (cs.getD x (0, [])).1 = r at *
        clear hre
        go_wp2_with fail
        refine HRO.out.mono ?_
        rintro e w2 ⟨⟨run, rfl, hRun⟩, hb2⟩
        have hr1 := hRun.one
        have hr2 := hRun.all
        rw [hN.out] at hr2
        have hr3 := hRun.most
        have HEQ := hide (HPT.out run hRun)
        have hB2 : Below w.heap.size w w2 := hR.out.below.trans (hb2.mono hbs)
        have hs2 := hB2.size
        have hbld2 : Bld w.heap.size w.heap.size acc w2 := by
          rcases hR.out.bld with ⟨hB, v, hbk, hown, hne⟩ | ⟨hB, v, hbk, hown, hne⟩
          · exact Or.inl ⟨hB, v, (hb2.block _ (Array.getElem?_eq_some_iff.1 hbk).1).trans hbk, owns_below hown hb2 (Nat.le_refl _), hne⟩
          · exact Or.inr ⟨hB, v, (hb2.block _ (Array.getElem?_eq_some_iff.1 hbk).1).trans hbk, owns_below hown hb2 (Nat.le_refl _), hne⟩
        by_cases hrun : 1 < run
        · have hri : (1 : Int) < (run : Int) := by omega
          have HAC : Hid (L = (acc ++ decB run ++ Lib.encodeRune r) ++ pF (sgB cs) 0 (u.drop run)) := by
            show L = _
            rw [hR.out.eq, HEQ.out, HSG.out]
            rw [if_pos hrun]
            simp [List.append_assoc]
          have HFW : Hid ((acc ++ decB run ++ Lib.encodeRune r).length + 6 * (u.drop run).length ≤ 6 * 400) := by
            show _ ≤ _
            have h1 := (Lib.runeCells_le r).2
            rw [Lib.runeCells_length] at h1
            have h2 := decB_length run
            rw [List.length_drop, hN.out]
            simp only [List.length_append]
            omega
          have HLT : Hid (Ints w (.slice (if c = run then some ⟨lb, lo, none⟩ else some ⟨lb, lo + run, none⟩) (N - run) (c - run)) (nI (u.drop run))) := by
            show Ints _ _ _
            split
            · refine Or.inl ⟨?_, some ⟨lb, lo, none⟩, c - run, ?_⟩
              · rw [List.drop_eq_nil_of_le (by rw [hN.out]; omega)]; rfl
              · rw [show N - run = 0 by omega]
            · exact hR.out.lat.drop9 hN.out hr2
          have HDN : Hid ((u.drop run).length = N - run) := by show _ = _; rw [List.length_drop, hN.out]
          have HUD : Hid (∀ x, x ∈ u.drop run → x < C) := fun x hx => hU.out x (List.mem_of_mem_drop hx)
          have HIT := hide (fun W => itoa_small run (by omega) W)
          have HWS := hide (writeString_ok w.heap.size w.heap.size acc ⟨(Lib.decDigits run).toArray⟩ w2 hbld2 (by rw [dec_digits (by omega)]; have := decB_length run; show acc.length + (decB run).toArray.size ≤ _; rw [List.size_toArray]; omega) hs2)
          have HDL : Hid ((⟨(Lib.decDigits run).toArray⟩ : ByteArray).data.toList = decB run) := by show _ = _; rw [dec_digits (by omega)]
          rw [HDL.out] at HWS
          have hdb := decB_length run
          clear hbld2
          generalize (⟨(Lib.decDigits run).toArray⟩ : ByteArray) = ds at *
          go_wp2_with fail
          refine (HIT.out _).mono ?_
          rintro e w9 ⟨rfl, rfl⟩
          go_wp2_with fail
          refine HWS.out.mono ?_
          rintro e w3 ⟨rfl, hbl3, hb3⟩
          have hB3 : Below w.heap.size w w3 := hB2.trans hb3
          have HBX := hide hbl3
          clear hbl3 hb3 HWS HIT
          have hk1 := (hB3.cell (p := ⟨lb, lo, none⟩) hlb).trans hc0
          have hk2 := (hB3.cell (p := ⟨cb, co + x * 2, none⟩) hcb).trans a1
          have hsX := hB3.size
          have HWR := hide (writeRune_ok w.heap.size w.heap.size (acc ++ decB run) r sr1 sr2 w3 HBX.out (by rw [List.length_append]; omega) hsX)
          clear hR HEQ
          go_wp2_with fail
          refine HWR.out.mono ?_
          rintro e w4 ⟨⟨xv, rfl⟩, hbl4, hb4⟩
          have HF : Hid (PRel cs L w.heap.size w w4 (.slice (if c = run then some ⟨lb, lo, none⟩ else some ⟨lb, lo + run, none⟩) (N - run) (c - run)) (u.drop run) (acc ++ decB run ++ Lib.encodeRune r)) := ⟨HLT.out, hbl4, HAC.out, HFW.out, hB3.trans hb4⟩
          clear hbl4 hb4 HWR HBX HAC HFW HLT
          go_wp2
          go_roundw
          case rel => exact ⟨u.drop run, _, _, _, by rw [HDN.out], HUD, HF⟩
          case measure => simp [sLen]; omega
        · have hri : ¬ (1 : Int) < (run : Int) := by omega
          have HAC : Hid (L = (acc ++ Lib.encodeRune r) ++ pF (sgB cs) 0 (u.drop run)) := by
            show L = _
            rw [hR.out.eq, HEQ.out, HSG.out]
            rw [if_neg hrun]
            simp [List.append_assoc]
          have HFW : Hid ((acc ++ Lib.encodeRune r).length + 6 * (u.drop run).length ≤ 6 * 400) := by
            show _ ≤ _
            have h1 := (Lib.runeCells_le r).2
            rw [Lib.runeCells_length] at h1
            have h2 := decB_length run
            rw [List.length_drop, hN.out]
            simp only [List.length_append]
            omega
          have HLT : Hid (Ints w (.slice (if c = run then some ⟨lb, lo, none⟩ else some ⟨lb, lo + run, none⟩) (N - run) (c - run)) (nI (u.drop run))) := by
            show Ints _ _ _
            split
            · refine Or.inl ⟨?_, some ⟨lb, lo, none⟩, c - run, ?_⟩
              · rw [List.drop_eq_nil_of_le (by rw [hN.out]; omega)]; rfl
              · rw [show N - run = 0 by omega]
            · exact hR.out.lat.drop9 hN.out hr2
          have HDN : Hid ((u.drop run).length = N - run) := by show _ = _; rw [List.length_drop, hN.out]
          have HUD : Hid (∀ x, x ∈ u.drop run → x < C) := fun x hx => hU.out x (List.mem_of_mem_drop hx)
          have HBX := hide hbld2
          clear hbld2
          have hk1 := (hB2.cell (p := ⟨lb, lo, none⟩) hlb).trans hc0
          have hk2 := (hB2.cell (p := ⟨cb, co + x * 2, none⟩) hcb).trans a1
          have hsX := hB2.size
          have HWR := hide (writeRune_ok w.heap.size w.heap.size (acc) r sr1 sr2 w2 HBX.out (by omega) hsX)
          clear hR HEQ
          go_wp2_with fail
          refine HWR.out.mono ?_
          rintro e w4 ⟨⟨xv, rfl⟩, hbl4, hb4⟩
          have HF : Hid (PRel cs L w.heap.size w w4 (.slice (if c = run then some ⟨lb, lo, none⟩ else some ⟨lb, lo + run, none⟩) (N - run) (c - run)) (u.drop run) (acc ++ Lib.encodeRune r)) := ⟨HLT.out, hbl4, HAC.out, HFW.out, hB2.trans hb4⟩
          clear hbl4 hb4 HWR HBX HAC HFW HLT
          go_wp2
          go_roundw
          case rel => exact ⟨u.drop run, _, _, _, by rw [HDN.out], HUD, HF⟩
          case measure => simp [sLen]; omega
      · have hN0 : ¬ (0 : Int) < (N : Int) := by omega
        have hu0 : u = [] := List.length_eq_zero_iff.1 (by rw [hN.out]; omega)
        have HLA : Hid (L = acc) := by
          show L = acc
          have := hR.out.eq
          rw [hu0] at this
          simpa [pF] using this
        have HST := hide (fun W (hW : Below wr.heap.size wr W) => bString_ok w.heap.size w.heap.size acc wr hR.out.bld hbs)
        have HS2 := hide (bString_ok w.heap.size w.heap.size acc wr hR.out.bld hbs)
        have HBw := hide hR.out.below
        rw [← HLA.out] at HS2
        clear hR HST hU
        go_wp2_with fail
        refine HS2.out.mono ?_
        rintro e w3 ⟨rfl, hb3⟩
        have HB3 := hide (HBw.out.trans hb3)
        clear hb3 HS2 HBw
        go_wp2
        go_ret2
        exact ⟨rfl, HB3.out⟩
  · rw [if_neg hz]
    obtain ⟨lp, lc, rfl⟩ := hl.form
    generalize lErr cs.length ls = er at *
    have hzz : (er != 0) = true := by simpa using hz
    clear hz hl hcv hsr
    generalize ls.length = T at *
    generalize cs.length = C at *
    go_enter Tryd.func10, Tryd.ntmps10
    go_wp2_with fail
    refine HCL.out.mono ?_
    rintro e w1 ⟨rfl, rfl⟩
    go_wp2
    go_ret2
    exact ⟨rfl, Below.refl _ _⟩

end Go.Proofs.YtenpkhalgkodbaaDoor
