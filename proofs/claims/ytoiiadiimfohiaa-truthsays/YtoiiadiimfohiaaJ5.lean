/- Joined: MdC, MdD, SbD, SbI, MdE. -/
import Derived.Test.YtoiiadiimfohiaaJ4
import Derived.Test.YtoiiadiimfohiaaJ0
/- What is wrong with calls and leads; contracts at every call: call.checkOne. -/
namespace Go.Proofs.Ytoiiadiimfohiaa
open Go.RowKit
set_option maxRecDepth 20000
set_option linter.unusedVariables false

/-- A call: its sign and its changes. -/
abbrev Cl := Int × List (List Int)

/-- What is wrong with a call behind others. -/
def oErr (n : Int) (K : Nat) (ah : List Cl) (c : Cl) : Int :=
  if sgnR c.1 = true then (if c.1 ∈ ah.map Prod.fst then 8 else if K < c.2.length then 1 else fstE n c.2) else 4

def cFst (n : Int) (K : Nat) : List Cl → List Cl → Int
  | _, [] => 0
  | ah, c :: r => if oErr n K ah c = 0 then cFst n K (ah ++ [c]) r else oErr n K ah c

theorem cl_at {cs : List Cl} {j : Nat} (h : j < cs.length) : cs.drop j = cs.getD j (0, []) :: cs.drop (j + 1) ∧ cs.take (j + 1) = cs.take j ++ [cs.getD j (0, [])] := by
  have e : cs.getD j (0, []) = cs[j] := by simp [List.getD, h]
  rw [e]
  exact ⟨List.drop_eq_getElem_cons h, List.take_succ_eq_append_getElem h⟩

theorem cFst_ok {n : Int} {K : Nat} {cs : List Cl} {j : Nat} (h : j < cs.length) (hz : oErr n K (cs.take j) (cs.getD j (0, [])) = 0) : cFst n K (cs.take j) (cs.drop j) = cFst n K (cs.take (j + 1)) (cs.drop (j + 1)) := by
  rw [(cl_at h).1, (cl_at h).2, cFst, if_pos hz]

theorem cFst_bad {n : Int} {K : Nat} {cs : List Cl} {j : Nat} (h : j < cs.length) (hz : oErr n K (cs.take j) (cs.getD j (0, [])) ≠ 0) : cFst n K (cs.take j) (cs.drop j) = oErr n K (cs.take j) (cs.getD j (0, [])) := by
  rw [(cl_at h).1, cFst, if_neg hz]

/-- What is wrong with calls. -/
def cErr (s : ByteArray) (n : Int) (X : List (List Int)) (cs : List Cl) : Int :=
  if mErr s n X = 0 then (if cs.length < 1 ∨ 8 < cs.length then 1 else cFst n X.length [] cs) else mErr s n X

/-- What is wrong with leads. -/
def lErr (C : Nat) (ls : List Int) : Int :=
  if ls.length < 1 ∨ 400 < ls.length then 1 else if ∀ l, l ∈ ls → 0 ≤ l ∧ l < (C : Int) then 0 else 12

/-- What is wrong with a touch. -/
def tErr (s : ByteArray) (n : Int) (X : List (List Int)) (cs : List Cl) (ls : List Int) : Int :=
  if cErr s n X cs = 0 then (if lErr cs.length ls = 0 then (if 20000 < ls.length * X.length then 3 else 0) else lErr cs.length ls) else cErr s n X cs

/-- Calls in memory, none too. -/
def CallsIn (w : World) (v : Value) (cs : List Cl) : Prop := (cs = [] ∧ ∃ p c, v = .slice p 0 c) ∨ (1 ≤ cs.length ∧ CallsAt w v cs)

theorem CallsIn.below {w w' : World} {v : Value} {cs : List Cl} (h : CallsIn w v cs) (hb : Below w.heap.size w w') : CallsIn w' v cs := by
  rcases h with h | ⟨h1, h2⟩
  · exact Or.inl h
  · exact Or.inr ⟨h1, h2.below hb⟩

theorem CallsIn.form {w : World} {v : Value} {cs : List Cl} (h : CallsIn w v cs) : ∃ p c, v = .slice p cs.length c := by
  rcases h with ⟨rfl, p, c, rfl⟩ | ⟨h1, b, off, cap, rfl, _⟩
  · exact ⟨p, c, rfl⟩
  · exact ⟨_, cap, rfl⟩

set_option maxHeartbeats 1000000 in
theorem isSign_any (r s : Int) (u : Value) (B : Nat) (w : World) (hB : w.cell? ⟨B, 0, none⟩ = some (.int .i32 s)) (hb : B < w.heap.size) :
    Calls Try.prog 113 #[.agg #[.int .i32 r, u], .pointer (some ⟨B, 0, none⟩)] w fun e w' => e = .returned (.bool (r == s)) ∧ Below w.heap.size w w' := by
  have hB1 : Below w.heap.size w (w.alloc (.cells #[.int .i32 r, u] 47)) := (Below.refl _ _).alloc (Nat.le_refl _) _
  have g1 : (w.alloc (.cells #[.int .i32 r, u] 47)).cell? ⟨B, 0, none⟩ = some (.int .i32 s) := (hB1.cell (p := ⟨B, 0, none⟩) hb).trans hB
  have g2 : (w.alloc (.cells #[.int .i32 r, u] 47)).cell? ⟨w.heap.size, 0, none⟩ = some (.int .i32 r) := by
    have h9 := heap_alloc_new w (.cells #[.int .i32 r, u] 47)
    unfold World.cell?
    simp only [h9]
    rfl
  clear hB
  generalize hq : (r == s) = q at *
  go_enter Try.func113, Try.ntmps113
  go_wp2
  go_ret
  exact ⟨rfl, hB1⟩

set_option maxHeartbeats 1000000 in
theorem indexSign_any (s : Int) (B : Nat) (b off cap : Nat) (sg : List Int) (w : World) (hB : w.cell? ⟨B, 0, none⟩ = some (.int .i32 s)) (hb : B < w.heap.size) (hbl : b < w.heap.size)
    (hcell : ∀ k, k < sg.length → ∃ u, w.cell? ⟨b, off + k * 2, none⟩ = some (.int .i32 (sg.getD k 0)) ∧ w.cell? ⟨b, off + k * 2 + 1, none⟩ = some u ∧ u.oneCell' = true) (hm3 : sg.length ≤ 1000) :
    Calls Try.prog 112 #[.slice (some ⟨b, off, none⟩) sg.length cap, .func (.func 113) #[] #[.pointer (some ⟨B, 0, none⟩)]] w fun e w' => (∃ i : Int, e = .returned (.int .i64 i) ∧ (0 ≤ i ↔ s ∈ sg)) ∧ Below w.heap.size w w' := by
  have HC := hide hcell
  have HB := hide hB
  obtain ⟨m, hm⟩ : ∃ m, Hid (sg.length = m) := ⟨_, rfl⟩
  rw [hm.out] at HC hm3 ⊢
  clear hcell hB
  go_enter Try.func112, Try.ntmps112
  go_wp2
  go_loopw [8] (fun i wr => ∃ k : Nat, k ≤ m ∧ i = .int .i64 k ∧ Hid (∀ j, j < k → sg.getD j 0 ≠ s) ∧ Below w.heap.size w wr) (fun i _ => m - (intOf i).toNat)
  case atStart => exact ⟨0, by omega, rfl, (fun j hj => absurd hj (by omega)), Below.refl _ _⟩
  case round =>
    obtain ⟨k, hk, rfl, hN, hbw⟩ := hrel
    have hbs := hbw.size
    by_cases hlt : k < m
    · obtain ⟨u, a1, a2, a4⟩ := HC.out k hlt
      have g1 : wr.cell? ⟨b, off + k * 2, none⟩ = some (.int .i32 (sg.getD k 0)) := (hbw.cell (by exact hbl)).trans a1
      have g2 : wr.cell? ⟨b, off + k * 2 + 1, none⟩ = some u := (hbw.cell (p := ⟨b, off + k * 2 + 1, none⟩) (by exact hbl)).trans a2
      have HK := hide (isSign_any (sg.getD k 0) s u B wr ((hbw.cell (p := ⟨B, 0, none⟩) hb).trans HB.out) (by omega))
      clear a1 a2
      by_cases he : sg.getD k 0 = s
      · have HI : Hid (s ∈ sg) := by
          have hk' : k < sg.length := by rw [hm.out]; exact hlt
          show s ∈ sg
          rw [← he, List.getD, List.getElem?_eq_getElem hk', Option.getD_some]
          exact List.getElem_mem _
        rw [show (sg.getD k 0 == s) = true from by simpa using he] at HK
        clear he hN
        generalize sg.getD k 0 = r at *
        go_wp2_with fail
        refine HK.out.mono ?_
        rintro e w2 ⟨rfl, hb2⟩
        have hB2 : Below w.heap.size w w2 := hbw.trans (hb2.mono hbs)
        clear hb2
        go_wp2
        go_ret
        exact ⟨⟨(k : Int), rfl, ⟨fun _ => HI.out, fun _ => by omega⟩⟩, hB2⟩
      · rw [show (sg.getD k 0 == s) = false from by rw [beq_eq_false_iff_ne]; exact he] at HK
        have HN2 : Hid (∀ j, j < k + 1 → sg.getD j 0 ≠ s) := fun j hj => by
          rcases Nat.lt_succ_iff_lt_or_eq.1 hj with h | h
          · exact hN.out j h
          · rw [h]; exact he
        clear he hN
        generalize sg.getD k 0 = r at *
        go_wp2_with fail
        refine HK.out.mono ?_
        rintro e w2 ⟨rfl, hb2⟩
        have hB2 : Below w.heap.size w w2 := hbw.trans (hb2.mono hbs)
        clear hb2
        go_wp2
        go_roundw
        case rel => exact ⟨k + 1, by omega, by go_num, HN2, hB2⟩
        case measure => simp [intOf]; omega
    · have HNI : Hid (¬ s ∈ sg) := fun h => by
        obtain ⟨j, hj, e⟩ := List.getElem_of_mem h
        have := hN.out j (by rw [hm.out] at hj; omega)
        rw [List.getD, List.getElem?_eq_getElem hj, Option.getD_some] at this
        exact this e
      clear hN
      go_wp2
      go_ret
      exact ⟨⟨-1, rfl, ⟨fun h => absurd h (by omega), fun h => absurd h HNI.out⟩⟩, hbw⟩

set_option maxHeartbeats 1000000 in
theorem find_all (s : Int) (b off cap : Nat) (sg : List Int) (w : World) (hbl : b < w.heap.size)
    (hcell : ∀ k, k < sg.length → ∃ u, w.cell? ⟨b, off + k * 2, none⟩ = some (.int .i32 (sg.getD k 0)) ∧ w.cell? ⟨b, off + k * 2 + 1, none⟩ = some u ∧ u.oneCell' = true) (hm3 : sg.length ≤ 1000) :
    Calls Try.prog 95 #[.slice (some ⟨b, off, none⟩) sg.length cap, .int .i32 s] w fun e w' => (∃ i : Int, e = .returned (.int .i64 i) ∧ (0 ≤ i ↔ s ∈ sg)) ∧ Below w.heap.size w w' := by
  have hmf : ∀ (fn : Fn) (first cap : Array Value) (w : World), (Instr.makeFunc fn first cap).run Try.prog w = .ok (.func fn first cap) w := fun _ _ _ _ => rfl
  have hB1 : Below w.heap.size w (w.alloc (.cells #[.int .i32 s] 21)) := (Below.refl _ _).alloc (Nat.le_refl _) _
  have h9 := heap_alloc_new w (.cells #[.int .i32 s] 21)
  have HI := hide (indexSign_any s w.heap.size b off cap sg (w.alloc (.cells #[.int .i32 s] 21)) (by unfold World.cell?; simp only [h9]; rfl) (by simp) (by simp; omega) (fun k hk => by
    obtain ⟨u, a1, a2, a3⟩ := hcell k hk
    exact ⟨u, (hB1.cell (p := ⟨b, off + k * 2, none⟩) hbl).trans a1, (hB1.cell (p := ⟨b, off + k * 2 + 1, none⟩) hbl).trans a2, a3⟩) hm3)
  obtain ⟨m, hm⟩ : ∃ m, Hid (sg.length = m) := ⟨_, rfl⟩
  rw [hm.out] at HI ⊢
  clear hcell h9 hm3
  go_enter Try.func95, Try.ntmps95
  go_wp2_with fail
  refine HI.out.mono ?_
  rintro e w2 ⟨⟨i, rfl, hi⟩, hb2⟩
  have hB2 : Below w.heap.size w w2 := hB1.trans (hb2.mono (by simp))
  have HII := hide hi
  clear hb2 hB1 hi
  go_wp2
  go_ret
  exact ⟨⟨i, rfl, HII.out⟩, hB2⟩

set_option maxHeartbeats 4000000 in
theorem checkOne_all (sn : ByteArray) (n : Int) (vp : Option Addr) (k vc : Nat) (s : Int) (cv : Value) (css : List (List Int)) (b off cap : Nat) (ah : List Cl) (w : World) (hbl : b < w.heap.size)
    (hcell : ∀ k, k < ah.length → ∃ u, w.cell? ⟨b, off + k * 2, none⟩ = some (.int .i32 (ah.getD k (0, [])).1) ∧ w.cell? ⟨b, off + k * 2 + 1, none⟩ = some u ∧ u.oneCell' = true) (hm3 : ah.length ≤ 1000) (hcv : IntsAll w cv css) :
    Calls Try.prog 69 #[meth sn n (.slice vp k vc), .slice (some ⟨b, off, none⟩) ah.length cap, .agg #[.int .i32 s, cv]] w fun e w' => e = .returned (.int .i64 (oErr n k ah (s, css))) ∧ Below w.heap.size w w' := by
  obtain ⟨cp, cc, rfl⟩ := hcv.len
  have hBW : Below w.heap.size w ((w.alloc (.cells #[.string sn, .int .i64 n, .slice vp k vc] 24)).alloc (.cells #[.int .i32 s, .slice cp css.length cc] 47)) := ((Below.refl _ _).alloc (Nat.le_refl _) _).alloc (by simp) _
  have hbox := ((Box.start w sn n (.slice vp k vc) 24).below ((Below.refl _ _).alloc (Nat.le_refl _) (.cells #[.int .i32 s, .slice cp css.length cc] 47)))
  have h9 := heap_alloc_new (w.alloc (.cells #[.string sn, .int .i64 n, .slice vp k vc] 24)) (.cells #[.int .i32 s, .slice cp css.length cc] 47)
  rw [show (w.alloc (.cells #[.string sn, .int .i64 n, .slice vp k vc] 24)).heap.size = w.heap.size + 1 from by simp] at h9
  have c0 : ((w.alloc (.cells #[.string sn, .int .i64 n, .slice vp k vc] 24)).alloc (.cells #[.int .i32 s, .slice cp css.length cc] 47)).cell? ⟨w.heap.size + 1, 0, none⟩ = some (.int .i32 s) := by
    unfold World.cell?; simp only [h9]; rfl
  have c1 : ((w.alloc (.cells #[.string sn, .int .i64 n, .slice vp k vc] 24)).alloc (.cells #[.int .i32 s, .slice cp css.length cc] 47)).cell? ⟨w.heap.size + 1, 1, none⟩ = some (.slice cp css.length cc) := by
    unfold World.cell?; simp only [h9]; rfl
  have HSG := hide (fun W => sign_any s W)
  have HFD := hide (fun W (hb : Below w.heap.size w W) => find_all s b off cap (ah.map Prod.fst) W (Nat.lt_of_lt_of_le hbl hb.size) (fun k hk => by
    have hk' : k < ah.length := by simpa using hk
    obtain ⟨u, a1, a2, a3⟩ := hcell k hk'
    have e : (ah.map Prod.fst).getD k 0 = (ah.getD k (0, [])).1 := by simp [List.getD, hk']
    rw [e]
    exact ⟨u, (hb.cell (p := ⟨b, off + k * 2, none⟩) hbl).trans a1, (hb.cell (p := ⟨b, off + k * 2 + 1, none⟩) hbl).trans a2, a3⟩) (by rw [List.length_map]; exact hm3))
  rw [List.length_map] at HFD
  have HCV := hide hcv
  have HBX := hide hbox
  obtain ⟨m, hm⟩ : ∃ m, Hid (ah.length = m) := ⟨_, rfl⟩
  rw [hm.out] at HFD ⊢
  obtain ⟨N, hN⟩ : ∃ N, Hid (css.length = N) := ⟨_, rfl⟩
  rw [hN.out] at hBW c0 c1 HBX ⊢
  clear hcell hcv h9 hbox hm3
  unfold meth
  unfold oErr
  rw [hN.out]
  cases hsg : sgnR s with
  | false =>
    rw [if_neg (by simp)]
    rw [hsg] at HSG
    clear hsg
    go_enter Try.func69, Try.ntmps69
    go_wp2_with fail
    refine (HSG.out _).mono ?_
    rintro e w' ⟨rfl, rfl⟩
    go_wp2
    go_ret
    exact ⟨rfl, hBW⟩
  | true =>
    rw [if_pos rfl]
    rw [hsg] at HSG
    clear hsg
    by_cases hin : s ∈ ah.map Prod.fst
    · rw [if_pos hin]
      have HIN := hide hin
      clear hin
      go_enter Try.func69, Try.ntmps69
      go_wp2_with fail
      refine (HSG.out _).mono ?_
      rintro e w' ⟨rfl, rfl⟩
      go_wp2_with fail
      refine (HFD.out _ hBW).mono ?_
      rintro e w2 ⟨⟨i, rfl, hi⟩, hb2⟩
      have hi0 : 0 ≤ i := hi.2 HIN.out
      have HB2 := hide (hBW.trans (hb2.mono hBW.size))
      clear hi hb2 c0 c1 HSG HFD HBX
      go_wp2
      go_ret
      exact ⟨rfl, HB2.out⟩
    · rw [if_neg hin]
      have HIN := hide hin
      clear hin
      by_cases hkl : k < N
      · rw [if_pos hkl]
        have hgd : decide (((k : Nat) : Int) < ((N : Nat) : Int)) = true := decide_eq_true (by omega)
        have hgn : decide (k < N) = true := decide_eq_true hkl
        have hgi : (k : Int) < (N : Int) := by omega
        go_enter Try.func69, Try.ntmps69
        go_wp2_with fail
        refine (HSG.out _).mono ?_
        rintro e w' ⟨rfl, rfl⟩
        go_wp2_with fail
        refine (HFD.out _ hBW).mono ?_
        rintro e w2 ⟨⟨i, rfl, hi⟩, hb2⟩
        have hi0 : ¬ 0 ≤ i := fun h => HIN.out (hi.1 h)
        have HB2 := hide (hBW.trans (hb2.mono hBW.size))
        have d1 : w2.cell? ⟨w.heap.size + 1, 1, none⟩ = some (.slice cp N cc) := (hb2.cell (p := ⟨w.heap.size + 1, 1, none⟩) (by simp)).trans c1
        have e2 := (HBX.out.below hb2).c2
        clear hi hb2 c0 c1 HSG HFD HBX
        go_wp2
        go_ret
        exact ⟨rfl, HB2.out⟩
      · rw [if_neg hkl]
        obtain ⟨E, hE⟩ : ∃ E, Hid (fstE n css = E) := ⟨_, rfl⟩
        rw [hE.out]
        have hgd : decide (((k : Nat) : Int) < ((N : Nat) : Int)) = false := decide_eq_false (by omega)
        have hgn : decide (k < N) = false := decide_eq_false hkl
        go_enter Try.func69, Try.ntmps69
        go_wp2_with fail
        refine (HSG.out _).mono ?_
        rintro e w' ⟨rfl, rfl⟩
        go_wp2_with fail
        refine (HFD.out _ hBW).mono ?_
        rintro e w2 ⟨⟨i, rfl, hi⟩, hb2⟩
        have hi0 : ¬ 0 ≤ i := fun h => HIN.out (hi.1 h)
        have hB2 : Below w.heap.size w w2 := hBW.trans (hb2.mono hBW.size)
        have d1 : w2.cell? ⟨w.heap.size + 1, 1, none⟩ = some (.slice cp N cc) := (hb2.cell (p := ⟨w.heap.size + 1, 1, none⟩) (by simp)).trans c1
        have hx2 := HBX.out.below hb2
        have e1 := hx2.c1
        have e2 := hx2.c2
        have HB2 := hide hB2
        have HE1 := hide e1
        clear c0 c1 hb2 HSG HFD hBW HBX hx2 hB2 hkl hi
        go_wp2
        go_loopw [32] (fun i wr => ∃ j : Nat, j ≤ N ∧ i = .int .i64 j ∧ Hid (E = fstE n (css.drop j)) ∧ Hid (Below w.heap.size w wr) ∧ Hid (wr.cell? ⟨w.heap.size, 1, none⟩ = some (.int .i64 n))) (fun i _ => N - (intOf i).toNat)
        case atStart => exact ⟨0, by omega, rfl, hE.out.symm, HB2, HE1⟩
        case round =>
          clear e1 HB2 HE1 d1 e2
          obtain ⟨j, hj, rfl, hEk, hbw, hen⟩ := hrel
          have hB2 := hbw.out
          have e1 := hen.out
          by_cases hlt : j < N
          · have hjX : j < css.length := by rw [hN.out]; exact hlt
            obtain ⟨b3, off3, cap3, he, hb3, hlc3, hcm3, hcell3⟩ := (HCV.out.below hB2).cell (by rw [hN.out]; omega)
            rw [hN.out] at he hlc3 hcell3
            simp only [Value.slice.injEq] at he
            obtain ⟨rfl, he2, rfl⟩ := he
            clear he2
            obtain ⟨q, c, hce, hint⟩ := hcell3 j hlt
            have HPC := hide (pcheck_all n _ _ _ hint.out)
            clear hint hcell3
            by_cases hz : pc n (css.getD j []) = 0
            · have HEN : Hid (E = fstE n (css.drop (j + 1))) := hEk.out.trans (fstE_ok hjX hz)
              rw [hz] at HPC
              clear hz hEk
              generalize (css.getD j []).length = pl at hce HPC
              go_wp2_with fail
              refine HPC.out.mono ?_
              rintro e w' ⟨rfl, rfl⟩
              go_wp2
              go_roundw
              case rel => exact ⟨j + 1, by omega, by go_num, HEN, hbw, hen⟩
              case measure => simp [intOf]; omega
            · have HEN : Hid (E = pc n (css.getD j [])) := hEk.out.trans (fstE_bad hjX hz)
              have hzz : (pc n (css.getD j []) != 0) = true := by simpa using hz
              clear hz hEk
              generalize (css.getD j []).length = pl at hce HPC
              generalize pc n (css.getD j []) = pe at *
              go_wp2_with fail
              refine HPC.out.mono ?_
              rintro e w' ⟨rfl, rfl⟩
              go_wp2
              go_ret
              exact ⟨ret_int HEN.out.symm, hB2⟩
          · obtain rfl : j = N := by omega
            have HEN : Hid (E = 0) := by show E = 0; rw [hEk.out, List.drop_eq_nil_of_le (by rw [hN.out]; exact Nat.le_refl _)]; rfl
            clear hEk
            go_wp2
            go_ret
            exact ⟨ret_int HEN.out.symm, hB2⟩

end Go.Proofs.Ytoiiadiimfohiaa

/- Contracts at every input: call.Check, call.checkLeads, call.May. -/
namespace Go.Proofs.Ytoiiadiimfohiaa
open Go.RowKit
set_option maxRecDepth 20000
set_option linter.unusedVariables false

set_option maxHeartbeats 8000000 in
theorem ccheck_all (s : ByteArray) (n : Int) (vp : Option Addr) (vc : Nat) (css : List (List Int)) (cv : Value) (cs : List Cl) (w : World) (hs : s.size ≤ 9223372036854775807)
    (hv : IntsAll w (.slice vp css.length vc) css) (hcv : CallsIn w cv cs) :
    Calls Try.prog 46 #[meth s n (.slice vp css.length vc), cv] w fun e w' => e = .returned (.int .i64 (cErr s n css cs)) ∧ Below w.heap.size w w' := by
  have hB0 : Below w.heap.size w (w.alloc (.cells #[.string s, .int .i64 n, .slice vp css.length vc] 24)) := (Below.refl _ _).alloc (Nat.le_refl _) _
  have HMC := hide (mcheck_all s n (.slice vp css.length vc) css (w.alloc (.cells #[.string s, .int .i64 n, .slice vp css.length vc] 24)) hs (hv.below hB0))
  have hbox := Box.start w s n (.slice vp css.length vc) 24
  obtain ⟨cp, cc, rfl⟩ := hcv.form
  have HBX := hide hbox
  unfold cErr
  generalize mErr s n css = me at *
  obtain ⟨K, hK⟩ : ∃ K, Hid (css.length = K) := ⟨_, rfl⟩
  rw [hK.out] at hB0 HMC HBX ⊢
  obtain ⟨C, hC⟩ : ∃ C, Hid (cs.length = C) := ⟨_, rfl⟩
  rw [hC.out]
  have HCV := hide hcv
  clear hv hbox hcv
  unfold meth at HMC
  unfold meth
  by_cases hz : me = 0
  · subst hz
    rw [if_pos rfl]
    by_cases hcl : C < 1 ∨ 8 < C
    · rw [if_pos hcl]
      go_enter Try.func46, Try.ntmps46
      go_wp2_with fail
      refine HMC.out.mono ?_
      rintro e w1 ⟨rfl, hb1⟩
      have HB1 := hide (hB0.trans (hb1.mono (by simp)))
      clear HMC HBX hb1 hB0
      by_cases h1 : (C : Int) < 1
      · clear hcl
        go_wp2
        go_ret
        exact ⟨rfl, HB1.out⟩
      · have h2 : 8 < (C : Int) := by omega
        clear hcl
        go_wp2
        go_ret
        exact ⟨rfl, HB1.out⟩
    · rw [if_neg hcl]
      have hC1 : ¬ (C : Int) < 1 := by omega
      have hC2 : ¬ 8 < (C : Int) := by omega
      have hC3 : 1 ≤ C ∧ C ≤ 8 := by omega
      obtain ⟨b, off, cap, hce, hb, hlc, hcm, hcell⟩ : CallsAt w (.slice cp C cc) cs := by
        rcases HCV.out with ⟨h1, _⟩ | ⟨_, h2⟩
        · exfalso; have := hC.out; rw [h1] at this; simp at this; omega
        · rw [hC.out] at h2; exact h2
      rw [hC.out] at hce hlc
      simp only [Value.slice.injEq] at hce
      obtain ⟨rfl, _, rfl⟩ := hce
      have HC := hide hcell
      obtain ⟨E, hE⟩ : ∃ E, Hid (cFst n K [] cs = E) := ⟨_, rfl⟩
      rw [hE.out]
      clear hcell HCV hcl
      go_enter Try.func46, Try.ntmps46
      go_wp2_with fail
      refine HMC.out.mono ?_
      rintro e w1 ⟨rfl, hb1⟩
      have hB1 : Below w.heap.size w w1 := hB0.trans (hb1.mono (by simp))
      have HX1 := hide (HBX.out.below hb1)
      clear HMC HBX hb1 hB0
      go_wp2
      go_loopw [24] (fun i wr => ∃ j : Nat, j ≤ C ∧ i = .int .i64 j ∧ Hid (E = cFst n K (cs.take j) (cs.drop j)) ∧ Hid (Box wr w.heap.size s n (.slice vp K vc)) ∧ Below w.heap.size w wr) (fun i _ => C - (intOf i).toNat)
      case atStart => exact ⟨0, by omega, rfl, hE.out.symm, HX1, hB1⟩
      case round =>
        clear HX1 hB1
        obtain ⟨j, hj, rfl, hEk, hX, hbw⟩ := hrel
        have hbs := hbw.size
        by_cases hlt : j < C
        · have hjc : j < cs.length := by rw [hC.out]; exact hlt
          obtain ⟨u, a1, a2, a3⟩ := HC.out j hjc
          have g1 : wr.cell? ⟨b, off + j * 2, none⟩ = some (.int .i32 (cs.getD j (0, [])).1) := (hbw.cell (by exact hb)).trans a1
          have g2 : wr.cell? ⟨b, off + j * 2 + 1, none⟩ = some u := (hbw.cell (p := ⟨b, off + j * 2 + 1, none⟩) (by exact hb)).trans a2
          obtain ⟨up, uc, rfl⟩ := a3.len
          have htl : (cs.take j).length = j := by rw [List.length_take]; omega
          have HCK := hide (fun W (hW : Below w.heap.size w W) => checkOne_all s n vp K vc (cs.getD j (0, [])).1 (.slice up (cs.getD j (0, [])).2.length uc) (cs.getD j (0, [])).2 b off cc (cs.take j) W (Nat.lt_of_lt_of_le hb hW.size) (fun i hi => by
            have hij : i < j := by rw [htl] at hi; exact hi
            obtain ⟨u', b1, b2, b3⟩ := HC.out i (by omega)
            obtain ⟨p', c', e'⟩ := b3.len
            have e1 : (cs.take j).getD i (0, []) = cs.getD i (0, []) := by simp [List.getD, hij]
            rw [e1]
            exact ⟨u', (hW.cell (p := ⟨b, off + i * 2, none⟩) hb).trans b1, (hW.cell (p := ⟨b, off + i * 2 + 1, none⟩) hb).trans b2, by rw [e']; rfl⟩) (by rw [htl]; omega) (a3.below hW))
          rw [htl] at HCK
          have HEZ : Hid (oErr n K (cs.take j) (cs.getD j (0, [])) = 0 → E = cFst n K (cs.take (j + 1)) (cs.drop (j + 1))) := fun h => hEk.out.trans (cFst_ok hjc h)
          have HEB : Hid (oErr n K (cs.take j) (cs.getD j (0, [])) ≠ 0 → E = oErr n K (cs.take j) (cs.getD j (0, []))) := fun h => hEk.out.trans (cFst_bad hjc h)
          have HCK2 : Hid (∀ W, Below w.heap.size w W → Calls Try.prog 69 #[meth s n (.slice vp K vc), .slice (some ⟨b, off, none⟩) j cc, .agg #[.int .i32 (cs.getD j (0, [])).1, .slice up (cs.getD j (0, [])).2.length uc]] W fun e w' => e = .returned (.int .i64 (oErr n K (cs.take j) (cs.getD j (0, [])))) ∧ Below W.heap.size W w') := HCK.out
          clear a1 a2 a3 HCK hEk htl
          generalize oErr n K (cs.take j) (cs.getD j (0, [])) = oe at *
          generalize (cs.getD j (0, [])).1 = sg at *
          generalize (cs.getD j (0, [])).2.length = ul at *
          unfold meth at HCK2
          go_upto_region 9 with fail
          have hXA := hX.out.below ((Below.refl wr.heap.size wr).alloc (Nat.le_refl _) (.cells #[.int .i32 sg, .slice up ul uc] 47))
          have h9 := heap_alloc_new wr (.cells #[.int .i32 sg, .slice up ul uc] 47)
          have hBA : Below w.heap.size w (wr.alloc (.cells #[.int .i32 sg, .slice up ul uc] 47)) := hbw.alloc hbs _
          have hRA : wr.heap.size < (wr.alloc (.cells #[.int .i32 sg, .slice up ul uc] 47)).heap.size := by simp
          have d0 : (wr.alloc (.cells #[.int .i32 sg, .slice up ul uc] 47)).cell? ⟨wr.heap.size, 0, none⟩ = some (.int .i32 sg) := by unfold World.cell?; simp only [h9]; rfl
          have d1 : (wr.alloc (.cells #[.int .i32 sg, .slice up ul uc] 47)).cell? ⟨wr.heap.size, 1, none⟩ = some (.slice up ul uc) := by unfold World.cell?; simp only [h9]; rfl
          have b0 := hXA.c0
          have b1 := hXA.c1
          have b2 := hXA.c2
          have hbl := hXA.lt
          have HXA := hide hXA
          clear h9 g1 g2 hX hXA
          generalize (wr.alloc (.cells #[.int .i32 sg, .slice up ul uc] 47)) = WA at *
          generalize wr.heap.size = RA at *
          refine wp_region_held_drew (S := fun W' => Below WA.heap.size WA W') (by kernel_rfl) (below_drewJ WA) (fun hS => ?_)
          refine wpAnyH_take (i := 0) (v := .agg #[.string s, .int .i64 n, .slice vp K vc]) rfl (by kernel_rfl) (by kernel_rfl) (by kernel_rfl) (fun _ _ _ h => h) (Or.inl ⟨by kernel_rfl, fun w' hS' => by have q0 := (Below.cell hS' (p := ⟨w.heap.size, 0, none⟩) (by exact hbl)).trans b0; have q1 := (Below.cell hS' (p := ⟨w.heap.size, 1, none⟩) (by exact hbl)).trans b1; have q2 := (Below.cell hS' (p := ⟨w.heap.size, 2, none⟩) (by exact hbl)).trans b2; clear hS'; go_simp⟩) hS ?_
          refine wpAnyH_take (i := 1) (v := .slice (some ⟨b, off, none⟩) C cc) rfl (by kernel_rfl) (by kernel_rfl) (by kernel_rfl) (fun _ _ _ h => h) (Or.inl ⟨by kernel_rfl, fun w' hS' => by clear hS'; go_simp⟩) hS ?_
          refine wpAnyH_take (i := 2) (v := .int .i64 (j : Int)) rfl (by kernel_rfl) (by kernel_rfl) (by kernel_rfl) (fun _ _ _ h => h) (Or.inl ⟨by kernel_rfl, fun w' hS' => by clear hS'; go_simp⟩) hS ?_
          refine wpAnyH_take (i := 3) (v := .slice (some ⟨b, off, none⟩) j cc) rfl (by kernel_rfl) (by kernel_rfl) (by kernel_rfl) (fun _ _ _ h => h) (Or.inl ⟨by kernel_rfl, fun w' hS' => by clear hS'; go_simp; intro h0; exact absurd h0 (by omega)⟩) hS ?_
          refine wpAnyH_take (i := 4) (v := .agg #[.int .i32 sg, .slice up ul uc]) rfl (by kernel_rfl) (by kernel_rfl) (by kernel_rfl) (fun _ _ _ h => h) (Or.inl ⟨by kernel_rfl, fun w' hS' => by have q0 := (Below.cell hS' (p := ⟨RA, 0, none⟩) (by exact hRA)).trans d0; have q1 := (Below.cell hS' (p := ⟨RA, 1, none⟩) (by exact hRA)).trans d1; clear hS'; go_simp⟩) hS ?_
          refine wpAnyH_ready (rs := [5]) (by kernel_rfl) (by simp) ?_
          refine AllReadyH.cons rfl (fun K9 hK9 => ?_) AllReadyH.nil
          go_simp
          have hS0 := below_drewJ WA
          refine (HCK2.out WA.drew (hBA.trans (hS0.mono hBA.size))).mono ?_
          rintro ex wo ⟨rfl, hbo⟩
          have hSo : Below WA.heap.size WA wo := hS0.trans (hbo.mono hS0.size)
          refine hK9.out _ _ hSo (fun hS => ?_)
          clear hK9
          refine wpAnyH_take (i := 6) (v := .int .i64 oe) rfl (by kernel_rfl) (by kernel_rfl) (by kernel_rfl) (fun _ _ _ h => h) (Or.inl ⟨by kernel_rfl, fun w' hS' => by clear hS'; go_simp⟩) hS ?_
          refine wpAnyH_done (by kernel_rfl) ?_ _
          have HXo := hide (HXA.out.below hSo)
          have hBo : Below w.heap.size w wo := hBA.trans (hSo.mono hBA.size)
          clear hSo hbo hS0 HCK2 HXA
          by_cases hoz : oe = 0
          · have HEN := hide (HEZ.out hoz)
            subst hoz
            clear HEZ HEB
            go_wp2
            go_roundw
            case rel => exact ⟨j + 1, by omega, by go_num, HEN, HXo, hBo⟩
            case measure => simp [intOf]; omega
          · have HEN := hide (HEB.out hoz)
            have hzz : (oe != 0) = true := by simpa using hoz
            clear HEZ HEB hoz
            go_wp2
            go_ret
            exact ⟨ret_int HEN.out.symm, hBo⟩
        · obtain rfl : j = C := by omega
          have HEN : Hid (E = 0) := by show E = 0; rw [hEk.out, List.drop_eq_nil_of_le (by rw [hC.out]; exact Nat.le_refl _)]; rfl
          clear hEk
          go_wp2
          go_ret
          exact ⟨ret_int HEN.out.symm, hbw⟩
  · rw [if_neg hz]
    have hzz : (me != 0) = true := by simpa using hz
    clear hz
    go_enter Try.func46, Try.ntmps46
    go_wp2_with fail
    refine HMC.out.mono ?_
    rintro e w1 ⟨rfl, hb1⟩
    have HB1 := hide (hB0.trans (hb1.mono (by simp)))
    clear HMC HBX hb1 hB0
    go_wp2
    go_ret
    exact ⟨rfl, HB1.out⟩

set_option maxHeartbeats 4000000 in
theorem checkLeads_all (cp : Option Addr) (C cc : Nat) (v : Value) (ls : List Int) (w : World) (h : Ints w v ls) :
    Calls Try.prog 73 #[.slice cp C cc, v] w fun e w' => e = .returned (.int .i64 (lErr C ls)) ∧ w = w' := by
  obtain ⟨lp, lc, rfl⟩ := h.form
  obtain ⟨N, hN⟩ : ∃ N, Hid (ls.length = N) := ⟨_, rfl⟩
  have HI := hide h
  unfold lErr
  rw [hN.out] at HI ⊢
  clear h
  by_cases hl : N < 1 ∨ 400 < N
  · rw [if_pos hl]
    by_cases h1 : (N : Int) < 1
    · clear hl
      go_enter Try.func73, Try.ntmps73
      go_wp2
      go_ret
      exact ⟨rfl, rfl⟩
    · have h2 : 400 < (N : Int) := by omega
      clear hl
      go_enter Try.func73, Try.ntmps73
      go_wp2
      go_ret
      exact ⟨rfl, rfl⟩
  · rw [if_neg hl]
    rcases HI.out with ⟨hnil, _⟩ | ⟨b, off, cap, hle, h0, hc, hm, hb, hcell⟩
    · exfalso; have := hN.out; rw [hnil] at this; simp at this; omega
    rw [hN.out] at hle hc
    simp only [Value.slice.injEq] at hle
    obtain ⟨rfl, _, rfl⟩ := hle
    have HC := hide hcell
    have h1 : ¬ (N : Int) < 1 := by omega
    have h2 : ¬ 400 < (N : Int) := by omega
    obtain ⟨E, hE⟩ : ∃ E : Int, Hid ((if ∀ l, l ∈ ls → 0 ≤ l ∧ l < (C : Int) then 0 else 12) = E) := ⟨_, rfl⟩
    rw [hE.out]
    clear hl hcell HI
    go_enter Try.func73, Try.ntmps73
    go_wp2
    go_loop [17] (fun i => ∃ k : Nat, k ≤ N ∧ i = .int .i64 k ∧ Hid (∀ j, j < k → 0 ≤ ls.getD j 0 ∧ ls.getD j 0 < (C : Int))) (fun i => N - (intOf i).toNat)
    case atStart => exact ⟨0, by omega, rfl, (fun j hj => absurd hj (by omega))⟩
    case round =>
      obtain ⟨k, hk, rfl, hA⟩ := hrel
      by_cases hlt : k < N
      · have hkl : k < ls.length := by rw [hN.out]; exact hlt
        obtain ⟨y, hy, hcx⟩ := cellAt HC.out hkl
        have hyk : ls.getD k 0 = y := hy.out
        have hym : y ∈ ls := by
          rw [← hyk, List.getD, List.getElem?_eq_getElem hkl, Option.getD_some]
          exact List.getElem_mem _
        by_cases hyb : 0 ≤ y ∧ y < (C : Int)
        · have HA2 : Hid (∀ j, j < k + 1 → 0 ≤ ls.getD j 0 ∧ ls.getD j 0 < (C : Int)) := fun j hj => by
            rcases Nat.lt_succ_iff_lt_or_eq.1 hj with h | h
            · exact hA.out j h
            · rw [h, hyk]; exact hyb
          have hy3 : ¬ y < 0 := by omega
          have hy4 : ¬ y ≥ (C : Int) := by omega
          clear hy hym hyk hyb hA
          go_wp2
          go_round
          case rel => exact ⟨k + 1, by omega, by go_num, HA2⟩
          case measure => simp [intOf]; omega
        · have HE : Hid (E = 12) := by show E = 12; rw [← hE.out, if_neg (fun h => hyb (h y hym))]
          by_cases hy3 : y < 0
          · clear hy hym hyk hyb hA
            go_wp2
            go_ret
            exact ⟨ret_int HE.out.symm, rfl⟩
          · have hy4 : y ≥ (C : Int) := by omega
            clear hy hym hyk hyb hA
            go_wp2
            go_ret
            exact ⟨ret_int HE.out.symm, rfl⟩
      · obtain rfl : k = N := by omega
        have HE : Hid (E = 0) := by
          show E = 0
          rw [← hE.out, if_pos]
          intro l hl
          obtain ⟨j, hj, e⟩ := List.getElem_of_mem hl
          have := hA.out j (by rw [hN.out] at hj; exact hj)
          rw [List.getD, List.getElem?_eq_getElem hj, Option.getD_some, e] at this
          exact this
        clear hA
        go_wp2
        go_ret
        exact ⟨ret_int HE.out.symm, rfl⟩

set_option maxHeartbeats 4000000 in
theorem may_all (s : ByteArray) (n : Int) (vp : Option Addr) (vc : Nat) (css : List (List Int)) (cv : Value) (cs : List Cl) (lv : Value) (ls : List Int) (w : World) (hs : s.size ≤ 9223372036854775807)
    (hv : IntsAll w (.slice vp css.length vc) css) (hcv : CallsIn w cv cs) (hl : Ints w lv ls) :
    Calls Try.prog 52 #[meth s n (.slice vp css.length vc), cv, lv] w fun e w' => e = .returned (.int .i64 (tErr s n css cs ls)) ∧ Below w.heap.size w w' := by
  have hB0 : Below w.heap.size w (w.alloc (.cells #[.string s, .int .i64 n, .slice vp css.length vc] 24)) := (Below.refl _ _).alloc (Nat.le_refl _) _
  have HCC := hide (ccheck_all s n vp vc css cv cs (w.alloc (.cells #[.string s, .int .i64 n, .slice vp css.length vc] 24)) hs (hv.below hB0) (hcv.below hB0))
  have hbox := Box.start w s n (.slice vp css.length vc) 24
  obtain ⟨cp, cc, rfl⟩ := hcv.form
  have HCL := hide (fun W (hW : Below w.heap.size w W) => checkLeads_all cp cs.length cc lv ls W (hl.below hW))
  obtain ⟨lp, lc, rfl⟩ := hl.form
  have HBX := hide hbox
  have hmi : ((ls.length : Int)) * (css.length : Int) = ((ls.length * css.length : Nat) : Int) := (Int.natCast_mul _ _).symm
  have HSM : Hid (cErr s n css cs = 0 → lErr cs.length ls = 0 → ls.length * css.length ≤ 80000) := fun h1 h2 => by
    have a1 : mErr s n css = 0 := by
      unfold cErr at h1
      split at h1
      · assumption
      · rename_i h; exact absurd h1 h
    have a2 : css.length ≤ 200 := by
      unfold mErr at a1
      split at a1
      · split at a1
        · cases a1
        · omega
      · cases a1
    have a3 : ls.length ≤ 400 := by
      unfold lErr at h2
      split at h2
      · cases h2
      · omega
    exact Nat.mul_le_mul a3 a2
  clear hv hbox hl hcv
  unfold tErr
  generalize ls.length * css.length = P at *
  generalize cErr s n css cs = ce at *
  generalize lErr cs.length ls = le at *
  generalize css.length = K at *
  generalize ls.length = N at *
  generalize cs.length = C at *
  unfold meth at HCC
  unfold meth
  by_cases hz : ce = 0
  · subst hz
    rw [if_pos rfl]
    by_cases hlz : le = 0
    · subst hlz
      rw [if_pos rfl]
      have hPb := HSM.out rfl rfl
      by_cases hP : 20000 < P
      · rw [if_pos hP]
        have hPi : 20000 < (P : Int) := by omega
        go_enter Try.func52, Try.ntmps52
        go_wp2_with fail
        refine HCC.out.mono ?_
        rintro e w1 ⟨rfl, hb1⟩
        have hB1 : Below w.heap.size w w1 := hB0.trans (hb1.mono (by simp))
        have g2 := (HBX.out.below hb1).c2
        clear HCC HBX hb1 hB0
        go_wp2_with fail
        refine (HCL.out w1 hB1).mono ?_
        rintro e w2 ⟨rfl, rfl⟩
        clear HCL
        go_wp2
        go_ret
        exact ⟨rfl, hB1⟩
      · rw [if_neg hP]
        have hPi : ¬ 20000 < (P : Int) := by omega
        go_enter Try.func52, Try.ntmps52
        go_wp2_with fail
        refine HCC.out.mono ?_
        rintro e w1 ⟨rfl, hb1⟩
        have hB1 : Below w.heap.size w w1 := hB0.trans (hb1.mono (by simp))
        have g2 := (HBX.out.below hb1).c2
        clear HCC HBX hb1 hB0
        go_wp2_with fail
        refine (HCL.out w1 hB1).mono ?_
        rintro e w2 ⟨rfl, rfl⟩
        clear HCL
        go_wp2
        go_ret
        exact ⟨rfl, hB1⟩
    · rw [if_neg hlz]
      have hzz : (le != 0) = true := by simpa using hlz
      clear hlz HSM
      go_enter Try.func52, Try.ntmps52
      go_wp2_with fail
      refine HCC.out.mono ?_
      rintro e w1 ⟨rfl, hb1⟩
      have hB1 : Below w.heap.size w w1 := hB0.trans (hb1.mono (by simp))
      clear HCC HBX hb1 hB0
      go_wp2_with fail
      refine (HCL.out w1 hB1).mono ?_
      rintro e w2 ⟨rfl, rfl⟩
      clear HCL
      go_wp2
      go_ret
      exact ⟨rfl, hB1⟩
  · rw [if_neg hz]
    have hzz : (ce != 0) = true := by simpa using hz
    clear hz HSM
    go_enter Try.func52, Try.ntmps52
    go_wp2_with fail
    refine HCC.out.mono ?_
    rintro e w1 ⟨rfl, hb1⟩
    have hB1 : Below w.heap.size w w1 := hB0.trans (hb1.mono (by simp))
    clear HCC HBX hb1 hB0
    go_wp2
    go_ret
    exact ⟨rfl, hB1⟩

end Go.Proofs.Ytoiiadiimfohiaa

/- Contract: the answer's SignMay. -/
namespace Go.Proofs.Ytoiiadiimfohiaa
open Go.RowKit

set_option maxRecDepth 20000 in
set_option maxHeartbeats 4000000 in
theorem signMay_any (c : Int) (w : World) : Calls Try.prog 51 #[.int .i32 c] w fun e w' => e = .returned (.bool (sgnR c)) ∧ w = w' := by
  by_cases d0 : c < 33
  · have HP : Hid (sgnR c = false) := by unfold sgnR; exact decide_eq_false (by omega)
    have e0 : ¬ 48 ≤ c := by omega
    have e1 : ¬ 33 ≤ c := by omega
    clear d0
    generalize sgnR c = R at *
    go_enter Try.func51, Try.ntmps51
    go_wp2
    go_ret
    exact ⟨ret_bool HP.out.symm, rfl⟩
  by_cases d1 : 12287 < c
  · have HP : Hid (sgnR c = false) := by unfold sgnR; exact decide_eq_false (by omega)
    have e0 : 48 ≤ c := by omega
    have e1 : ¬ c ≤ 57 := by omega
    have e2 : 33 ≤ c := by omega
    have e3 : ¬ c ≤ 12287 := by omega
    clear d0 d1
    generalize sgnR c = R at *
    go_enter Try.func51, Try.ntmps51
    go_wp2
    go_ret
    exact ⟨ret_bool HP.out.symm, rfl⟩
  by_cases d2 : 48 ≤ c ∧ c ≤ 57
  · have HP : Hid (sgnR c = false) := by unfold sgnR; exact decide_eq_false (by omega)
    have e0 : 48 ≤ c := by omega
    have e1 : c ≤ 57 := by omega
    have e2 : 33 ≤ c := by omega
    have e3 : c ≤ 12287 := by omega
    clear d0 d1 d2
    generalize sgnR c = R at *
    go_enter Try.func51, Try.ntmps51
    go_wp2
    go_ret
    exact ⟨ret_bool HP.out.symm, rfl⟩
  by_cases d3 : c = 40
  · have HP : Hid (sgnR c = false) := by unfold sgnR; exact decide_eq_false (by omega)
    have e0 : ¬ 48 ≤ c := by omega
    have e1 : 33 ≤ c := by omega
    have e2 : c ≤ 12287 := by omega
    have e3 : (c != 40) = false := by simp; omega
    clear d0 d1 d2 d3
    generalize sgnR c = R at *
    go_enter Try.func51, Try.ntmps51
    go_wp2
    go_ret
    exact ⟨ret_bool HP.out.symm, rfl⟩
  by_cases d4 : c = 41
  · have HP : Hid (sgnR c = false) := by unfold sgnR; exact decide_eq_false (by omega)
    have e0 : ¬ 48 ≤ c := by omega
    have e1 : 33 ≤ c := by omega
    have e2 : c ≤ 12287 := by omega
    have e3 : (c != 40) = true := by simp; omega
    have e4 : (c != 41) = false := by simp; omega
    clear d0 d1 d2 d3 d4
    generalize sgnR c = R at *
    go_enter Try.func51, Try.ntmps51
    go_wp2
    go_ret
    exact ⟨ret_bool HP.out.symm, rfl⟩
  by_cases d5 : c < 48
  · have HP : Hid (sgnR c = true) := by unfold sgnR; exact decide_eq_true (by omega)
    have e0 : ¬ 48 ≤ c := by omega
    have e1 : 33 ≤ c := by omega
    have e2 : c ≤ 12287 := by omega
    have e3 : (c != 40) = true := by simp; omega
    have e4 : (c != 41) = true := by simp; omega
    have e5 : c < 127 := by omega
    clear d0 d1 d2 d3 d4 d5
    generalize sgnR c = R at *
    go_enter Try.func51, Try.ntmps51
    go_wp2
    go_ret
    exact ⟨ret_bool HP.out.symm, rfl⟩
  by_cases d6 : c < 127
  · have HP : Hid (sgnR c = true) := by unfold sgnR; exact decide_eq_true (by omega)
    have e0 : 48 ≤ c := by omega
    have e1 : ¬ c ≤ 57 := by omega
    have e2 : 33 ≤ c := by omega
    have e3 : c ≤ 12287 := by omega
    have e4 : (c != 40) = true := by simp; omega
    have e5 : (c != 41) = true := by simp; omega
    have e6 : c < 127 := by omega
    clear d0 d1 d2 d3 d4 d5 d6
    generalize sgnR c = R at *
    go_enter Try.func51, Try.ntmps51
    go_wp2
    go_ret
    exact ⟨ret_bool HP.out.symm, rfl⟩
  by_cases d7 : 160 < c
  · have HP : Hid (sgnR c = true) := by unfold sgnR; exact decide_eq_true (by omega)
    have e0 : 48 ≤ c := by omega
    have e1 : ¬ c ≤ 57 := by omega
    have e2 : 33 ≤ c := by omega
    have e3 : c ≤ 12287 := by omega
    have e4 : (c != 40) = true := by simp; omega
    have e5 : (c != 41) = true := by simp; omega
    have e6 : ¬ c < 127 := by omega
    have e7 : 160 < c := by omega
    clear d0 d1 d2 d3 d4 d5 d6 d7
    generalize sgnR c = R at *
    go_enter Try.func51, Try.ntmps51
    go_wp2
    go_ret
    exact ⟨ret_bool HP.out.symm, rfl⟩
  have HP : Hid (sgnR c = false) := by unfold sgnR; exact decide_eq_false (by omega)
  have e0 : 48 ≤ c := by omega
  have e1 : ¬ c ≤ 57 := by omega
  have e2 : 33 ≤ c := by omega
  have e3 : c ≤ 12287 := by omega
  have e4 : (c != 40) = true := by simp; omega
  have e5 : (c != 41) = true := by simp; omega
  have e6 : ¬ c < 127 := by omega
  have e7 : ¬ 160 < c := by omega
  clear d0 d1 d2 d3 d4 d5 d6 d7
  generalize sgnR c = R at *
  go_enter Try.func51, Try.ntmps51
  go_wp2
  go_ret
  exact ⟨ret_bool HP.out.symm, rfl⟩

end Go.Proofs.Ytoiiadiimfohiaa

/- Contract: the answer's CallsMay, at calls that may be. -/
namespace Go.Proofs.Ytoiiadiimfohiaa
open Go.RowKit
set_option maxRecDepth 20000
set_option linter.unusedVariables false

theorem pc_ok {n : Nat} {x : List Int} (h1 : 1 ≤ n) (h12 : n ≤ 12) (h : okc n 0 x = true) : pc n x = 0 := by
  unfold pc pck
  rw [if_pos (by omega), if_pos h]

set_option maxHeartbeats 16000000 in
theorem rcalls_ok (s : ByteArray) (n : Nat) (vp : Option Addr) (vc : Nat) (X : List (List Int)) (cv : Value) (cs : List (Int × List (List Int))) (w : World) (hs : s.size ≤ 1048576) (hn : isN (arunes s) = true) (h1 : 2 ≤ n) (h2 : n ≤ 12) (hl1 : 1 ≤ X.length) (hl2 : X.length ≤ 200)
    (hv : IntsAll w (.slice vp X.length vc) X) (hX : ∀ k, k < X.length → okc n 0 (X.getD k []) = true) (hcv : CallsAt w cv cs) (hco : CallsOk n X.length cs) (hc1 : 1 ≤ cs.length) (hc2 : cs.length ≤ 8) :
    Calls Try.prog 24 #[.agg #[.string s, .int .i64 n, .slice vp X.length vc], cv] w fun e w' => e = .returned (.int .i64 0) ∧ Below w.heap.size w w' := by
  obtain ⟨m, hm⟩ : ∃ m, Hid (X.length = m) := ⟨_, rfl⟩
  have HB0 := hide ((Below.refl w.heap.size w).alloc (Nat.le_refl _) (mbox s n (.slice vp X.length vc)))
  have HMM := hide (rmay_ok s n vp vc X (w.alloc (mbox s n (.slice vp X.length vc))) hs hn h1 h2 hl1 hl2 (hv.below HB0.out) (fun x hx => by
    obtain ⟨k, hk, e⟩ := List.getElem_of_mem hx
    have := hX k hk
    rw [List.getD_eq_getElem?_getD, List.getElem?_eq_getElem hk] at this
    subst e
    exact pc_ok (by omega) h2 this))
  rw [hm.out] at HB0 HMM hl1 hl2 ⊢
  obtain ⟨b, off, cap, rfl, hbl, hcc1, hcc2, hcr⟩ := hcv
  obtain ⟨C, hC⟩ : ∃ C, Hid (cs.length = C) := ⟨_, rfl⟩
  have HCR := hide hcr
  have HCO := hide hco
  rw [hC.out] at hc1 hc2 hcc1 ⊢
  obtain ⟨d0, d1, d2⟩ := mbox_cells w s n (.slice vp m vc)
  clear hcr hco hv hX hn
  go_enter Try.func24, Try.ntmps24
  go_wp2_with fail
  refine HMM.out.mono ?_
  rintro e w1 ⟨rfl, hb1⟩
  have k1 : w1.cell? ⟨w.heap.size, 1, none⟩ = some (.int .i64 n) := by rw [hb1.cell (p := ⟨w.heap.size, 1, none⟩) (by simp)]; exact d1
  have k2 : w1.cell? ⟨w.heap.size, 2, none⟩ = some (.slice vp m vc) := by rw [hb1.cell (p := ⟨w.heap.size, 2, none⟩) (by simp)]; exact d2
  have HB1 := hide (HB0.out.trans (hb1.mono HB0.out.size))
  clear hb1 HB0 HMM d0 d1 d2
  have g3 : ¬ (C : Int) < 1 := by omega
  have g4 : ¬ 8 < (C : Int) := by omega
  go_wp2
  go_loopw [6] (fun i wr => ∃ k : Nat, k ≤ C ∧ i = .int .i64 k ∧ Hid (Below w.heap.size w wr) ∧ wr.cell? ⟨w.heap.size, 1, none⟩ = some (.int .i64 n) ∧ wr.cell? ⟨w.heap.size, 2, none⟩ = some (.slice vp m vc)) (fun i _ => C - (intOf i).toNat)
  case atStart => exact ⟨0, by omega, rfl, HB1, k1, k2⟩
  case round =>
    obtain ⟨k, hk, rfl, hbw, k1, k2⟩ := hrel
    clear HB1
    by_cases hlt : k < C
    · have hkc : k < cs.length := by rw [hC.out]; exact hlt
      obtain ⟨u, hcs, hcu, hcI⟩ := HCR.out k hkc
      have hsg := HCO.out.sign k hkc
      have hfew := HCO.out.few k hkc
      obtain ⟨up, uc, rfl⟩ := hcI.len
      obtain ⟨Y, hY⟩ : ∃ Y, Hid ((cs.getD k (0, [])).2 = Y) := ⟨_, rfl⟩
      have HOK := hide (fun q (hq : q < Y.length) => (by rw [← hY.out] at hq ⊢; exact pc_ok (by omega) h2 (HCO.out.ok k hkc q hq) : pc n (Y.getD q []) = 0))
      have HDI := hide (fun j (hj : j < k) => HCO.out.dist j k hj hkc)
      rw [hY.out] at hcI hcu hfew
      rw [hm.out] at hfew
      obtain ⟨sg, hsg9⟩ : ∃ sg, Hid ((cs.getD k (0, [])).1 = sg) := ⟨_, rfl⟩
      rw [hsg9.out] at hcs hsg HDI
      have HYI := hide (fun (W : World) (hW : Below w.heap.size w W) => hcI.below hW)
      obtain ⟨N, hN⟩ : ∃ N, Hid (Y.length = N) := ⟨_, rfl⟩
      rw [hN.out] at hcu hfew HYI
      have HS := hide (fun W => signMay_any sg W)
      rw [hsg] at HS
      have hcs' := (hbw.out.cell (p := ⟨b, off + k * 2, none⟩) hbl).trans hcs
      clear hcI hsg hY
      go_wp2_with fail
      refine (HS.out _).mono ?_
      rintro e w2 ⟨rfl, rfl⟩
      clear hcs'
      go_wp2
      go_loopw [8] (fun i wr => ∃ j : Nat, j ≤ k ∧ i = .int .i64 j ∧ Hid (Below w.heap.size w wr) ∧ wr.cell? ⟨w.heap.size, 1, none⟩ = some (.int .i64 n) ∧ wr.cell? ⟨w.heap.size, 2, none⟩ = some (.slice vp m vc)) (fun i _ => k - (intOf i).toNat)
      case atStart => exact ⟨0, by omega, rfl, hbw, k1, k2⟩
      case round =>
        obtain ⟨j, hj, rfl, hbw2, l1, l2⟩ := hrel
        clear hbw k1 k2
        by_cases hjk : j < k
        · have hjc : j < cs.length := by omega
          obtain ⟨u2, hcs2, _, _⟩ := HCR.out j hjc
          have hne := HDI.out j hjk
          have a1 := (hbw2.out.cell (p := ⟨b, off + j * 2, none⟩) hbl).trans hcs2
          have a2 := (hbw2.out.cell (p := ⟨b, off + k * 2, none⟩) hbl).trans hcs
          generalize (cs.getD j (0, [])).1 = sj at *
          have hb9 : (sj == sg) = false := by rw [beq_eq_false_iff_ne]; exact hne
          go_upto_region 15 with fail
          go_quiet (fail)
          have hB3 := hide (below_drewN hbw2.out nq)
          have n1 : (_ : World).cell? ⟨w.heap.size, 1, none⟩ = some (.int .i64 n) := (show (World.drewN _ nq).cell? ⟨w.heap.size, 1, none⟩ = some (.int .i64 n) from l1)
          have n2 : (_ : World).cell? ⟨w.heap.size, 2, none⟩ = some (.slice vp m vc) := (show (World.drewN _ nq).cell? ⟨w.heap.size, 2, none⟩ = some (.slice vp m vc) from l2)
          clear a1 a2 l1 l2 hbw2
          go_wp2
          go_roundw
          case rel => exact ⟨j + 1, by omega, by go_num, hB3, n1, n2⟩
          case measure => simp [intOf]; omega
        · have a3 := (hbw2.out.cell (p := ⟨b, off + k * 2 + 1, none⟩) hbl).trans hcu
          have g9 : ¬ (m : Int) < (N : Int) := by omega
          go_upto_region 17 with fail
          go_quiet (fail)
          have hB3 := hide (below_drewN hbw2.out nq)
          have n1 : (_ : World).cell? ⟨w.heap.size, 1, none⟩ = some (.int .i64 n) := (show (World.drewN _ nq).cell? ⟨w.heap.size, 1, none⟩ = some (.int .i64 n) from l1)
          have n2 : (_ : World).cell? ⟨w.heap.size, 2, none⟩ = some (.slice vp m vc) := (show (World.drewN _ nq).cell? ⟨w.heap.size, 2, none⟩ = some (.slice vp m vc) from l2)
          clear a3 l1 l2 hbw2
          go_wp2
          go_loopw [9] (fun i wr => ∃ q : Nat, q ≤ N ∧ i = .int .i64 q ∧ Hid (Below w.heap.size w wr) ∧ wr.cell? ⟨w.heap.size, 1, none⟩ = some (.int .i64 n) ∧ wr.cell? ⟨w.heap.size, 2, none⟩ = some (.slice vp m vc)) (fun i _ => N - (intOf i).toNat)
          case atStart => exact ⟨0, by omega, rfl, hB3, n1, n2⟩
          case round =>
            obtain ⟨q, hq, rfl, hbw3, l1, l2⟩ := hrel
            clear hB3 n1 n2
            have a3 := (hbw3.out.cell (p := ⟨b, off + k * 2 + 1, none⟩) hbl).trans hcu
            by_cases hqN : q < N
            · have hqY : q < Y.length := by rw [hN.out]; exact hqN
              obtain ⟨yb, yo, ycap, hye, hyb, hyc1, hyc2, hycell⟩ := (HYI.out w (Below.refl _ _)).cell (by omega)
              rw [hN.out] at hye hyc1 hycell
              injection hye with e1 _ e3
              subst e1; subst e3
              obtain ⟨xp, xc, hxc, hxI⟩ := hycell q hqN
              have a4 := (hbw3.out.cell (p := ⟨yb, yo + q, none⟩) hyb).trans hxc
              have hz := HOK.out q hqY
              have HC := hide (fun (W : World) (hW : Below w.heap.size w W) => changeMay_all n (.slice xp (Y.getD q []).length xc) (Y.getD q []) W (hxI.out.below hW))
              rw [hz] at HC
              generalize (Y.getD q []).length = pl at *
              have HC2 : ∀ W : World, Below w.heap.size w W → Calls Try.prog 36 #[.int .i64 n, .slice xp pl xc] W fun e w' => e = .returned (.int .i64 0) ∧ W = w' := HC.out
              clear HC hz hxc hxI hycell
              go_upto_region 22 with fail
              go_quiet ((go_at_call 36; exact Calls.quiet_of_same ((HC2 _ (below_drewN hbw3.out _)).mono (fun e wq h => ⟨h.1, h.2.symm⟩))))
              have hB4 := hide (below_drewN hbw3.out nq)
              have p1 : (_ : World).cell? ⟨w.heap.size, 1, none⟩ = some (.int .i64 n) := (show (World.drewN _ nq).cell? ⟨w.heap.size, 1, none⟩ = some (.int .i64 n) from l1)
              have p2 : (_ : World).cell? ⟨w.heap.size, 2, none⟩ = some (.slice vp m vc) := (show (World.drewN _ nq).cell? ⟨w.heap.size, 2, none⟩ = some (.slice vp m vc) from l2)
              clear a3 a4 l1 l2 hbw3 HC2
              go_wp2
              go_roundw
              case rel => exact ⟨q + 1, by omega, by go_num, hB4, p1, p2⟩
              case measure => simp [intOf]; omega
            · have hqe : q = N := by omega
              go_wp2
              go_roundw
              case rel => exact ⟨k + 1, by omega, by go_num, hbw3, l1, l2⟩
              case measure => simp [intOf]; omega
    · go_wp2
      go_ret
      exact ⟨rfl, hbw.out⟩

end Go.Proofs.Ytoiiadiimfohiaa

/- Contracts at every input: the answer's CallsMay, TouchMay. -/
namespace Go.Proofs.Ytoiiadiimfohiaa
open Go.RowKit
set_option maxRecDepth 20000
set_option linter.unusedVariables false

theorem oErr_sign {n : Int} {K : Nat} {ah : List Cl} {c : Cl} (h : sgnR c.1 = false) : oErr n K ah c = 4 := by unfold oErr; rw [if_neg (by rw [h]; decide)]
theorem oErr_dbl {n : Int} {K : Nat} {ah : List Cl} {c : Cl} (h : sgnR c.1 = true) (h2 : c.1 ∈ ah.map Prod.fst) : oErr n K ah c = 8 := by unfold oErr; rw [if_pos h, if_pos h2]
theorem oErr_few {n : Int} {K : Nat} {ah : List Cl} {c : Cl} (h : sgnR c.1 = true) (h2 : c.1 ∉ ah.map Prod.fst) (h3 : K < c.2.length) : oErr n K ah c = 1 := by unfold oErr; rw [if_pos h, if_neg h2, if_pos h3]
theorem oErr_rest {n : Int} {K : Nat} {ah : List Cl} {c : Cl} (h : sgnR c.1 = true) (h2 : c.1 ∉ ah.map Prod.fst) (h3 : ¬ K < c.2.length) : oErr n K ah c = fstE n c.2 := by unfold oErr; rw [if_pos h, if_neg h2, if_neg h3]

theorem sign_in {cs : List Cl} {k : Nat} (hk : k ≤ cs.length) {x : Int} : x ∈ (cs.take k).map Prod.fst ↔ ∃ j, j < k ∧ (cs.getD j (0, [])).1 = x := by
  rw [List.mem_map]
  constructor
  · rintro ⟨c, hc, rfl⟩
    obtain ⟨j, hj, e⟩ := List.getElem_of_mem hc
    rw [List.length_take] at hj
    refine ⟨j, by omega, ?_⟩
    rw [← e]
    simp [List.getD, show j < cs.length by omega]
  · rintro ⟨j, hj, rfl⟩
    refine ⟨cs.getD j (0, []), ?_, rfl⟩
    have hj2 : j < cs.length := by omega
    have : (cs.take k)[j]? = some (cs.getD j (0, [])) := by rw [List.getElem?_take]; simp [hj, hj2, List.getD]
    exact List.mem_of_getElem? this

set_option maxHeartbeats 16000000 in
theorem rcalls_all (s : ByteArray) (n : Int) (vp : Option Addr) (vc : Nat) (X : List (List Int)) (cv : Value) (cs : List Cl) (w : World) (hs : s.size ≤ 1048576)
    (hv : IntsAll w (.slice vp X.length vc) X) (hcv : CallsIn w cv cs) :
    Calls Try.prog 24 #[.agg #[.string s, .int .i64 n, .slice vp X.length vc], cv] w fun e w' => e = .returned (.int .i64 (cErr s n X cs)) ∧ Below w.heap.size w w' := by
  obtain ⟨m, hm⟩ : ∃ m, Hid (X.length = m) := ⟨_, rfl⟩
  have HB0 := hide ((Below.refl w.heap.size w).alloc (Nat.le_refl _) (mbox s n (.slice vp X.length vc)))
  have HMM := hide (rmay_all s n (.slice vp X.length vc) X (w.alloc (mbox s n (.slice vp X.length vc))) hs (hv.below HB0.out))
  unfold cErr
  rw [hm.out] at HB0 HMM ⊢
  generalize mErr s n X = me at *
  obtain ⟨cp, cc, rfl⟩ := hcv.form
  obtain ⟨C, hC⟩ : ∃ C, Hid (cs.length = C) := ⟨_, rfl⟩
  rw [hC.out]
  have HCV := hide hcv
  obtain ⟨d0, d1, d2⟩ := mbox_cells w s n (.slice vp m vc)
  clear hv hcv
  by_cases hz : me = 0
  · subst hz
    rw [if_pos rfl]
    by_cases hcl : C < 1 ∨ 8 < C
    · rw [if_pos hcl]
      go_enter Try.func24, Try.ntmps24
      go_wp2_with fail
      refine HMM.out.mono ?_
      rintro e w1 ⟨rfl, hb1⟩
      have HB1 := hide (HB0.out.trans (hb1.mono HB0.out.size))
      clear hb1 HB0 HMM d0 d1 d2
      by_cases h1 : (C : Int) < 1
      · clear hcl
        go_wp2
        go_ret
        exact ⟨rfl, HB1.out⟩
      · have h2 : 8 < (C : Int) := by omega
        clear hcl
        go_wp2
        go_ret
        exact ⟨rfl, HB1.out⟩
    · rw [if_neg hcl]
      have g3 : ¬ (C : Int) < 1 := by omega
      have g4 : ¬ 8 < (C : Int) := by omega
      have hc2 : 1 ≤ C ∧ C ≤ 8 := by omega
      obtain ⟨b, off, cap, hce, hbl, hcc1, hcc2, hcr⟩ : CallsAt w (.slice cp C cc) cs := by
        rcases HCV.out with ⟨h1, _⟩ | ⟨_, h2⟩
        · exfalso; have := hC.out; rw [h1] at this; simp at this; omega
        · rw [hC.out] at h2; exact h2
      rw [hC.out] at hce hcc1
      simp only [Value.slice.injEq] at hce
      obtain ⟨rfl, _, rfl⟩ := hce
      have HCR := hide hcr
      obtain ⟨E, hE⟩ : ∃ E, Hid (cFst n m [] cs = E) := ⟨_, rfl⟩
      rw [hE.out]
      clear hcr HCV hcl
      go_enter Try.func24, Try.ntmps24
      go_wp2_with fail
      refine HMM.out.mono ?_
      rintro e w1 ⟨rfl, hb1⟩
      have k1 : w1.cell? ⟨w.heap.size, 1, none⟩ = some (.int .i64 n) := by rw [hb1.cell (p := ⟨w.heap.size, 1, none⟩) (by simp)]; exact d1
      have k2 : w1.cell? ⟨w.heap.size, 2, none⟩ = some (.slice vp m vc) := by rw [hb1.cell (p := ⟨w.heap.size, 2, none⟩) (by simp)]; exact d2
      have HB1 := hide (HB0.out.trans (hb1.mono HB0.out.size))
      clear hb1 HB0 HMM d0 d1 d2
      go_wp2
      go_loopw [6] (fun i wr => ∃ k : Nat, k ≤ C ∧ i = .int .i64 k ∧ Hid (E = cFst n m (cs.take k) (cs.drop k)) ∧ Hid (Below w.heap.size w wr) ∧ wr.cell? ⟨w.heap.size, 1, none⟩ = some (.int .i64 n) ∧ wr.cell? ⟨w.heap.size, 2, none⟩ = some (.slice vp m vc)) (fun i _ => C - (intOf i).toNat)
      case atStart => exact ⟨0, by omega, rfl, hE.out.symm, HB1, k1, k2⟩
      case round =>
        clear k1 k2 HB1
        obtain ⟨k, hk, rfl, hEk, hbw, k1, k2⟩ := hrel
        by_cases hlt : k < C
        · have hkc : k < cs.length := by rw [hC.out]; exact hlt
          obtain ⟨u, hcs, hcu, hcI⟩ := HCR.out k hkc
          obtain ⟨up, uc, rfl⟩ := hcI.len
          obtain ⟨Y, hY⟩ : ∃ Y, Hid ((cs.getD k (0, [])).2 = Y) := ⟨_, rfl⟩
          obtain ⟨sg, hsg9⟩ : ∃ sg, Hid ((cs.getD k (0, [])).1 = sg) := ⟨_, rfl⟩
          have HEZ : Hid (oErr n m (cs.take k) (cs.getD k (0, [])) = 0 → E = cFst n m (cs.take (k + 1)) (cs.drop (k + 1))) := fun h => hEk.out.trans (cFst_ok hkc h)
          have HEB : Hid (oErr n m (cs.take k) (cs.getD k (0, [])) ≠ 0 → E = oErr n m (cs.take k) (cs.getD k (0, []))) := fun h => hEk.out.trans (cFst_bad hkc h)
          have HO1 : Hid (sgnR sg = false → oErr n m (cs.take k) (cs.getD k (0, [])) = 4) := fun h => oErr_sign (by rw [hsg9.out]; exact h)
          have HO2 : Hid (sgnR sg = true → (∃ j, j < k ∧ (cs.getD j (0, [])).1 = sg) → oErr n m (cs.take k) (cs.getD k (0, [])) = 8) := fun h h2 => oErr_dbl (by rw [hsg9.out]; exact h) (by rw [hsg9.out]; exact (sign_in (Nat.le_of_lt hkc)).2 h2)
          have HO3 : Hid (sgnR sg = true → (∀ j, j < k → (cs.getD j (0, [])).1 ≠ sg) → m < Y.length → oErr n m (cs.take k) (cs.getD k (0, [])) = 1) := fun h h2 h3 => oErr_few (by rw [hsg9.out]; exact h) (by rw [hsg9.out]; exact fun h9 => by obtain ⟨j, hj, e⟩ := (sign_in (Nat.le_of_lt hkc)).1 h9; exact h2 j hj e) (by rw [hY.out]; exact h3)
          have HO4 : Hid (sgnR sg = true → (∀ j, j < k → (cs.getD j (0, [])).1 ≠ sg) → ¬ m < Y.length → oErr n m (cs.take k) (cs.getD k (0, [])) = fstE n Y) := fun h h2 h3 => by
            rw [oErr_rest (by rw [hsg9.out]; exact h) (by rw [hsg9.out]; exact fun h9 => by obtain ⟨j, hj, e⟩ := (sign_in (Nat.le_of_lt hkc)).1 h9; exact h2 j hj e) (by rw [hY.out]; exact h3), hY.out]
          rw [hY.out] at hcI hcu
          rw [hsg9.out] at hcs
          generalize oErr n m (cs.take k) (cs.getD k (0, [])) = oe at *
          have HYI := hide (fun (W : World) (hW : Below w.heap.size w W) => hcI.below hW)
          obtain ⟨N, hN⟩ : ∃ N, Hid (Y.length = N) := ⟨_, rfl⟩
          rw [hN.out] at hcu HYI HO3 HO4
          have HS := hide (fun W => signMay_any sg W)
          have hcs' := (hbw.out.cell (p := ⟨b, off + k * 2, none⟩) hbl).trans hcs
          clear hcI hY hEk
          cases hsg : sgnR sg with
          | false =>
            rw [hsg] at HS HO1
            have HEN : Hid (E = 4) := by have h9 := HO1.out rfl; rw [← h9]; exact HEB.out (by rw [h9]; decide)
            clear HO1 HO2 HO3 HO4 HEZ HEB hsg
            go_wp2_with fail
            refine (HS.out _).mono ?_
            rintro e w2 ⟨rfl, rfl⟩
            go_wp2
            go_ret
            exact ⟨ret_int HEN.out.symm, hbw.out⟩
          | true =>
            rw [hsg] at HS HO2 HO3 HO4
            clear HO1 hsg
            go_wp2_with fail
            refine (HS.out _).mono ?_
            rintro e w2 ⟨rfl, rfl⟩
            clear hcs'
            go_wp2
            go_loopw [8] (fun i wr => ∃ j : Nat, j ≤ k ∧ i = .int .i64 j ∧ Hid (∀ j', j' < j → (cs.getD j' (0, [])).1 ≠ sg) ∧ Hid (Below w.heap.size w wr) ∧ wr.cell? ⟨w.heap.size, 1, none⟩ = some (.int .i64 n) ∧ wr.cell? ⟨w.heap.size, 2, none⟩ = some (.slice vp m vc)) (fun i _ => k - (intOf i).toNat)
            case atStart => exact ⟨0, by omega, rfl, (fun j hj => absurd hj (by omega)), hbw, k1, k2⟩
            case round =>
              obtain ⟨j, hj, rfl, hNo, hbw2, l1, l2⟩ := hrel
              clear hbw k1 k2
              by_cases hjk : j < k
              · have hjc : j < cs.length := by omega
                obtain ⟨u2, hcs2, _, _⟩ := HCR.out j hjc
                have a1 := (hbw2.out.cell (p := ⟨b, off + j * 2, none⟩) hbl).trans hcs2
                have a2 := (hbw2.out.cell (p := ⟨b, off + k * 2, none⟩) hbl).trans hcs
                by_cases hne : (cs.getD j (0, [])).1 = sg
                · have HEN : Hid (E = 8) := by have h9 := HO2.out (by first | rfl | trivial) ⟨j, hjk, hne⟩; rw [← h9]; exact HEB.out (by rw [h9]; decide)
                  have hb9 : ((cs.getD j (0, [])).1 == sg) = true := by rw [beq_iff_eq]; exact hne
                  clear hne hNo
                  generalize (cs.getD j (0, [])).1 = sj at *
                  go_upto_region 15 with fail
                  go_quiet (fail)
                  have hB3 := hide (below_drewN hbw2.out nq)
                  clear a1 a2 l1 l2 hbw2
                  go_wp2
                  go_ret
                  exact ⟨ret_int HEN.out.symm, hB3.out⟩
                · have HNo2 : Hid (∀ j', j' < j + 1 → (cs.getD j' (0, [])).1 ≠ sg) := fun j' hj' => by
                    rcases Nat.lt_succ_iff_lt_or_eq.1 hj' with h | h
                    · exact hNo.out j' h
                    · rw [h]; exact hne
                  have hb9 : ((cs.getD j (0, [])).1 == sg) = false := by rw [beq_eq_false_iff_ne]; exact hne
                  clear hne hNo
                  generalize (cs.getD j (0, [])).1 = sj at *
                  go_upto_region 15 with fail
                  go_quiet (fail)
                  have hB3 := hide (below_drewN hbw2.out nq)
                  have n1 : (_ : World).cell? ⟨w.heap.size, 1, none⟩ = some (.int .i64 n) := (show (World.drewN _ nq).cell? ⟨w.heap.size, 1, none⟩ = some (.int .i64 n) from l1)
                  have n2 : (_ : World).cell? ⟨w.heap.size, 2, none⟩ = some (.slice vp m vc) := (show (World.drewN _ nq).cell? ⟨w.heap.size, 2, none⟩ = some (.slice vp m vc) from l2)
                  clear a1 a2 l1 l2 hbw2
                  go_wp2
                  go_roundw
                  case rel => exact ⟨j + 1, by omega, by go_num, HNo2, hB3, n1, n2⟩
                  case measure => simp [intOf]; omega
              · obtain rfl : j = k := by omega
                have a3 := (hbw2.out.cell (p := ⟨b, off + j * 2 + 1, none⟩) hbl).trans hcu
                by_cases hmN : m < N
                · have HEN : Hid (E = 1) := by have h9 := HO3.out (by first | rfl | trivial) hNo.out hmN; rw [← h9]; exact HEB.out (by rw [h9]; decide)
                  have g9 : (m : Int) < (N : Int) := by omega
                  clear hNo
                  go_upto_region 17 with fail
                  go_quiet (fail)
                  have hB3 := hide (below_drewN hbw2.out nq)
                  clear a3 l1 l2 hbw2
                  go_wp2
                  go_ret
                  exact ⟨ret_int HEN.out.symm, hB3.out⟩
                · have HOE := hide (HO4.out (by first | rfl | trivial) hNo.out hmN)
                  have g9 : ¬ (m : Int) < (N : Int) := by omega
                  clear hNo HO2 HO3 HO4
                  go_upto_region 17 with fail
                  go_quiet (fail)
                  have hB3 := hide (below_drewN hbw2.out nq)
                  have n1 : (_ : World).cell? ⟨w.heap.size, 1, none⟩ = some (.int .i64 n) := (show (World.drewN _ nq).cell? ⟨w.heap.size, 1, none⟩ = some (.int .i64 n) from l1)
                  have n2 : (_ : World).cell? ⟨w.heap.size, 2, none⟩ = some (.slice vp m vc) := (show (World.drewN _ nq).cell? ⟨w.heap.size, 2, none⟩ = some (.slice vp m vc) from l2)
                  clear a3 l1 l2 hbw2
                  go_wp2
                  go_loopw [9] (fun i wr => ∃ q : Nat, q ≤ N ∧ i = .int .i64 q ∧ Hid (oe = fstE n (Y.drop q)) ∧ Hid (Below w.heap.size w wr) ∧ wr.cell? ⟨w.heap.size, 1, none⟩ = some (.int .i64 n) ∧ wr.cell? ⟨w.heap.size, 2, none⟩ = some (.slice vp m vc)) (fun i _ => N - (intOf i).toNat)
                  case atStart => exact ⟨0, by omega, rfl, HOE, hB3, n1, n2⟩
                  case round =>
                    obtain ⟨q, hq, rfl, hOq, hbw3, l1, l2⟩ := hrel
                    clear hB3 n1 n2
                    have a3 := (hbw3.out.cell (p := ⟨b, off + j * 2 + 1, none⟩) hbl).trans hcu
                    by_cases hqN : q < N
                    · have hqY : q < Y.length := by rw [hN.out]; exact hqN
                      obtain ⟨yb, yo, ycap, hye, hyb, hyc1, hyc2, hycell⟩ := (HYI.out w (Below.refl _ _)).cell (by omega)
                      rw [hN.out] at hye hyc1 hycell
                      injection hye with e1 _ e3
                      subst e1; subst e3
                      obtain ⟨xp, xc, hxc, hxI⟩ := hycell q hqN
                      have a4 := (hbw3.out.cell (p := ⟨yb, yo + q, none⟩) hyb).trans hxc
                      have HC := hide (fun (W : World) (hW : Below w.heap.size w W) => changeMay_all n (.slice xp (Y.getD q []).length xc) (Y.getD q []) W (hxI.out.below hW))
                      have HZ1 : Hid (pc n (Y.getD q []) = 0 → oe = fstE n (Y.drop (q + 1))) := fun hz => hOq.out.trans (fstE_ok hqY hz)
                      have HZ2 : Hid (pc n (Y.getD q []) ≠ 0 → oe = pc n (Y.getD q [])) := fun hz => hOq.out.trans (fstE_bad hqY hz)
                      clear hxc hxI hycell hOq
                      generalize (Y.getD q []).length = pl at *
                      generalize pc n (Y.getD q []) = pe at *
                      have HC2 : ∀ W : World, Below w.heap.size w W → Calls Try.prog 36 #[.int .i64 n, .slice xp pl xc] W fun e w' => e = .returned (.int .i64 pe) ∧ W = w' := HC.out
                      clear HC
                      go_upto_region 22 with fail
                      go_quiet ((go_at_call 36; exact Calls.quiet_of_same ((HC2 _ (below_drewN hbw3.out _)).mono (fun e wq h => ⟨h.1, h.2.symm⟩))))
                      have hB4 := hide (below_drewN hbw3.out nq)
                      have p1 : (_ : World).cell? ⟨w.heap.size, 1, none⟩ = some (.int .i64 n) := (show (World.drewN _ nq).cell? ⟨w.heap.size, 1, none⟩ = some (.int .i64 n) from l1)
                      have p2 : (_ : World).cell? ⟨w.heap.size, 2, none⟩ = some (.slice vp m vc) := (show (World.drewN _ nq).cell? ⟨w.heap.size, 2, none⟩ = some (.slice vp m vc) from l2)
                      clear a3 a4 l1 l2 hbw3 HC2
                      by_cases hpz : pe = 0
                      · have HON := hide (HZ1.out hpz)
                        subst hpz
                        clear HZ1 HZ2
                        go_wp2
                        go_roundw
                        case rel => exact ⟨q + 1, by omega, by go_num, HON, hB4, p1, p2⟩
                        case measure => simp [intOf]; omega
                      · have HON := HZ2.out hpz
                        have HEN : Hid (E = pe) := by rw [← HON]; exact HEB.out (by rw [HON]; exact hpz)
                        have hzz : (pe != 0) = true := by simpa using hpz
                        clear HZ1 HZ2 hpz HON
                        go_wp2
                        go_ret
                        exact ⟨ret_int HEN.out.symm, hB4.out⟩
                    · have hqe : q = N := by omega
                      have HEN := hide (HEZ.out (by rw [hOq.out, List.drop_eq_nil_of_le (by rw [hN.out]; omega)]; rfl))
                      clear hOq HEZ HEB
                      go_wp2
                      go_roundw
                      case rel => exact ⟨j + 1, by omega, by go_num, HEN, hbw3, l1, l2⟩
                      case measure => simp [intOf]; omega
        · obtain rfl : k = C := by omega
          have HEN : Hid (E = 0) := by show E = 0; rw [hEk.out, List.drop_eq_nil_of_le (by rw [hC.out]; exact Nat.le_refl _)]; rfl
          clear hEk
          go_wp2
          go_ret
          exact ⟨ret_int HEN.out.symm, hbw.out⟩
  · rw [if_neg hz]
    have hzz : (me != 0) = true := by simpa using hz
    clear hz
    go_enter Try.func24, Try.ntmps24
    go_wp2_with fail
    refine HMM.out.mono ?_
    rintro e w1 ⟨rfl, hb1⟩
    have HB1 := hide (HB0.out.trans (hb1.mono HB0.out.size))
    clear hb1 HB0 HMM d0 d1 d2
    go_wp2
    go_ret
    exact ⟨rfl, HB1.out⟩

set_option maxHeartbeats 8000000 in
theorem rtmay_all (s : ByteArray) (n : Int) (vp : Option Addr) (vc : Nat) (X : List (List Int)) (cv : Value) (cs : List Cl) (lv : Value) (ls : List Int) (w : World) (hs : s.size ≤ 1048576)
    (hv : IntsAll w (.slice vp X.length vc) X) (hcv : CallsIn w cv cs) (hI : Ints w lv ls) :
    Calls Try.prog 7 #[.agg #[.string s, .int .i64 n, .slice vp X.length vc], cv, lv] w fun e w' => e = .returned (.int .i64 (tErr s n X cs ls)) ∧ Below w.heap.size w w' := by
  have HB0 := hide ((Below.refl w.heap.size w).alloc (Nat.le_refl _) (mbox s n (.slice vp X.length vc)))
  have HCM := hide (rcalls_all s n vp vc X cv cs (w.alloc (mbox s n (.slice vp X.length vc))) hs (hv.below HB0.out) (hcv.below HB0.out))
  have hmul : (ls.length : Int) * (X.length : Int) = ((ls.length * X.length : Nat) : Int) := (Int.natCast_mul _ _).symm
  have HSM : Hid (cErr s n X cs = 0 → X.length ≤ 200) := fun h1 => by
    have a1 : mErr s n X = 0 := by
      unfold cErr at h1
      split at h1
      · assumption
      · rename_i h; exact absurd h1 h
    unfold mErr at a1
    split at a1
    · split at a1
      · cases a1
      · omega
    · cases a1
  obtain ⟨cp, cc, rfl⟩ := hcv.form
  obtain ⟨lp, lc, rfl⟩ := hI.form
  have HI := hide hI
  unfold tErr
  generalize cErr s n X cs = ce at *
  obtain ⟨m, hm⟩ : ∃ m, Hid (X.length = m) := ⟨_, rfl⟩
  obtain ⟨C, hC⟩ : ∃ C, Hid (cs.length = C) := ⟨_, rfl⟩
  obtain ⟨T, hT⟩ : ∃ T, Hid (ls.length = T) := ⟨_, rfl⟩
  rw [hm.out] at HB0 HCM hmul HSM ⊢
  rw [hC.out] at HCM ⊢
  rw [hT.out] at hmul HI ⊢
  obtain ⟨d0, d1, d2⟩ := mbox_cells w s n (.slice vp m vc)
  clear hv hcv hI
  by_cases hz : ce = 0
  · subst hz
    rw [if_pos rfl]
    have hm200 := HSM.out rfl
    unfold lErr
    rw [hT.out]
    by_cases hl : T < 1 ∨ 400 < T
    · rw [if_pos hl, if_neg (by decide)]
      go_enter Try.func7, Try.ntmps7
      go_wp2_with fail
      refine HCM.out.mono ?_
      rintro e w1 ⟨rfl, hb1⟩
      have HB1 := hide (HB0.out.trans (hb1.mono HB0.out.size))
      clear hb1 HB0 HCM d0 d1 d2
      by_cases h1 : (T : Int) < 1
      · clear hl
        go_wp2
        go_ret
        exact ⟨rfl, HB1.out⟩
      · have h2 : 400 < (T : Int) := by omega
        clear hl
        go_wp2
        go_ret
        exact ⟨rfl, HB1.out⟩
    · rw [if_neg hl]
      have g3 : ¬ (T : Int) < 1 := by omega
      have g4 : ¬ 400 < (T : Int) := by omega
      rcases HI.out with ⟨hnil, _⟩ | ⟨b, off, cap, hle, h0, hc, hmx, hb, hcell⟩
      · exfalso; have := hT.out; rw [hnil] at this; simp at this; omega
      rw [hT.out] at hle hc
      simp only [Value.slice.injEq] at hle
      obtain ⟨rfl, _, rfl⟩ := hle
      have HC := hide hcell
      have hTm : T * m ≤ 400 * 200 := Nat.mul_le_mul (by omega) hm200
      generalize T * m = tm at *
      obtain ⟨E, hE⟩ : ∃ E : Int, Hid ((if (if ∀ l, l ∈ ls → 0 ≤ l ∧ l < (C : Int) then (0 : Int) else 12) = 0 then (if 20000 < tm then 3 else 0) else (if ∀ l, l ∈ ls → 0 ≤ l ∧ l < (C : Int) then (0 : Int) else 12)) = E) := ⟨_, rfl⟩
      rw [hE.out]
      clear hl hcell HI
      go_enter Try.func7, Try.ntmps7
      go_wp2_with fail
      refine HCM.out.mono ?_
      rintro e w1 ⟨rfl, hb1⟩
      have k2 : w1.cell? ⟨w.heap.size, 2, none⟩ = some (.slice vp m vc) := by rw [hb1.cell (p := ⟨w.heap.size, 2, none⟩) (by simp)]; exact d2
      have HB1 := hide (HB0.out.trans (hb1.mono HB0.out.size))
      clear hb1 HB0 HCM d0 d1 d2
      go_wp2
      go_loop [8] (fun i => ∃ k : Nat, k ≤ T ∧ i = .int .i64 k ∧ Hid (∀ j, j < k → 0 ≤ ls.getD j 0 ∧ ls.getD j 0 < (C : Int))) (fun i => T - (intOf i).toNat)
      case atStart => exact ⟨0, by omega, rfl, (fun j hj => absurd hj (by omega))⟩
      case round =>
        obtain ⟨k, hk, rfl, hA⟩ := hrel
        by_cases hlt : k < T
        · have hkl : k < ls.length := by rw [hT.out]; exact hlt
          obtain ⟨y, hy, hcx⟩ := cellAt HC.out hkl
          have gx := (HB1.out.cell (p := ⟨b, off + k, none⟩) (by exact hb)).trans hcx
          have hyk : ls.getD k 0 = y := hy.out
          have hym : y ∈ ls := by
            rw [← hyk, List.getD, List.getElem?_eq_getElem hkl, Option.getD_some]
            exact List.getElem_mem _
          by_cases hyb : 0 ≤ y ∧ y < (C : Int)
          · have HA2 : Hid (∀ j, j < k + 1 → 0 ≤ ls.getD j 0 ∧ ls.getD j 0 < (C : Int)) := fun j hj => by
              rcases Nat.lt_succ_iff_lt_or_eq.1 hj with h | h
              · exact hA.out j h
              · rw [h, hyk]; exact hyb
            have g5 : ¬ y < 0 := by omega
            have g6 : ¬ (C : Int) ≤ y := by omega
            clear hy hym hyk hyb hA hcx
            go_wp2
            go_round
            case rel => exact ⟨k + 1, by omega, by go_num, HA2⟩
            case measure => simp [intOf]; omega
          · have hneg : ¬ ∀ l, l ∈ ls → 0 ≤ l ∧ l < (C : Int) := fun h => hyb (h y hym)
            have HEN : Hid (E = 12) := by show E = 12; rw [← hE.out, if_neg hneg, if_neg (by decide)]
            clear hneg
            by_cases g5 : y < 0
            · clear hy hym hyk hyb hA hcx
              go_wp2
              go_ret
              exact ⟨ret_int HEN.out.symm, HB1.out⟩
            · have g6 : (C : Int) ≤ y := by omega
              clear hy hym hyk hyb hA hcx
              go_wp2
              go_ret
              exact ⟨ret_int HEN.out.symm, HB1.out⟩
        · obtain rfl : k = T := by omega
          have HAL : Hid (∀ l, l ∈ ls → 0 ≤ l ∧ l < (C : Int)) := by
            intro l hl
            obtain ⟨j, hj, e⟩ := List.getElem_of_mem hl
            have := hA.out j (by rw [hT.out] at hj; exact hj)
            rw [List.getD, List.getElem?_eq_getElem hj, Option.getD_some, e] at this
            exact this
          by_cases h20 : 20000 < tm
          · have HEN : Hid (E = 3) := by show E = 3; rw [← hE.out, if_pos HAL.out, if_pos rfl, if_pos h20]
            have g7 : 20000 < (tm : Int) := by omega
            clear hA HAL
            go_wp2
            go_ret
            exact ⟨ret_int HEN.out.symm, HB1.out⟩
          · have HEN : Hid (E = 0) := by show E = 0; rw [← hE.out, if_pos HAL.out, if_pos rfl, if_neg h20]
            have g7 : ¬ 20000 < (tm : Int) := by omega
            clear hA HAL
            go_wp2
            go_ret
            exact ⟨ret_int HEN.out.symm, HB1.out⟩
  · rw [if_neg hz]
    have hzz : (ce != 0) = true := by simpa using hz
    clear hz HSM
    go_enter Try.func7, Try.ntmps7
    go_wp2_with fail
    refine HCM.out.mono ?_
    rintro e w1 ⟨rfl, hb1⟩
    have HB1 := hide (HB0.out.trans (hb1.mono HB0.out.size))
    clear hb1 HB0 HCM d0 d1 d2
    go_wp2
    go_ret
    exact ⟨rfl, HB1.out⟩

end Go.Proofs.Ytoiiadiimfohiaa
