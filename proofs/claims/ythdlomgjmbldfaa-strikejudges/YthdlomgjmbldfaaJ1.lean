/- Joined: FlD, FlE, FlF, Own, FlG. -/
import Derived.Test.YthdlomgjmbldfaaJ0
import Derived.Deep.RegionHeld3
/- Package strike: small functions, Check. -/
namespace Go.Proofs.Ythdlomgjmbldfaa
open Go.RowKit
set_option maxRecDepth 20000
set_option linter.unusedVariables false

/-- No sign on a nought. -/
def uns (x : Nat) : Nat := if (FloatKind.f64.format.order x 0 == some .eq) = true then 0 else x

theorem unsigned_ok (x : Nat) (w : World) : Calls Try.prog 22 #[.float .f64 x] w fun e w' => e = .returned (.float .f64 (uns x)) ∧ w = w' := by
  by_cases h : (FloatKind.f64.format.order x 0 == some .eq) = true
  · have hu : uns x = 0 := by unfold uns; rw [if_pos h]
    rw [hu]
    clear hu
    go_enter Try.func22, Try.ntmps22
    go_wp2
    go_ret
    exact ⟨rfl, rfl⟩
  · have hu : uns x = x := by unfold uns; rw [if_neg h]
    rw [hu]
    clear hu
    go_enter Try.func22, Try.ntmps22
    go_wp2
    go_ret
    exact ⟨rfl, rfl⟩

/-- May x be a time? -/
def mayB (x : Nat) : Bool := (FloatKind.f64.format.order x 13965043853221167104 == some .gt || FloatKind.f64.format.order x 13965043853221167104 == some .eq) && (FloatKind.f64.format.order x 4741671816366391296 == some .lt || FloatKind.f64.format.order x 4741671816366391296 == some .eq)

theorem mayBe_ok (x : Nat) (w : World) : Calls Try.prog 19 #[.float .f64 x] w fun e w' => e = .returned (.bool (mayB x)) ∧ w = w' := by
  unfold mayB
  cases h1 : (FloatKind.f64.format.order x 13965043853221167104 == some .gt || FloatKind.f64.format.order x 13965043853221167104 == some .eq) <;> cases h2 : (FloatKind.f64.format.order x 4741671816366391296 == some .lt || FloatKind.f64.format.order x 4741671816366391296 == some .eq)
  all_goals
    go_enter Try.func19, Try.ntmps19
    go_wp2
    all_goals (go_ret; exact ⟨rfl, rfl⟩)

set_option maxHeartbeats 1000000 in
theorem mean_ok (s : Nat × Nat) (m : Int) (hT : FOk .add s.1 s.2) (hq : FOk .quo (fop .add s.1 s.2) (floatOfInt .f64 m)) (b o : Nat) (w : World) (cs : Array Value) (ty : TypeId) (hb : w.heap[b]? = some (.cells cs ty)) (h0 : cs[o]? = some (.float .f64 s.1)) (h1 : cs[o + 1]? = some (.float .f64 s.2)) :
    Calls Try.prog 15 #[.pointer (some ⟨b, o, none⟩), .int .i64 m] w fun e w' => e = .returned (.float .f64 (uns (fop .quo (fop .add s.1 s.2) (floatOfInt .f64 m)))) ∧ Drw w w' := by
  have H := hide (tsum_ok s hT b o w cs ty hb h0 h1)
  have r1 := fun w => run_float_arith (P := Try.prog) w .quo 23 .f64 (fop .add s.1 s.2) (floatOfInt .f64 m) _ hq
  clear hT hq h0 h1 hb
  go_enter Try.func15, Try.ntmps15
  go_wp2_with fail
  refine H.out.mono ?_
  rintro e w' ⟨rfl, hw⟩
  go_wp2_with fail
  refine (unsigned_ok _ _).mono ?_
  rintro e w0 ⟨rfl, rfl⟩
  go_wp2
  go_ret
  exact ⟨rfl, hw⟩

/-- When the k-th blow is due. -/
def beatN (n k : Nat) : Nat := k + k / (2 * n)

theorem beatN_le (n k : Nat) (h : 1 ≤ n) : beatN n k ≤ 2 * k := by
  unfold beatN
  have := Nat.div_le_self k (2 * n)
  omega

theorem beat_ok (n k : Nat) (w : World) (h1 : 1 ≤ n) (h2 : n ≤ 12) (hk : k ≤ 5000) : Calls Try.prog 12 #[.int .i64 n, .int .i64 k] w fun e w' => e = .returned (.int .i64 (beatN n k)) ∧ w = w' := by
  have hb := beatN_le n k h1
  have hd : (k : Int).tdiv (2 * (n : Int)) = ((k / (2 * n) : Nat) : Int) := by
    rw [show (2 * (n : Int)) = ((2 * n : Nat) : Int) from by omega, ← Int.ofNat_tdiv]
  have hn : (2 * (n : Int)) ≠ 0 := by omega
  unfold beatN at hb ⊢
  have hq : k / (2 * n) ≤ k := Nat.div_le_self _ _
  generalize hQ : k / (2 * n) = q at *
  go_enter Try.func12, Try.ntmps12
  go_wp2
  all_goals
    go_ret
    exact ⟨ret_int (by first | go_num | (simp only [hd]; go_num) | (rw [hd]; omega)), rfl⟩

/-- Is the k-th blow wrong? -/
def badB (n : Int) (L : List (Int × Nat)) (k : Nat) : Bool :=
  decide ((L.getD k (0, 0)).1 < 0) || decide (n ≤ (L.getD k (0, 0)).1) || !mayB (L.getD k (0, 0)).2 || (decide (0 < k) && FloatKind.f64.format.order (L.getD k (0, 0)).2 (L.getD (k - 1) (0, 0)).2 == some .lt)

end Go.Proofs.Ythdlomgjmbldfaa

/- Package strike: Check. -/
namespace Go.Proofs.Ythdlomgjmbldfaa
open Go.RowKit
set_option maxRecDepth 20000
set_option linter.unusedVariables false

/-- What Check says of blows. -/
def chkB (n : Int) (L : List (Int × Nat)) : Int :=
  if n < 1 ∨ 12 < n ∨ L.length < 2 then 1 else if 5000 < L.length then 3 else if ∃ k, k < L.length ∧ badB n L k = true then 12 else 0

theorem chkB_bad {n : Int} {L : List (Int × Nat)} {k : Nat} (h : ¬ (n < 1 ∨ 12 < n ∨ L.length < 2)) (h2 : ¬ 5000 < L.length) (hk : k < L.length) (hb : badB n L k = true) : chkB n L = 12 := by
  unfold chkB; rw [if_neg h, if_neg h2, if_pos ⟨k, hk, hb⟩]

theorem chkB_fine {n : Int} {L : List (Int × Nat)} (h : ¬ (n < 1 ∨ 12 < n ∨ L.length < 2)) (h2 : ¬ 5000 < L.length) (hb : ∀ k, k < L.length → badB n L k = false) : chkB n L = 0 := by
  unfold chkB; rw [if_neg h, if_neg h2, if_neg]
  rintro ⟨k, hk, h3⟩
  rw [hb k hk] at h3
  cases h3

set_option maxHeartbeats 4000000 in
theorem checkB_ok (n : Int) (v : Value) (L : List (Int × Nat)) (w : World) (hn : I64 n) (hv : Blows w v L) :
    Calls Try.prog 7 #[.int .i64 n, v] w fun e w' => e = .returned (.int .i64 (chkB n L)) ∧ Below w.heap.size w w' := by
  obtain ⟨hn1, hn2⟩ := hn
  by_cases hc : n < 1 ∨ 12 < n ∨ L.length < 2
  · have HC : Hid (chkB n L = 1) := by unfold chkB; rw [if_pos hc]; exact rfl
    obtain ⟨p, cap, rfl⟩ := hv.form
    have hL : L.length ≤ 9223372036854775807 := by
      rcases hv with ⟨rfl, _⟩ | ⟨b, off, cap, e, h0, h1, h2, _⟩
      · simp
      · omega
    clear hv
    by_cases h1 : n < 1
    · go_enter Try.func7, Try.ntmps7
      go_wp2
      go_ret
      exact ⟨ret_int (by rw [HC.out]), Below.refl _ _⟩
    · by_cases h2 : 12 < n
      · go_enter Try.func7, Try.ntmps7
        go_wp2
        go_ret
        exact ⟨ret_int (by rw [HC.out]), Below.refl _ _⟩
      · have h3 : L.length < 2 := by omega
        generalize L.length = m at *
        go_enter Try.func7, Try.ntmps7
        go_wp2
        go_ret
        exact ⟨ret_int (by rw [HC.out]), Below.refl _ _⟩
  · rcases hv with ⟨rfl, _⟩ | ⟨b, off, cap, rfl, h0, h1, h2, h3, hcell⟩
    · simp at hc
    by_cases h5 : 5000 < L.length
    · have HC : Hid (chkB n L = 3) := by unfold chkB; rw [if_neg hc, if_pos h5]; exact rfl
      have ⟨c1, c2, c3⟩ : 1 ≤ n ∧ n ≤ 12 ∧ 2 ≤ L.length := by omega
      clear hc hcell
      generalize L.length = m at *
      go_enter Try.func7, Try.ntmps7
      go_wp2
      go_ret
      exact ⟨ret_int (by rw [HC.out]), Below.refl _ _⟩
    · have HB := fun k hk hb => hide (chkB_bad (k := k) hc h5 hk hb)
      have HF := fun hb => hide (chkB_fine (L := L) hc h5 hb)
      have HCE := hide hcell
      have ⟨c1, c2, c3⟩ : 1 ≤ n ∧ n ≤ 12 ∧ 2 ≤ L.length := by omega
      clear hc hcell
      generalize hR : chkB n L = R at *
      generalize hm : L.length = m at *
      go_enter Try.func7, Try.ntmps7
      go_wp2
      go_loopw [23] (fun i wr => ∃ k : Nat, k ≤ m ∧ i = .int .i64 k ∧ Hid (∀ j, j < k → badB n L j = false) ∧ Below w.heap.size w wr) (fun i _ => m - (intOf i).toNat)
      case atStart => exact ⟨0, by omega, rfl, fun j hj => absurd hj (by omega), Below.refl _ _⟩
      case round =>
        obtain ⟨k, hk, rfl, hfine, hbw⟩ := hrel
        by_cases hlt : k < m
        · obtain ⟨bell, hbell⟩ : ∃ y, Hid ((L.getD k (0, 0)).1 = y) := ⟨_, rfl⟩
          obtain ⟨time, htime⟩ : ∃ y, Hid ((L.getD k (0, 0)).2 = y) := ⟨_, rfl⟩
          have hcA : wr.cell? ⟨b, off + k * 2, none⟩ = some (.int .i64 bell) := by rw [hbw.cell (p := ⟨b, off + k * 2, none⟩) h3, (HCE.out k (by omega)).1, hbell.out]
          have hcB : wr.cell? ⟨b, off + k * 2 + 1, none⟩ = some (.float .f64 time) := by rw [hbw.cell (p := ⟨b, off + k * 2 + 1, none⟩) h3, (HCE.out k (by omega)).2, htime.out]
          have hbs := hbw.size
          by_cases hbad1 : bell < 0
          · have HR := HB k (by omega) (by unfold badB; rw [hbell.out]; simp [hbad1])
            clear HB HF
            go_wp2
            go_ret
            exact ⟨ret_int (by rw [HR.out]), hbw.alloc hbs _⟩
          · by_cases hbad2 : n ≤ bell
            · have HR := HB k (by omega) (by unfold badB; rw [hbell.out]; simp [hbad2])
              clear HB HF
              go_wp2
              go_ret
              exact ⟨ret_int (by rw [HR.out]), hbw.alloc hbs _⟩
            · cases hbad3 : mayB time with
              | false =>
                have HR := HB k (by omega) (by unfold badB; rw [htime.out]; simp [hbad3])
                clear HB HF
                go_wp2_with fail
                refine (mayBe_ok _ _).mono ?_
                rintro e w' ⟨rfl, rfl⟩
                go_wp2
                go_ret
                exact ⟨ret_int (by rw [HR.out]), hbw.alloc hbs _⟩
              | true =>
                have HA := hide (hbw.alloc hbs (.cells #[.int .i64 bell, .float .f64 time] 35))
                rcases Nat.eq_zero_or_pos k with hk0 | hk0
                · have HN : Hid (∀ j, j < k + 1 → badB n L j = false) := fun j hj => by
                    by_cases hjk : j < k
                    · exact hfine.out j hjk
                    · obtain rfl : j = k := by omega
                      unfold badB
                      rw [hbell.out, htime.out]
                      simp [hbad1, hbad3, hk0]
                      omega
                  clear HB HF
                  subst hk0
                  simp only [Nat.zero_mul, Nat.add_zero] at hcA hcB
                  go_wp2_with fail
                  refine (mayBe_ok _ _).mono ?_
                  rintro e w' ⟨rfl, rfl⟩
                  go_wp2
                  go_quiet (fail)
                  go_wp2
                  go_roundw
                  case rel => exact ⟨1, by omega, by first | rfl | go_num, HN, ⟨HA.out.os, HA.out.tape, HA.out.output, HA.out.size, HA.out.block⟩⟩
                  case measure => simp [intOf]; omega
                · obtain ⟨km, rfl⟩ : ∃ km, k = km + 1 := ⟨k - 1, by omega⟩
                  obtain ⟨prev, hprev⟩ : ∃ y, Hid ((L.getD km (0, 0)).2 = y) := ⟨_, rfl⟩
                  have hcC : wr.cell? ⟨b, off + km * 2 + 1, none⟩ = some (.float .f64 prev) := by rw [hbw.cell (p := ⟨b, off + km * 2 + 1, none⟩) h3, (HCE.out km (by omega)).2, hprev.out]
                  have hcD : (wr.alloc (.cells #[.int .i64 bell, .float .f64 time] 35)).cell? ⟨b, off + km * 2 + 1, none⟩ = some (.float .f64 prev) := by
                    rw [World.cell?_of_block (w := wr) (Below.heap_alloc wr _ b (by omega))]; exact hcC
                  cases hless : (FloatKind.f64.format.order time prev == some .lt) with
                  | true =>
                    have HR := HB (km + 1) (by omega) (by unfold badB; rw [Nat.add_sub_cancel, htime.out, hprev.out]; simp [hless])
                    clear HB HF
                    go_wp2_with fail
                    refine (mayBe_ok _ _).mono ?_
                    rintro e w' ⟨rfl, rfl⟩
                    go_wp2
                    go_quiet (fail)
                    go_wp2
                    go_ret
                    exact ⟨ret_int (by rw [HR.out]), ⟨HA.out.os, HA.out.tape, HA.out.output, HA.out.size, HA.out.block⟩⟩
                  | false =>
                    have HN : Hid (∀ j, j < km + 1 + 1 → badB n L j = false) := fun j hj => by
                      by_cases hjk : j < km + 1
                      · exact hfine.out j hjk
                      · obtain rfl : j = km + 1 := by omega
                        unfold badB
                        rw [hbell.out, htime.out, Nat.add_sub_cancel, hprev.out, hless]
                        simp [hbad1, hbad3]
                        omega
                    clear HB HF
                    go_wp2_with fail
                    refine (mayBe_ok _ _).mono ?_
                    rintro e w' ⟨rfl, rfl⟩
                    go_wp2
                    go_quiet (fail)
                    go_wp2
                    go_roundw
                    case rel => exact ⟨km + 1 + 1, by omega, by first | rfl | go_num, HN, ⟨HA.out.os, HA.out.tape, HA.out.output, HA.out.size, HA.out.block⟩⟩
                    case measure => simp [intOf]; omega
        · have HR := HF (fun j hj => hfine.out j (by omega))
          clear HB HF
          go_wp2
          go_ret
          exact ⟨ret_int (by rw [HR.out]), hbw⟩

end Go.Proofs.Ythdlomgjmbldfaa

/- Package strike: the straight line that is nearest. -/
namespace Go.Proofs.Ythdlomgjmbldfaa
open Go.RowKit
set_option maxRecDepth 20000
set_option linter.unusedVariables false

abbrev fi (n : Int) : Nat := floatOfInt .f64 n

def Xn (n : Nat) : Nat → Nat
  | 0 => 0
  | k + 1 => Xn n k + beatN n k

def Qn (n : Nat) : Nat → Nat
  | 0 => 0
  | k + 1 => Qn n k + beatN n k * beatN n k

theorem Xn_le (n k : Nat) (h1 : 1 ≤ n) (hk : k ≤ 5000) : Xn n k ≤ k * 10000 := by
  induction k with
  | zero => simp [Xn]
  | succ k ih =>
    have := ih (by omega)
    have := beatN_le n k h1
    simp only [Xn]
    omega

theorem Qn_le (n k : Nat) (h1 : 1 ≤ n) (hk : k ≤ 5000) : Qn n k ≤ k * 100000000 := by
  induction k with
  | zero => simp [Qn]
  | succ k ih =>
    have := ih (by omega)
    have h2 := beatN_le n k h1
    have : beatN n k * beatN n k ≤ 10000 * 10000 := Nat.mul_le_mul (by omega) (by omega)
    simp only [Qn]
    omega

abbrev timeAt (L : List (Int × Nat)) (k : Nat) : Nat := (L.getD k (0, 0)).2

/-- Beat and time of the k-th blow, multiplied. -/
def prodAt (n : Nat) (L : List (Int × Nat)) (k : Nat) : Nat := fop .mul (fi (beatN n k)) (timeAt L k)

def tT (L : List (Int × Nat)) : Nat → Nat × Nat
  | 0 => (0, 0)
  | k + 1 => tad (tT L k) (timeAt L k)

def tU (n : Nat) (L : List (Int × Nat)) : Nat → Nat × Nat
  | 0 => (0, 0)
  | k + 1 => tad (tU n L k) (prodAt n L k)

def sm (s : Nat × Nat) : Nat := fop .add s.1 s.2

/-- Ahead of the sign's being taken away. -/
def gap0 (n : Nat) (L : List (Int × Nat)) : Nat :=
  fop .quo (fop .sub (fop .mul (fi (L.length : Int)) (sm (tU n L L.length))) (fop .mul (fi (Xn n L.length : Int)) (sm (tT L L.length)))) (fi ((L.length : Int) * (Qn n L.length : Int) - (Xn n L.length : Int) * (Xn n L.length : Int)))

def gapOf (n : Nat) (L : List (Int × Nat)) : Nat := uns (gap0 n L)

def start0 (n : Nat) (L : List (Int × Nat)) : Nat :=
  fop .quo (fop .sub (sm (tT L L.length)) (fop .mul (gapOf n L) (fi (Xn n L.length : Int)))) (fi (L.length : Int))

def startOf (n : Nat) (L : List (Int × Nat)) : Nat := uns (start0 n L)

/-- All operations on the way to the line are valid. -/
structure NOk (n : Nat) (L : List (Int × Nat)) : Prop where
  t : ∀ k, k < L.length → TOk (tT L k) (timeAt L k)
  p : ∀ k, k < L.length → FOk .mul (fi (beatN n k)) (timeAt L k)
  u : ∀ k, k < L.length → TOk (tU n L k) (prodAt n L k)
  st : FOk .add (tT L L.length).1 (tT L L.length).2
  su : FOk .add (tU n L L.length).1 (tU n L L.length).2
  a : FOk .mul (fi (L.length : Int)) (sm (tU n L L.length))
  b : FOk .mul (fi (Xn n L.length : Int)) (sm (tT L L.length))
  c : FOk .sub (fop .mul (fi (L.length : Int)) (sm (tU n L L.length))) (fop .mul (fi (Xn n L.length : Int)) (sm (tT L L.length)))
  g : FOk .quo (fop .sub (fop .mul (fi (L.length : Int)) (sm (tU n L L.length))) (fop .mul (fi (Xn n L.length : Int)) (sm (tT L L.length)))) (fi ((L.length : Int) * (Qn n L.length : Int) - (Xn n L.length : Int) * (Xn n L.length : Int)))
  d : FOk .mul (gapOf n L) (fi (Xn n L.length : Int))
  e : FOk .sub (sm (tT L L.length)) (fop .mul (gapOf n L) (fi (Xn n L.length : Int)))
  f : FOk .quo (fop .sub (sm (tT L L.length)) (fop .mul (gapOf n L) (fi (Xn n L.length : Int)))) (fi (L.length : Int))

theorem alloc_at (w : World) (o : Obj) : (w.alloc o).heap[w.heap.size]? = some o := heap_alloc_new w o

theorem alloc_at' (w : World) (o : Obj) {k : Nat} (h : k = w.heap.size) : (w.alloc o).heap[k]? = some o := by rw [h]; exact alloc_at w o

/-- A total, alone in a block. -/
def TotB (w : World) (b : Nat) (s : Nat × Nat) : Prop := w.heap[b]? = some (.cells #[.float .f64 s.1, .float .f64 s.2] 40)

theorem TotB.add (s : Nat × Nat) (x : Nat) (hT : TOk s x) {b : Nat} {w : World} (h : TotB w b s) :
    Calls Try.prog 13 #[.pointer (some ⟨b, 0, none⟩), .float .f64 x] w fun e w' => e = .returned (.tuple #[]) ∧ TotB w' b (tad s x) ∧ Wrote w w' b #[.float .f64 (tad s x).1, .float .f64 (tad s x).2] 40 := by
  refine (tadd_ok s x hT b 0 w _ _ h rfl rfl).mono ?_
  rintro e w' ⟨rfl, hw⟩
  have e9 : (#[Value.float .f64 s.1, .float .f64 s.2].setIfInBounds (0 + 1) (.float .f64 (tad s x).2)).setIfInBounds 0 (.float .f64 (tad s x).1) = #[.float .f64 (tad s x).1, .float .f64 (tad s x).2] := rfl
  rw [e9] at hw
  exact ⟨rfl, hw.blk, hw⟩

theorem TotB.sum (s : Nat × Nat) (hT : FOk .add s.1 s.2) {b : Nat} {w : World} (h : TotB w b s) :
    Calls Try.prog 21 #[.pointer (some ⟨b, 0, none⟩)] w fun e w' => e = .returned (.float .f64 (sm s)) ∧ Drw w w' := tsum_ok s hT b 0 w _ _ h rfl rfl

set_option maxHeartbeats 4000000 in
theorem nearest_ok (n : Nat) (v : Value) (L : List (Int × Nat)) (w : World) (hn1 : 1 ≤ n) (hn2 : n ≤ 12) (hv : Blows w v L) (hl : 1 ≤ L.length) (hl2 : L.length ≤ 5000) (hok : NOk n L) :
    Calls Try.prog 11 #[.int .i64 n, v] w fun e w' => e = .returned (.tuple #[.float .f64 (startOf n L), .float .f64 (gapOf n L)]) ∧ Below w.heap.size w w' := by
  rcases hv with ⟨rfl, _⟩ | ⟨b, off, cap, rfl, h0, h1, h2, h3, hcell⟩
  · simp at hl
  have HCE := hide hcell
  have HOK := hide hok
  clear hcell hok
  obtain ⟨m, hm⟩ : ∃ m, Hid (L.length = m) := ⟨_, rfl⟩
  have hm0 : 1 ≤ m := by rw [← hm.out]; exact hl
  have hm2 : m ≤ 5000 := by rw [← hm.out]; exact hl2
  have hmc : m ≤ cap := by rw [← hm.out]; exact h1
  rw [hm.out]
  clear hl hl2 h0 h1
  obtain ⟨G, hG⟩ : ∃ G, Hid (gapOf n L = G) := ⟨_, rfl⟩
  obtain ⟨S, hS⟩ : ∃ S, Hid (startOf n L = S) := ⟨_, rfl⟩
  rw [hG.out, hS.out]
  go_enter Try.func11, Try.ntmps11
  go_wp2
  go_loopw [6, 7, 19] (fun x q i wr => ∃ k X Q : Nat, k ≤ m ∧ i = .int .i64 k ∧ x = .int .i64 X ∧ q = .int .i64 Q ∧ Hid (X = Xn n k ∧ Q = Qn n k ∧ TotB wr w.heap.size (tT L k) ∧ TotB wr (w.heap.size + 1) (tU n L k)) ∧ w.heap.size + 2 ≤ wr.heap.size ∧ Below w.heap.size w wr) (fun _ _ i _ => m - (intOf i).toNat)
  case atStart =>
    refine ⟨0, 0, 0, by omega, rfl, rfl, rfl, ⟨rfl, rfl, ?_, ?_⟩, by simp, ((Below.refl _ _).alloc (Nat.le_refl _) _).alloc (by simp) _⟩
    · unfold TotB tT
      rw [Below.heap_alloc _ _ _ (by simp)]
      exact alloc_at _ _
    · unfold TotB tU
      exact (alloc_at' _ _ (by simp))
  case round =>
    obtain ⟨k, X, Q, hk, rfl, rfl, rfl, hst, hsz, hbw⟩ := hrel
    have hXl : X ≤ 50000000 := by rw [hst.out.1]; have := Xn_le n k hn1 (by omega); omega
    have hQl : Q ≤ 500000000000 := by rw [hst.out.2.1]; have := Qn_le n k hn1 (by omega); omega
    by_cases hlt : k < m
    · have hkL : k < L.length := by rw [hm.out]; exact hlt
      obtain ⟨bell, hbell⟩ : ∃ y, Hid ((L.getD k (0, 0)).1 = y) := ⟨_, rfl⟩
      obtain ⟨time, htime⟩ : ∃ y, Hid ((L.getD k (0, 0)).2 = y) := ⟨_, rfl⟩
      have hcA : wr.cell? ⟨b, off + k * 2, none⟩ = some (.int .i64 bell) := by rw [hbw.cell (p := ⟨b, off + k * 2, none⟩) h3, (HCE.out k hkL).1, hbell.out]
      have hcB : wr.cell? ⟨b, off + k * 2 + 1, none⟩ = some (.float .f64 time) := by rw [hbw.cell (p := ⟨b, off + k * 2 + 1, none⟩) h3, (HCE.out k hkL).2, htime.out]
      have HBT := hide (beat_ok n k (wr.alloc (.cells #[.int .i64 bell, .float .f64 time] 35)) hn1 hn2 (by omega))
      have hcl := beatN_le n k hn1
      have HT1 : Hid (TOk (tT L k) time) := by have := HOK.out.t k hkL; unfold timeAt at this; rwa [htime.out] at this
      have hmul : FOk .mul (fi (beatN n k)) time := by have := HOK.out.p k hkL; unfold timeAt at this; rwa [htime.out] at this
      have HT2 : Hid (TOk (tU n L k) (fop .mul (fi (beatN n k)) time)) := by have := HOK.out.u k hkL; unfold prodAt timeAt at this; rwa [htime.out] at this
      have HE1 : Hid (tT L (k + 1) = tad (tT L k) time) := by rw [← htime.out]; rfl
      have HE2 : Hid (tU n L (k + 1) = tad (tU n L k) (fop .mul (fi (beatN n k)) time)) := by rw [← htime.out]; rfl
      have HE3 : Hid (X + beatN n k = Xn n (k + 1) ∧ Q + beatN n k * beatN n k = Qn n (k + 1)) := ⟨by rw [hst.out.1]; rfl, by rw [hst.out.2.1]; rfl⟩
      have r1 := fun w => run_float_arith (P := Try.prog) w .mul 23 .f64 (fi (beatN n k)) time _ hmul
      clear hmul
      generalize beatN n k = c at *
      generalize fop .mul (fi c) time = pr at *
      have hcc : (c : Int) * (c : Int) ≤ 100000000 ∧ 0 ≤ (c : Int) * (c : Int) := ⟨by have : c * c ≤ 10000 * 10000 := Nat.mul_le_mul (by omega) (by omega); rw [← Int.natCast_mul]; omega, by rw [← Int.natCast_mul]; omega⟩
      have hbs := hbw.size
      go_wp2_with fail
      refine HBT.out.mono ?_
      rintro e w' ⟨rfl, rfl⟩
      have hB0 : (wr.alloc (.cells #[.int .i64 bell, .float .f64 time] 35)).heap[wr.heap.size]? = some (.cells #[.int .i64 bell, .float .f64 time] 35) := alloc_at _ _
      have hT0 : TotB (wr.alloc (.cells #[.int .i64 bell, .float .f64 time] 35)) w.heap.size (tT L k) := (Below.heap_alloc _ _ _ (by omega)).trans hst.out.2.2.1
      have hU0 : TotB (wr.alloc (.cells #[.int .i64 bell, .float .f64 time] 35)) (w.heap.size + 1) (tU n L k) := (Below.heap_alloc _ _ _ (by omega)).trans hst.out.2.2.2
      have hb0 := hbw.alloc hbs (.cells #[.int .i64 bell, .float .f64 time] 35)
      have hs0 : (wr.alloc (.cells #[.int .i64 bell, .float .f64 time] 35)).heap.size = wr.heap.size + 1 := by simp
      have hcT : (wr.alloc (.cells #[.int .i64 bell, .float .f64 time] 35)).cell? ⟨wr.heap.size, 1, none⟩ = some (.float .f64 time) := by unfold World.cell?; rw [hB0]; rfl
      have HBB := hide hB0
      clear hB0 hcA hcB HBT
      generalize wr.alloc (.cells #[.int .i64 bell, .float .f64 time] 35) = W at *
      go_wp2_with fail
      refine (TotB.add _ _ HT1.out hT0).mono ?_
      rintro e w2 ⟨rfl, hT2, hW2⟩
      have hcT2 : w2.cell? ⟨wr.heap.size, 1, none⟩ = some (.float .f64 time) := by
        have := (hW2.oth wr.heap.size (by omega)).trans HBB.out
        unfold World.cell?
        rw [this]; rfl
      have hU2 : TotB w2 (w.heap.size + 1) (tU n L k) := (hW2.oth _ (by omega)).trans hU0
      have hs2 := hW2.size
      have hb2 := hb0.trans (hW2.below (Nat.le_refl _))
      go_wp2_with fail
      refine (TotB.add _ _ HT2.out hU2).mono ?_
      rintro e w3 ⟨rfl, hU3, hW3⟩
      have hT3 : TotB w3 w.heap.size (tad (tT L k) time) := (hW3.oth _ (by omega)).trans hT2
      have hs3 := hW3.size
      have hb3 := hb2.trans (hW3.below (Nat.le_succ _))
      have HFin : Hid (X + c = Xn n (k + 1) ∧ Q + c * c = Qn n (k + 1) ∧ TotB w3 w.heap.size (tT L (k + 1)) ∧ TotB w3 (w.heap.size + 1) (tU n L (k + 1))) := ⟨HE3.out.1, HE3.out.2, by rw [HE1.out]; exact hT3, by rw [HE2.out]; exact hU3⟩
      clear hst hT0 hU0 hT2 hU2 hT3 hU3 hW2 hW3
      go_wp2
      go_roundw
      case rel => exact ⟨k + 1, X + c, Q + c * c, by omega, by go_num, by go_num, by rw [Int.natCast_add, Int.natCast_mul], HFin, by omega, hb3⟩
      case measure => simp [intOf]; omega
    · obtain rfl : k = m := by omega
      have hX := hst.out.1
      have hQ := hst.out.2.1
      have HTT := hide hst.out.2.2.1
      have HUU := hide hst.out.2.2.2
      have ok := HOK.out
      have k1 := ok.st
      have k2 := ok.su
      have k3 := ok.a
      have k4 := ok.b
      have k5 := ok.c
      have k6 := ok.g
      have k7 := ok.d
      have k8 := ok.e
      have k9 := ok.f
      have HG := hG.out
      have HS := hS.out
      unfold startOf start0 at HS
      rw [hG.out] at HS k7 k8 k9
      unfold gapOf gap0 at HG
      rw [hm.out] at k1 k2 k3 k4 k5 k6 k7 k8 k9 HS HG
      rw [← hX] at k4 k5 k6 k7 k8 k9 HS HG
      rw [← hQ] at k6 HG
      clear ok HOK hst hX hQ HCE hG hS hm
      have HG := hide HG
      have HS := hide HS
      have HK1 := hide k1
      have HK2 := hide k2
      have r3 := fun w => run_float_arith (P := Try.prog) w .mul 23 .f64 _ _ _ k3
      have r4 := fun w => run_float_arith (P := Try.prog) w .mul 23 .f64 _ _ _ k4
      have r5 := fun w => run_float_arith (P := Try.prog) w .sub 23 .f64 _ _ _ k5
      have r6 := fun w => run_float_arith (P := Try.prog) w .quo 23 .f64 _ _ _ k6
      have r7 := fun w => run_float_arith (P := Try.prog) w .mul 23 .f64 _ _ _ k7
      have r8 := fun w => run_float_arith (P := Try.prog) w .sub 23 .f64 _ _ _ k8
      have r9 := fun w => run_float_arith (P := Try.prog) w .quo 23 .f64 _ _ _ k9
      clear k1 k2 k3 k4 k5 k6 k7 k8 k9
      generalize fop .quo (fop .sub (sm (tT L k)) (fop .mul G (fi (X : Int)))) (fi (k : Int)) = a9 at *
      generalize fop .sub (sm (tT L k)) (fop .mul G (fi (X : Int))) = a8 at *
      generalize fop .mul G (fi (X : Int)) = a7 at *
      generalize fop .quo (fop .sub (fop .mul (fi (k : Int)) (sm (tU n L k))) (fop .mul (fi (X : Int)) (sm (tT L k)))) (fi ((k : Int) * (Q : Int) - (X : Int) * (X : Int))) = a6 at *
      generalize fop .sub (fop .mul (fi (k : Int)) (sm (tU n L k))) (fop .mul (fi (X : Int)) (sm (tT L k))) = a5 at *
      generalize fop .mul (fi (k : Int)) (sm (tU n L k)) = a3 at *
      generalize fop .mul (fi (X : Int)) (sm (tT L k)) = a4 at *
      have hkQ : (k : Int) * (Q : Int) ≤ 2500000000000000 ∧ 0 ≤ (k : Int) * (Q : Int) := ⟨by have : k * Q ≤ 5000 * 500000000000 := Nat.mul_le_mul (by omega) (by omega); rw [← Int.natCast_mul]; omega, by rw [← Int.natCast_mul]; omega⟩
      have hXX : (X : Int) * (X : Int) ≤ 2500000000000000 ∧ 0 ≤ (X : Int) * (X : Int) := ⟨by have : X * X ≤ 50000000 * 50000000 := Nat.mul_le_mul (by omega) (by omega); rw [← Int.natCast_mul]; omega, by rw [← Int.natCast_mul]; omega⟩
      go_wp2_with fail
      refine (TotB.sum _ HK1.out HTT.out).mono ?_
      rintro e w1 ⟨rfl, hd1⟩
      have hU1 : TotB w1 (w.heap.size + 1) (tU n L k) := by unfold TotB; rw [hd1.heap]; exact HUU.out
      generalize sm (tT L k) = T at *
      go_wp2_with fail
      refine (TotB.sum _ HK2.out hU1).mono ?_
      rintro e w2 ⟨rfl, hd2⟩
      generalize sm (tU n L k) = U at *
      go_wp2_with fail
      refine (unsigned_ok _ _).mono ?_
      rintro e w3 ⟨rfl, rfl⟩
      rw [HG.out]
      go_wp2_with fail
      refine (unsigned_ok _ _).mono ?_
      rintro e w3 ⟨rfl, rfl⟩
      rw [HS.out]
      go_wp2
      go_ret2
      exact ⟨rfl, (hbw.trans (hd1.below _)).trans (hd2.below _)⟩

end Go.Proofs.Ythdlomgjmbldfaa

/- Slices that a call has made itself; contracts: Rounds (both), Times, Back. -/
namespace Go.Proofs.Ythdlomgjmbldfaa
open Go.RowKit

theorem Try.info3 : (Try.prog.info? 3).map (fun i => (i.zero, i.size, i.bytes)) = some (some (.int .i64 0), 1, 8) := by kernel_rfl

theorem owns_set {w : World} {base e g n cap m : Nat} {xs : List Value} (h : w.ownsRow base e 1 (.slice (some ⟨g, 0, none⟩) n cap) n xs) (u : Value) :
    (w.setCell ⟨g, m, none⟩ u).ownsRow base e 1 (.slice (some ⟨g, 0, none⟩) n cap) n (xs.set m u) := by
  obtain ⟨h1, h2⟩ := h
  refine ⟨by rw [List.length_set]; exact h1, ?_⟩
  rcases h2 with ⟨h2, _⟩ | ⟨g', cap', cur, hv, hb, hh, hn, hx, hs, ht⟩
  · cases h2
  · injection hv with e1 _ e3
    injection e1 with e1
    injection e1 with e1
    subst e1; subst e3
    refine Or.inr ⟨g, cap, cur.setIfInBounds m u, rfl, hb, ?_, hn, hx, by simpa using hs, ?_⟩
    · simp [World.setCell, Array.getElem?_modify, hh]
    · rw [Array.toList_setIfInBounds, List.take_set, ht]

theorem owns_cell {w : World} {base e g n cap j : Nat} {zs : List Int} (h : w.ownsRow base e 1 (.slice (some ⟨g, 0, none⟩) n cap) n (zs.map (Value.int .i64))) (hj : j < n) :
    w.cell? ⟨g, j, none⟩ = some (.int .i64 (zs.getD j 0)) ∧ w.frozen? ⟨g, j, none⟩ = false := by
  have hl : zs.length = n := by have := h.1; simpa using this
  constructor
  · have := h.cells (g := g) rfl j (.int .i64 (zs.getD j 0)) (by simp [List.getElem?_map, List.getD, List.getElem?_eq_getElem (by omega : j < zs.length)])
    rw [Addr.add_lit, Nat.zero_add] at this
    exact this
  · rcases h.2 with ⟨h2, _⟩ | ⟨g', cap', cur, hv, hb, hh, hn, hx, hs, ht⟩
    · cases h2
    · injection hv with e1 _ e3
      injection e1 with e1
      injection e1 with e1
      subst e1
      simp [World.frozen?, hh]

theorem owns_cellAt {w : World} {base e g n cap j : Nat} {zs : List Int} (h : w.ownsRow base e 1 (.slice (some ⟨g, 0, none⟩) n cap) n (zs.map (Value.int .i64))) (hj : j < n) :
    ∃ y, Hid (zs[j]?.getD 0 = y) ∧ w.cell? ⟨g, j, none⟩ = some (.int .i64 y) ∧ w.frozen? ⟨g, j, none⟩ = false := ⟨_, rfl, (owns_cell h hj).1, (owns_cell h hj).2⟩

theorem owns_set_int {w : World} {base e g n cap m : Nat} {zs : List Int} (h : w.ownsRow base e 1 (.slice (some ⟨g, 0, none⟩) n cap) n (zs.map (Value.int .i64))) (y : Int) :
    (w.setCell ⟨g, m, none⟩ (.int .i64 y)).ownsRow base e 1 (.slice (some ⟨g, 0, none⟩) n cap) n ((zs.set m y).map (Value.int .i64)) := by
  rw [List.map_set]; exact owns_set h _

theorem made_ints (n : Nat) : (madeCells #[Value.int .i64 0] n).toList = (List.replicate n (0 : Int)).map (Value.int .i64) := by
  apply List.ext_getElem
  · simp [madeCells]
  · intro i h1 h2
    simp [madeCells, Nat.mod_one]

/-- Rounds, as a list. -/
def rnd (n : Nat) : List Int := (List.range n).map (fun (i : Nat) => (i : Int))

theorem rnd_length (n : Nat) : (rnd n).length = n := by simp [rnd]

theorem rnd_get {n j : Nat} (h : j < n) : (rnd n).getD j 0 = j := by simp [rnd, List.getD, h]

theorem eq_rnd {n : Nat} {zs : List Int} (hl : zs.length = n) (h : ∀ j, j < n → zs.getD j 0 = (j : Int)) : zs = rnd n := by
  apply List.ext_getElem
  · rw [hl, rnd_length]
  · intro i h1 h2
    have h3 := h i (by omega)
    have h4 := rnd_get (n := n) (j := i) (by omega)
    simp only [List.getD, List.getElem?_eq_getElem h1, List.getElem?_eq_getElem h2, Option.getD_some] at h3 h4
    rw [h3, h4]

theorem getD_set {zs : List Int} {m j : Nat} {y : Int} (h : m < zs.length) : (zs.set m y).getD j 0 = if m = j then y else zs.getD j 0 := by
  simp only [List.getD, List.getElem?_set]
  by_cases e : m = j
  · subst e; simp [h]
  · simp [e]

theorem rnd_snoc (k : Nat) : rnd (k + 1) = rnd k ++ [(k : Int)] := by
  simp [rnd, List.range_succ]

/-- a, changed by b. -/
def by_ (a b : List Int) : List Int := b.map (fun j => a.getD j.toNat 0)

theorem by_length (a b : List Int) : (by_ a b).length = b.length := by simp [by_]

theorem by_get {a b : List Int} {j : Nat} (h : j < b.length) : (by_ a b).getD j 0 = a.getD (b.getD j 0).toNat 0 := by
  simp [by_, List.getD, h]

theorem ext_getD {xs ys : List Int} (hl : xs.length = ys.length) (h : ∀ j, j < xs.length → xs.getD j 0 = ys.getD j 0) : xs = ys := by
  apply List.ext_getElem hl
  intro i h1 h2
  have h3 := h i h1
  simpa only [List.getD, List.getElem?_eq_getElem h1, List.getElem?_eq_getElem h2, Option.getD_some] using h3

theorem isRow.at {xs : List Int} (h : isRow xs) {j : Nat} (hj : j < xs.length) : 0 ≤ xs.getD j 0 ∧ xs.getD j 0 < xs.length := by
  have e : xs.getD j 0 = xs[j] := by simp [List.getD, List.getElem?_eq_getElem hj]
  rw [e]
  exact h.1 _ (List.getElem_mem hj)

theorem isRow.inj {xs : List Int} (h : isRow xs) {i j : Nat} (hi : i < xs.length) (hj : j < xs.length) (e : xs.getD i 0 = xs.getD j 0) : i = j := by
  simp only [List.getD, List.getElem?_eq_getElem hi, List.getElem?_eq_getElem hj, Option.getD_some] at e
  exact (List.getElem_inj h.2).1 e

theorem times_step {a b zs : List Int} {k : Nat} {y : Int} (hk : k < b.length) (hy : y = a.getD (b.getD k 0).toNat 0) (hz : zs.length = b.length ∧ ∀ j, j < k → zs.getD j 0 = (by_ a b).getD j 0) :
    (zs.set k y).length = b.length ∧ ∀ j, j < k + 1 → (zs.set k y).getD j 0 = (by_ a b).getD j 0 := by
  refine ⟨by rw [List.length_set]; exact hz.1, fun j hj => ?_⟩
  rw [getD_set (by omega)]
  split
  · rename_i e; subst e; rw [by_get hk, hy]
  · exact hz.2 j (by omega)

end Go.Proofs.Ythdlomgjmbldfaa

/- Package strike: what Judge keeps while it goes on. -/
namespace Go.Proofs.Ythdlomgjmbldfaa
open Go.RowKit
set_option maxRecDepth 20000
set_option linter.unusedVariables false

/-- Totals, one behind the other, as cells. -/
def flat2 : List (Nat × Nat) → List Value
  | [] => []
  | s :: l => .float .f64 s.1 :: .float .f64 s.2 :: flat2 l

theorem flat2_length : ∀ l : List (Nat × Nat), (flat2 l).length = l.length * 2
  | [] => rfl
  | s :: l => by simp only [flat2, List.length_cons, flat2_length l]; omega

theorem flat2_get : ∀ (l : List (Nat × Nat)) (j : Nat), j < l.length → (flat2 l)[j * 2]? = some (.float .f64 (l.getD j (0, 0)).1) ∧ (flat2 l)[j * 2 + 1]? = some (.float .f64 (l.getD j (0, 0)).2)
  | s :: l, 0, _ => by simp [flat2]
  | s :: l, j + 1, h => by
    have := flat2_get l j (by simpa using h)
    rw [show (j + 1) * 2 = j * 2 + 1 + 1 from by omega]
    simpa [flat2] using this

theorem flat2_set : ∀ (l : List (Nat × Nat)) (j : Nat) (s : Nat × Nat), ((flat2 l).set (j * 2 + 1) (.float .f64 s.2)).set (j * 2) (.float .f64 s.1) = flat2 (l.set j s)
  | [], j, s => by simp [flat2]
  | t :: l, 0, s => by simp [flat2]
  | t :: l, j + 1, s => by
    rw [show (j + 1) * 2 = j * 2 + 1 + 1 from by omega]
    simpa [flat2] using flat2_set l j s

theorem flat2_zeros (n : Nat) : madeCells #[.float .f64 0, .float .f64 0] (n * 2) = (flat2 (List.replicate n (0, 0))).toArray := by
  apply Array.ext'
  apply List.ext_getElem?
  intro i
  have h1 : (madeCells #[.float .f64 0, .float .f64 0] (n * 2)).toList.length = n * 2 := by simp [madeCells]
  rcases Nat.lt_or_ge i (n * 2) with h | h
  · have e : (madeCells #[.float .f64 0, .float .f64 0] (n * 2)).toList[i]? = some (.float .f64 0) := by
      have : (madeCells #[Value.float .f64 0, .float .f64 0] (n * 2))[i]? = some (.float .f64 0) := by
        simp only [madeCells, Array.getElem?_map]
        rw [Array.getElem?_eq_getElem (by simpa using h)]
        simp only [Array.getElem_range, Option.map_some]
        rcases Nat.mod_two_eq_zero_or_one i with h2 | h2 <;> simp [h2]
      simpa using this
    rw [e]
    have hq : i / 2 < (List.replicate n ((0 : Nat), (0 : Nat))).length := by simp; omega
    have hg := flat2_get (List.replicate n (0, 0)) (i / 2) hq
    have hz : (List.replicate n ((0 : Nat), (0 : Nat))).getD (i / 2) (0, 0) = (0, 0) := by
      have : i / 2 < n := by simpa using hq
      simp [List.getD, this]
    rw [hz] at hg
    rcases Nat.mod_two_eq_zero_or_one i with h2 | h2
    · rw [show i / 2 * 2 = i from by omega] at hg; exact hg.1.symm
    · rw [show i / 2 * 2 + 1 = i from by omega] at hg; exact hg.2.symm
  · rw [List.getElem?_eq_none (by rw [h1]; exact h), List.getElem?_eq_none (by simp [flat2_length]; exact h)]

/-- Many totals in one block. -/
def TotsB (w : World) (g : Nat) (S : List (Nat × Nat)) : Prop := w.heap[g]? = some (.cells (flat2 S).toArray 40)

theorem TotsB.add (S : List (Nat × Nat)) (j x : Nat) (hj : j < S.length) (hT : TOk (S.getD j (0, 0)) x) {g : Nat} {w : World} (h : TotsB w g S) :
    Calls Try.prog 13 #[.pointer (some ⟨g, j * 2, none⟩), .float .f64 x] w fun e w' => e = .returned (.tuple #[]) ∧ TotsB w' g (S.set j (tad (S.getD j (0, 0)) x)) ∧ Wrote w w' g (flat2 (S.set j (tad (S.getD j (0, 0)) x))).toArray 40 := by
  have hg := flat2_get S j hj
  refine (tadd_ok (S.getD j (0, 0)) x hT g (j * 2) w _ _ h (by simpa using hg.1) (by simpa using hg.2)).mono ?_
  rintro e w' ⟨rfl, hw⟩
  have e9 : (((flat2 S).toArray.setIfInBounds (j * 2 + 1) (.float .f64 (tad (S.getD j (0, 0)) x).2)).setIfInBounds (j * 2) (.float .f64 (tad (S.getD j (0, 0)) x).1)) = (flat2 (S.set j (tad (S.getD j (0, 0)) x))).toArray := by
    rw [← flat2_set]; simp
  rw [e9] at hw
  exact ⟨rfl, hw.blk, hw⟩

theorem TotsB.mean (S : List (Nat × Nat)) (j : Nat) (m : Int) (hj : j < S.length) (hT : FOk .add (S.getD j (0, 0)).1 (S.getD j (0, 0)).2) (hq : FOk .quo (sm (S.getD j (0, 0))) (floatOfInt .f64 m)) {g : Nat} {w : World} (h : TotsB w g S) :
    Calls Try.prog 15 #[.pointer (some ⟨g, j * 2, none⟩), .int .i64 m] w fun e w' => e = .returned (.float .f64 (uns (fop .quo (sm (S.getD j (0, 0))) (floatOfInt .f64 m)))) ∧ Drw w w' := by
  have hg := flat2_get S j hj
  exact mean_ok (S.getD j (0, 0)) m hT hq g (j * 2) w _ _ h (by simpa using hg.1) (by simpa using hg.2)

theorem TotB.mean (s : Nat × Nat) (m : Int) (hT : FOk .add s.1 s.2) (hq : FOk .quo (sm s) (floatOfInt .f64 m)) {b : Nat} {w : World} (h : TotB w b s) :
    Calls Try.prog 15 #[.pointer (some ⟨b, 0, none⟩), .int .i64 m] w fun e w' => e = .returned (.float .f64 (uns (fop .quo (sm s) (floatOfInt .f64 m)))) ∧ Drw w w' := mean_ok s m hT hq b 0 w _ _ h rfl rfl

/-- Numbers in one block. -/
def ManB (w : World) (g : Nat) (M : List Int) : Prop := w.heap[g]? = some (.cells (M.map (Value.int .i64)).toArray 3)

theorem ManB.cell {w : World} {g : Nat} {M : List Int} (h : ManB w g M) {j : Nat} (hj : j < M.length) : w.cell? ⟨g, j, none⟩ = some (.int .i64 (M.getD j 0)) ∧ w.frozen? ⟨g, j, none⟩ = false := by
  unfold ManB at h
  constructor
  · unfold World.cell?
    rw [h]
    simp [List.getD, hj]
  · unfold World.frozen?
    rw [h]
    simp

theorem ManB.set {w : World} {g : Nat} {M : List Int} (h : ManB w g M) (j : Nat) (y : Int) : ManB (w.setCell ⟨g, j, none⟩ (.int .i64 y)) g (M.set j y) := by
  unfold ManB at h ⊢
  simp [World.setCell, Array.getElem?_modify, h, List.map_set]

/-- Floats in one block. -/
def FlsB (w : World) (g : Nat) (F : List Nat) : Prop := w.heap[g]? = some (.cells (F.map (Value.float .f64)).toArray 23)

theorem FlsB.cell {w : World} {g : Nat} {F : List Nat} (h : FlsB w g F) {j : Nat} (hj : j < F.length) : w.cell? ⟨g, j, none⟩ = some (.float .f64 (F.getD j 0)) ∧ w.frozen? ⟨g, j, none⟩ = false := by
  unfold FlsB at h
  constructor
  · unfold World.cell?
    rw [h]
    simp [List.getD, hj]
  · unfold World.frozen?
    rw [h]
    simp

theorem FlsB.set {w : World} {g : Nat} {F : List Nat} (h : FlsB w g F) (j : Nat) (y : Nat) : FlsB (w.setCell ⟨g, j, none⟩ (.float .f64 y)) g (F.set j y) := by
  unfold FlsB at h ⊢
  simp [World.setCell, Array.getElem?_modify, h, List.map_set]

abbrev bellAt (L : List (Int × Nat)) (k : Nat) : Nat := (L.getD k (0, 0)).1.toNat

/-- How far off the k-th blow is. -/
def dAt (n : Nat) (L : List (Int × Nat)) (k : Nat) : Nat := fop .sub (timeAt L k) (fop .add (startOf n L) (fop .mul (gapOf n L) (fi (beatN n k))))

abbrev fabs (x : Nat) : Nat := x % 9223372036854775808

def tO (n : Nat) (L : List (Int × Nat)) : Nat → Nat × Nat
  | 0 => (0, 0)
  | k + 1 => tad (tO n L k) (fabs (dAt n L k))

def tQ (n : Nat) (L : List (Int × Nat)) : Nat → Nat × Nat
  | 0 => (0, 0)
  | k + 1 => tad (tQ n L k) (fop .mul (dAt n L k) (dAt n L k))

def ownS (n : Nat) (L : List (Int × Nat)) : Nat → List (Nat × Nat)
  | 0 => List.replicate n (0, 0)
  | k + 1 => (ownS n L k).set (bellAt L k) (tad ((ownS n L k).getD (bellAt L k) (0, 0)) (dAt n L k))

def manS (n : Nat) (L : List (Int × Nat)) : Nat → List Int
  | 0 => List.replicate n 0
  | k + 1 => (manS n L k).set (bellAt L k) ((manS n L k).getD (bellAt L k) 0 + 1)

theorem getD_put {α : Type} (l : List α) (i j : Nat) (v d : α) : (l.set i v).getD j d = if i = j ∧ j < l.length then v else l.getD j d := by
  simp only [List.getD, List.getElem?_set]
  by_cases h : i = j
  · subst h
    by_cases h2 : i < l.length
    · simp [h2]
    · simp [h2]
  · simp [h]

theorem ownS_length (n : Nat) (L : List (Int × Nat)) (k : Nat) : (ownS n L k).length = n := by
  induction k with
  | zero => simp [ownS]
  | succ k ih => simp only [ownS, List.length_set, ih]

theorem manS_length (n : Nat) (L : List (Int × Nat)) (k : Nat) : (manS n L k).length = n := by
  induction k with
  | zero => simp [manS]
  | succ k ih => simp only [manS, List.length_set, ih]

theorem manS_le (n : Nat) (L : List (Int × Nat)) (k j : Nat) : 0 ≤ (manS n L k).getD j 0 ∧ (manS n L k).getD j 0 ≤ k := by
  induction k with
  | zero =>
    simp only [manS, List.getD, List.getElem?_replicate]
    split <;> simp
  | succ k ih =>
    simp only [manS]
    rw [getD_put]
    split
    · rename_i h; have := ih; rw [← h.1] at this; omega
    · omega

/-- The mean of a bell's own. -/
def bellMean (n : Nat) (L : List (Int × Nat)) (i : Nat) : Nat := if 0 < (manS n L L.length).getD i 0 then uns (fop .quo (sm ((ownS n L L.length).getD i (0, 0))) (fi ((manS n L L.length).getD i 0))) else 0

def meanOf (n : Nat) (L : List (Int × Nat)) : Nat := uns (fop .quo (sm (tO n L L.length)) (fi (L.length : Int)))
def varOf (n : Nat) (L : List (Int × Nat)) : Nat := uns (fop .quo (sm (tQ n L L.length)) (fi (L.length : Int)))

/-- All operations of Judge, but for the root, are valid. -/
structure JOk (n : Nat) (L : List (Int × Nat)) : Prop where
  near : NOk n L
  m : ∀ k, k < L.length → FOk .mul (gapOf n L) (fi (beatN n k))
  a : ∀ k, k < L.length → FOk .add (startOf n L) (fop .mul (gapOf n L) (fi (beatN n k)))
  s : ∀ k, k < L.length → FOk .sub (timeAt L k) (fop .add (startOf n L) (fop .mul (gapOf n L) (fi (beatN n k))))
  d : ∀ k, k < L.length → dAt n L k < 18446744073709551616
  o : ∀ k, k < L.length → TOk (tO n L k) (fabs (dAt n L k))
  q : ∀ k, k < L.length → FOk .mul (dAt n L k) (dAt n L k)
  q2 : ∀ k, k < L.length → TOk (tQ n L k) (fop .mul (dAt n L k) (dAt n L k))
  w : ∀ k, k < L.length → TOk ((ownS n L k).getD (bellAt L k) (0, 0)) (dAt n L k)
  so : FOk .add (tO n L L.length).1 (tO n L L.length).2
  mo : FOk .quo (sm (tO n L L.length)) (fi (L.length : Int))
  sq : FOk .add (tQ n L L.length).1 (tQ n L L.length).2
  mq : FOk .quo (sm (tQ n L L.length)) (fi (L.length : Int))
  sb : ∀ i, i < n → FOk .add ((ownS n L L.length).getD i (0, 0)).1 ((ownS n L L.length).getD i (0, 0)).2
  mb : ∀ i, i < n → 0 < (manS n L L.length).getD i 0 → FOk .quo (sm ((ownS n L L.length).getD i (0, 0))) (fi ((manS n L L.length).getD i 0))

theorem Try.info40 : (Try.prog.info? 40).map (fun i => (i.zero, i.size, i.bytes)) = some (some (.agg #[.float .f64 0, .float .f64 0]), 2, 16) := by kernel_rfl
theorem Try.info23 : (Try.prog.info? 23).map (fun i => (i.zero, i.size, i.bytes)) = some (some (.float .f64 0), 1, 8) := by kernel_rfl

theorem run_make_tots (n : Nat) (hn : n ≤ 12) (w : World) : (Instr.makeSlice 41 (.int .i64 (n : Int)) (.int .i64 (n : Int))).run Try.prog w = .ok (.slice (some ⟨w.heap.size, 0, none⟩) n n) (w.alloc (.cells (flat2 (List.replicate n (0, 0))).toArray 40)) := by
  obtain ⟨i, hi, hz0, hz1, hz2⟩ := info_parts Try.info40
  have := run_make (P := Try.prog) w 41 40 i _ Try.underlying41 hi hz0 .i64 .i64 n n (by omega) (Int.le_refl _) (by rw [hz2]; omega) (by omega)
  rw [this]
  simp only [Int.toNat_natCast, hz1]
  rw [show (Value.agg #[Value.float .f64 0, Value.float .f64 0]).cells = #[Value.float .f64 0, Value.float .f64 0] from rfl, flat2_zeros]

theorem run_make_many (n : Nat) (hn : n ≤ 12) (w : World) : (Instr.makeSlice 42 (.int .i64 (n : Int)) (.int .i64 (n : Int))).run Try.prog w = .ok (.slice (some ⟨w.heap.size, 0, none⟩) n n) (w.alloc (.cells ((List.replicate n (0 : Int)).map (Value.int .i64)).toArray 3)) := by
  obtain ⟨i, hi, hz0, hz1, hz2⟩ := info_parts Try.info3
  have := run_make (P := Try.prog) w 42 3 i _ Try.underlying42 hi hz0 .i64 .i64 n n (by omega) (Int.le_refl _) (by rw [hz2]; omega) (by omega)
  rw [this]
  simp only [Int.toNat_natCast, hz1, Nat.mul_one]
  rw [show (Value.int .i64 0).cells = #[Value.int .i64 0] from rfl, ← made_ints]

theorem made_floats (n : Nat) : (madeCells #[Value.float .f64 0] n).toList = (List.replicate n (0 : Nat)).map (Value.float .f64) := by
  apply List.ext_getElem
  · simp [madeCells]
  · intro i h1 h2
    simp [madeCells, Nat.mod_one]

theorem run_make_floats (n : Nat) (hn : n ≤ 12) (w : World) : (Instr.makeSlice 24 (.int .i64 (n : Int)) (.int .i64 (n : Int))).run Try.prog w = .ok (.slice (some ⟨w.heap.size, 0, none⟩) n n) (w.alloc (.cells ((List.replicate n (0 : Nat)).map (Value.float .f64)).toArray 23)) := by
  obtain ⟨i, hi, hz0, hz1, hz2⟩ := info_parts Try.info23
  have := run_make (P := Try.prog) w 24 23 i _ Try.underlying24 hi hz0 .i64 .i64 n n (by omega) (Int.le_refl _) (by rw [hz2]; omega) (by omega)
  rw [this]
  simp only [Int.toNat_natCast, hz1, Nat.mul_one]
  rw [show (Value.float .f64 0).cells = #[Value.float .f64 0] from rfl, ← made_floats]

end Go.Proofs.Ythdlomgjmbldfaa
