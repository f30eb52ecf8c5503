/- Joined: FlH, FlJ, PickB, AppK. -/
import Derived.Test.YthdlomgjmbldfaaJ1
import Derived.Deep.QuietTactic
import Derived.Test.YthdlomgjmbldfaaJ0
import Derived.Maps.AppendAt
/- The square root; Judge. -/
namespace Go.Proofs.Ythdlomgjmbldfaa
open Go.RowKit
set_option maxRecDepth 20000
set_option linter.unusedVariables false

/-- r is the root of x; where there is none, it is no number. -/
def SqrtOf (x r : Nat) : Prop := (DF.sqrt x = some r ∨ DF.sqrt x = none ∧ ∃ s f, DF.read r = .nan s f) ∧ r < 18446744073709551616

theorem nan_word (t : Nat) : (∃ s f, DF.read (t % 2 * 2 ^ 63 + 0x7ff0000000000000 + 1 + t / 2 % (2 ^ 52 - 1)) = .nan s f) ∧ t % 2 * 2 ^ 63 + 0x7ff0000000000000 + 1 + t / 2 % (2 ^ 52 - 1) < 18446744073709551616 := by
  have h1 : DF.signWeight = 9223372036854775808 := by decide
  have h2 : DF.binade = 4503599627370496 := by decide
  have h3 : DF.infRung = 9218868437227405312 := by decide
  generalize hx : t % 2 * 2 ^ 63 + 0x7ff0000000000000 + 1 + t / 2 % (2 ^ 52 - 1) = x
  have hq : t / 2 % (2 ^ 52 - 1) < 4503599627370495 := Nat.mod_lt _ (by decide)
  generalize t / 2 % (2 ^ 52 - 1) = q at *
  have h9 : t % 2 < 2 := Nat.mod_lt _ (by decide)
  generalize t % 2 = b at *
  have hr : 9218868437227405312 < x % 9223372036854775808 := by
    have : b = 0 ∨ b = 1 := by omega
    rcases this with h | h <;> subst h <;> omega
  refine ⟨?_, by omega⟩
  unfold Ieee.Format.read
  simp only [h1, h2, h3]
  rw [if_neg (by omega), if_neg (by omega), if_neg (by omega)]
  exact ⟨_, _, rfl⟩

theorem run_sqrt (x : Nat) (w : World) : ∃ r w', (callFunc 25 #[.float .f64 x]).run Try.prog w = .ok (.value (.float .f64 r)) w' ∧ SqrtOf x r ∧ Drw w w' := by
  rw [run_callFunc_extern Try.func25 (by kernel_rfl) (by kernel_rfl) (by kernel_rfl) (e := Extern.MathSqrt.sqrt) (by kernel_rfl)]
  cases h : FloatKind.f64.format.sqrt x with
  | some r =>
    refine ⟨r, w, ?_, ⟨Or.inl h, Ieee.Format.sqrt_lt DF h⟩, Drw.refl w⟩
    rw [show Extern.MathSqrt.sqrt #[Value.float .f64 x] = (match FloatKind.f64.format.sqrt x with | some r => pure (.float .f64 r) | none => do pure (.float .f64 (← choose (.nanBits .f64 x x)))) from rfl, h]
    rfl
  | none =>
    have hn := nan_word (w.tape w.drawn (.nanBits .f64 x x))
    refine ⟨_, w.drew, ?_, ⟨Or.inr ⟨h, hn.1⟩, hn.2⟩, ⟨rfl, rfl, rfl, rfl⟩⟩
    rw [show Extern.MathSqrt.sqrt #[Value.float .f64 x] = (match FloatKind.f64.format.sqrt x with | some r => pure (.float .f64 r) | none => do pure (.float .f64 (← choose (.nanBits .f64 x x)))) from rfl, h]
    simp [Question.forced, Question.cut]

theorem sqrt_ok (x : Nat) (w : World) : Calls Try.prog 16 #[.float .f64 x] w fun e w' => ∃ r, e = .returned (.float .f64 r) ∧ SqrtOf x r ∧ Drw w w' := by
  obtain ⟨r, w1, hr, hs, hd⟩ := run_sqrt x w
  have HS := hide hs
  go_enter Try.func16, Try.ntmps16
  go_wp2
  go_ret
  exact ⟨r, rfl, HS.out, hd⟩

/-- What Judge keeps: two totals, one for each bell, how many of each; the answer's place. -/
structure JMem (w : World) (A go gm R n : Nat) (L : List (Int × Nat)) (k : Nat) : Prop where
  off : TotB w A (tO n L k)
  sq : TotB w (A + 1) (tQ n L k)
  own : TotsB w go (ownS n L k)
  man : ManB w gm (manS n L k)
  res : w.heap[R]? = some (.cells #[.float .f64 0, .float .f64 0, .float .f64 0, .float .f64 0, .slice none 0 0] 26)
  ra : R < A
  ag : A + 1 < go ∧ A + 1 < gm ∧ go ≠ gm
  sz : go < w.heap.size ∧ gm < w.heap.size

theorem JMem.lt {w : World} {A go gm R n : Nat} {L : List (Int × Nat)} {k : Nat} (h : JMem w A go gm R n L k) : R + 1 ≤ w.heap.size := by
  have := h.ra; have := h.ag; have := h.sz; omega

theorem JMem.keep {w w' : World} {A go gm R n : Nat} {L : List (Int × Nat)} {k : Nat} (h : JMem w A go gm R n L k) (hs : w.heap.size ≤ w'.heap.size) (hb : ∀ x, x < w.heap.size → w'.heap[x]? = w.heap[x]?) : JMem w' A go gm R n L k := by
  have h1 := h.ra; have h2 := h.ag; have h3 := h.sz
  exact ⟨(hb _ (by omega)).trans h.off, (hb _ (by omega)).trans h.sq, (hb _ (by omega)).trans h.own, (hb _ (by omega)).trans h.man, (hb _ (by omega)).trans h.res, h1, h2, by omega⟩

/-- The means of the first j bells; noughts. -/
def belF (n : Nat) (L : List (Int × Nat)) (j : Nat) : List Nat := (List.range n).map (fun i => if i < j then bellMean n L i else 0)

theorem belF_zero (n : Nat) (L : List (Int × Nat)) : belF n L 0 = List.replicate n 0 := by
  unfold belF
  apply List.ext_getElem
  · simp
  · intro i h1 h2; simp

theorem belF_length (n : Nat) (L : List (Int × Nat)) (j : Nat) : (belF n L j).length = n := by simp [belF]

theorem belF_set (n : Nat) (L : List (Int × Nat)) (j : Nat) : (belF n L j).set j (bellMean n L j) = belF n L (j + 1) := by
  unfold belF
  apply List.ext_getElem
  · simp
  · intro i h1 h2
    simp only [List.getElem_set, List.getElem_map, List.getElem_range]
    by_cases h : j = i
    · subst h; simp
    · rw [if_neg h]
      by_cases h3 : i < j
      · rw [if_pos h3, if_pos (by omega)]
      · rw [if_neg h3, if_neg (by omega)]

theorem belF_skip (n : Nat) (L : List (Int × Nat)) (j : Nat) (h : bellMean n L j = 0) : belF n L (j + 1) = belF n L j := by
  unfold belF
  apply List.ext_getElem
  · simp
  · intro i h1 h2
    simp only [List.getElem_map, List.getElem_range]
    by_cases h3 : i < j
    · rw [if_pos h3, if_pos (by omega)]
    · rw [if_neg h3]
      by_cases h4 : i = j
      · subst h4; rw [if_pos (by omega), h]
      · rw [if_neg (by omega)]

theorem belF_all (n : Nat) (L : List (Int × Nat)) : belF n L n = (List.range n).map (bellMean n L) := by
  unfold belF
  apply List.map_congr_left
  intro i hi
  rw [if_pos (by simpa using hi)]

theorem cells5s {w1 : World} {B : Nat} {a b c d e : Value} {t : TypeId} (h : w1.heap[B]? = some (.cells #[a, b, c, d, e] t)) :
    w1.cell? ⟨B, 0, none⟩ = some a ∧ w1.cell? ⟨B, 1, none⟩ = some b ∧ w1.cell? ⟨B, 2, none⟩ = some c ∧ w1.cell? ⟨B, 3, none⟩ = some d ∧ w1.cell? ⟨B, 4, none⟩ = some e ∧ w1.frozen? ⟨B, 0, none⟩ = false ∧ w1.frozen? ⟨B, 1, none⟩ = false ∧ w1.frozen? ⟨B, 2, none⟩ = false ∧ w1.frozen? ⟨B, 3, none⟩ = false ∧ w1.frozen? ⟨B, 4, none⟩ = false := by
  simp [World.cell?, World.frozen?, h]

theorem ret_striking {fn : Func} {R : Ending → World → Prop} {a : Act} {w : World} {p u : Tmp} {b : Nat} {cs : Array Value} {t : Value} (h : fn.results = #[.cell p 26, .tmp u]) (hp : a.tmps.getD p undef = .pointer (some ⟨b, 0, none⟩)) (hu : a.tmps.getD u undef = t) (hg : w.heap[b]? = some (.cells cs 26)) (hz : cs.size = 5) (hd : a.defers = []) (hR : R (.returned (.tuple #[.agg cs, t])) w) : bodyPost Try.prog fn R .ret a w := by
  refine bodyPost_ret (v := .tuple #[.agg cs, t]) ?_ hd hR
  have hp' : a.tmps[p]?.getD undef = .pointer (some ⟨b, 0, none⟩) := by simpa using hp
  have hu' : a.tmps[u]?.getD undef = t := by simpa using hu
  rw [results_cell_tmp h]
  simp [hp', hu', asAddr, Result.andThen, run_loadVar_row w b 26 26 cs _ _ hg Try.underlying26 rfl (by rw [hz]; kernel_rfl)]

theorem four_blocks (w : World) (o1 o2 o3 o4 : Obj) : ((((w.alloc o1).alloc o2).alloc o3).alloc o4).drew.heap[w.heap.size]? = some o1 ∧ ((((w.alloc o1).alloc o2).alloc o3).alloc o4).drew.heap[w.heap.size + 1]? = some o2 ∧
    ((((w.alloc o1).alloc o2).alloc o3).alloc o4).drew.heap[w.heap.size + 1 + 1]? = some o3 ∧ ((((w.alloc o1).alloc o2).alloc o3).alloc o4).drew.heap[w.heap.size + 1 + 1 + 1]? = some o4 ∧ (∀ k, k < w.heap.size → ((((w.alloc o1).alloc o2).alloc o3).alloc o4).drew.heap[k]? = w.heap[k]?) ∧ ((((w.alloc o1).alloc o2).alloc o3).alloc o4).drew.heap.size = w.heap.size + 1 + 1 + 1 + 1 := by
  show ((((w.alloc o1).alloc o2).alloc o3).alloc o4).heap[w.heap.size]? = some o1 ∧ ((((w.alloc o1).alloc o2).alloc o3).alloc o4).heap[w.heap.size + 1]? = some o2 ∧
    ((((w.alloc o1).alloc o2).alloc o3).alloc o4).heap[w.heap.size + 1 + 1]? = some o3 ∧ ((((w.alloc o1).alloc o2).alloc o3).alloc o4).heap[w.heap.size + 1 + 1 + 1]? = some o4 ∧ (∀ k, k < w.heap.size → ((((w.alloc o1).alloc o2).alloc o3).alloc o4).heap[k]? = w.heap[k]?) ∧ ((((w.alloc o1).alloc o2).alloc o3).alloc o4).heap.size = w.heap.size + 1 + 1 + 1 + 1
  refine ⟨?_, ?_, ?_, ?_, fun k hk => ?_, by simp⟩
  · rw [Below.heap_alloc _ _ _ (by simp; omega), Below.heap_alloc _ _ _ (by simp; omega), Below.heap_alloc _ _ _ (by simp)]; exact alloc_at _ _
  · rw [Below.heap_alloc _ _ _ (by simp), Below.heap_alloc _ _ _ (by simp)]; exact alloc_at' _ _ (by simp)
  · rw [Below.heap_alloc _ _ _ (by simp)]; exact alloc_at' _ _ (by simp)
  · exact alloc_at' _ _ (by simp)
  · rw [Below.heap_alloc _ _ _ (by simp; omega), Below.heap_alloc _ _ _ (by simp; omega), Below.heap_alloc _ _ _ (by simp; omega), Below.heap_alloc _ _ _ hk]

theorem JMem.start1 {w : World} {R n : Nat} {L : List (Int × Nat)} (h : w.heap[R]? = some (.cells #[.float .f64 0, .float .f64 0, .float .f64 0, .float .f64 0, .slice none 0 0] 26)) (hR : R < w.heap.size) :
    JMem ((((w.alloc (.cells #[.float .f64 0, .float .f64 0] 40)).alloc (.cells #[.float .f64 0, .float .f64 0] 40)).alloc (.cells (flat2 (List.replicate n (0, 0))).toArray 40)).alloc (.cells (Array.replicate n (.int .i64 0)) 3)).drew w.heap.size (w.heap.size + 1 + 1) (w.heap.size + 1 + 1 + 1) R n L 0 := by
  obtain ⟨e1, e2, e3, e4, e5, e6⟩ := four_blocks w (.cells #[.float .f64 0, .float .f64 0] 40) (.cells #[.float .f64 0, .float .f64 0] 40) (.cells (flat2 (List.replicate n (0, 0))).toArray 40) (.cells (Array.replicate n (.int .i64 0)) 3)
  refine ⟨e1, e2, e3, ?_, (e5 R hR).trans h, hR, by omega, by rw [e6]; omega⟩
  unfold ManB
  rw [e4]
  simp [manS]

theorem JMem.start2 {w : World} {R n : Nat} {L : List (Int × Nat)} (h : w.heap[R]? = some (.cells #[.float .f64 0, .float .f64 0, .float .f64 0, .float .f64 0, .slice none 0 0] 26)) (hR : R < w.heap.size) :
    JMem ((((w.alloc (.cells #[.float .f64 0, .float .f64 0] 40)).alloc (.cells #[.float .f64 0, .float .f64 0] 40)).alloc (.cells (Array.replicate n (.int .i64 0)) 3)).alloc (.cells (flat2 (List.replicate n (0, 0))).toArray 40)).drew w.heap.size (w.heap.size + 1 + 1 + 1) (w.heap.size + 1 + 1) R n L 0 := by
  obtain ⟨e1, e2, e3, e4, e5, e6⟩ := four_blocks w (.cells #[.float .f64 0, .float .f64 0] 40) (.cells #[.float .f64 0, .float .f64 0] 40) (.cells (Array.replicate n (.int .i64 0)) 3) (.cells (flat2 (List.replicate n (0, 0))).toArray 40)
  refine ⟨e1, e2, e4, ?_, (e5 R hR).trans h, hR, by omega, by rw [e6]; omega⟩
  unfold ManB
  rw [e3]
  simp [manS]

/-- What Judge answers. -/
def JPost (n : Nat) (L : List (Int × Nat)) (w : World) (e : Ending) (w' : World) : Prop :=
  ∃ sp g, e = .returned (.tuple #[.agg #[.float .f64 (startOf n L), .float .f64 (gapOf n L), .float .f64 (meanOf n L), .float .f64 sp, .slice (some ⟨g, 0, none⟩) n n], .int .i64 0]) ∧ SqrtOf (varOf n L) sp ∧ FlsB w' g ((List.range n).map (bellMean n L)) ∧ w.heap.size ≤ g ∧ Below w.heap.size w w'

set_option maxHeartbeats 8000000 in
theorem judge_ok (n : Nat) (v : Value) (L : List (Int × Nat)) (w : World) (hn1 : 1 ≤ n) (hn2 : n ≤ 12) (hv : Blows w v L) (hc : chkB n L = 0) (hl2 : L.length ≤ 5000) (hok : JOk n L) (hb : ∀ k, k < L.length → 0 ≤ (L.getD k (0, 0)).1 ∧ (L.getD k (0, 0)).1 < n) :
    Calls Try.prog 5 #[.int .i64 n, v] w (JPost n L w) := by
  have hl1 : 1 ≤ L.length := by
    rcases Nat.eq_zero_or_pos L.length with h | h
    · unfold chkB at hc; rw [if_pos (by omega)] at hc; cases hc
    · exact h
  have HC := fun W hW => hide (checkB_ok n v L W ⟨by omega, by omega⟩ (hv.below (w' := W) hW))
  have HN := fun W hW => hide (nearest_ok n v L W hn1 hn2 (hv.below (w' := W) hW) hl1 hl2 hok.near)
  rw [hc] at HC
  rcases hv with ⟨rfl, _⟩ | ⟨b, off, cap, rfl, h0, h1, h2, h3, hcell⟩
  · simp at hl1
  have HCE := hide hcell
  have HOK := hide hok
  have HBB := hide hb
  clear hcell hok hb hc
  obtain ⟨m, hm⟩ : ∃ m, Hid (L.length = m) := ⟨_, rfl⟩
  have hm0 : 1 ≤ m := by rw [← hm.out]; exact hl1
  have hm2 : m ≤ 5000 := by rw [← hm.out]; exact hl2
  have hmc : m ≤ cap := by rw [← hm.out]; exact h1
  rw [hm.out] at HC HN ⊢
  clear hl1 hl2 h0 h1
  have r1 := run_make_tots n hn2
  have r2 := run_make_many n hn2
  go_enter Try.func5, Try.ntmps5
  have hB0 : Below w.heap.size w (w.alloc (.cells #[.float .f64 0, .float .f64 0, .float .f64 0, .float .f64 0, .slice none 0 0] 26)) := (Below.refl _ _).alloc (Nat.le_refl _) _
  go_wp2_with fail
  refine (HC _ hB0).out.mono ?_
  rintro e w1 ⟨rfl, hb1⟩
  have hS1 : w1.heap[w.heap.size]? = some (.cells #[.float .f64 0, .float .f64 0, .float .f64 0, .float .f64 0, .slice none 0 0] 26) := (hb1.block _ (by simp)).trans (alloc_at _ _)
  have hB1 := hB0.trans (hb1.mono hB0.size)
  have hz1 : w.heap.size + 1 ≤ w1.heap.size := by have := hb1.size; simpa using this
  clear hB0 hb1
  go_wp2_with fail
  refine (HN _ hB1).out.mono ?_
  rintro e w2 ⟨rfl, hb2⟩
  have hS2 := (hb2.block w.heap.size (by omega)).trans hS1
  have hB2 := hB1.trans (hb2.mono hB1.size)
  have hz2 : w.heap.size + 1 ≤ w2.heap.size := Nat.le_trans hz1 hb2.size
  clear hB1 hS1 hz1 hb2 HC HN
  obtain ⟨S0, hS0⟩ : ∃ S, Hid (startOf n L = S) := ⟨_, rfl⟩
  obtain ⟨G0, hG0⟩ : ∃ S, Hid (gapOf n L = S) := ⟨_, rfl⟩
  rw [hS0.out, hG0.out]
  go_wp2
  go_region
  all_goals
    first
    | (show Exit.then _ _ _ _ ((((w2.alloc _).alloc _).alloc (Obj.cells (flat2 _).toArray _)).alloc _).drew
       have hJ : JMem ((((w2.alloc (.cells #[.float .f64 0, .float .f64 0] 40)).alloc (.cells #[.float .f64 0, .float .f64 0] 40)).alloc (.cells (flat2 (List.replicate n (0, 0))).toArray 40)).alloc (.cells (Array.replicate n (.int .i64 0)) 3)).drew w2.heap.size (w2.heap.size + 1 + 1) (w2.heap.size + 1 + 1 + 1) w.heap.size n L 0 := JMem.start1 hS2 (by omega)
       have hBJ : Below w.heap.size w ((((w2.alloc (.cells #[.float .f64 0, .float .f64 0] 40)).alloc (.cells #[.float .f64 0, .float .f64 0] 40)).alloc (.cells (flat2 (List.replicate n (0, 0))).toArray 40)).alloc (.cells (Array.replicate n (.int .i64 0)) 3)).drew := ((((hB2.alloc (by omega) _).alloc (by simp; omega) _).alloc (by simp; omega) _).alloc (by simp; omega) _).drew
       generalize ((((w2.alloc (.cells #[.float .f64 0, .float .f64 0] 40)).alloc (.cells #[.float .f64 0, .float .f64 0] 40)).alloc (.cells (flat2 (List.replicate n (0, 0))).toArray 40)).alloc (.cells (Array.replicate n (.int .i64 0)) 3)).drew = W at *
       generalize w2.heap.size + 1 + 1 + 1 = gm at *
       generalize w2.heap.size + 1 + 1 = go at *)
    | (have hJ : JMem ((((w2.alloc (.cells #[.float .f64 0, .float .f64 0] 40)).alloc (.cells #[.float .f64 0, .float .f64 0] 40)).alloc (.cells (Array.replicate n (.int .i64 0)) 3)).alloc (.cells (flat2 (List.replicate n (0, 0))).toArray 40)).drew w2.heap.size (w2.heap.size + 1 + 1 + 1) (w2.heap.size + 1 + 1) w.heap.size n L 0 := JMem.start2 hS2 (by omega)
       have hBJ : Below w.heap.size w ((((w2.alloc (.cells #[.float .f64 0, .float .f64 0] 40)).alloc (.cells #[.float .f64 0, .float .f64 0] 40)).alloc (.cells (Array.replicate n (.int .i64 0)) 3)).alloc (.cells (flat2 (List.replicate n (0, 0))).toArray 40)).drew := ((((hB2.alloc (by omega) _).alloc (by simp; omega) _).alloc (by simp; omega) _).alloc (by simp; omega) _).drew
       generalize ((((w2.alloc (.cells #[.float .f64 0, .float .f64 0] 40)).alloc (.cells #[.float .f64 0, .float .f64 0] 40)).alloc (.cells (Array.replicate n (.int .i64 0)) 3)).alloc (.cells (flat2 (List.replicate n (0, 0))).toArray 40)).drew = W at *
       generalize w2.heap.size + 1 + 1 + 1 = go at *
       generalize w2.heap.size + 1 + 1 = gm at *)
    generalize hA : w2.heap.size = A at *
    clear hS2 hB2 hA r1 r2
    have HJ := hide hJ
    clear hJ
    go_wp2
    go_loopw [37] (fun i wr => ∃ k : Nat, k ≤ m ∧ i = .int .i64 k ∧ Hid (JMem wr A go gm w.heap.size n L k) ∧ Below w.heap.size w wr) (fun i _ => m - (intOf i).toNat)
    case atStart => exact ⟨0, by omega, rfl, HJ, hBJ⟩
    case round =>
      obtain ⟨k, hk, rfl, hJ, hbw⟩ := hrel
      by_cases hlt : k < m
      · have hkL : k < L.length := by rw [hm.out]; exact hlt
        obtain ⟨bell, hbell⟩ : ∃ y : Nat, Hid ((L.getD k (0, 0)).1 = (y : Int) ∧ bellAt L k = y ∧ y < n) := ⟨(L.getD k (0, 0)).1.toNat, by have := HBB.out k hkL; exact ⟨by omega, rfl, by omega⟩⟩
        have hbn : bell < n := hbell.out.2.2
        obtain ⟨time, htime⟩ : ∃ y, Hid ((L.getD k (0, 0)).2 = y) := ⟨_, rfl⟩
        have hcA : wr.cell? ⟨b, off + k * 2, none⟩ = some (.int .i64 bell) := by rw [hbw.cell (p := ⟨b, off + k * 2, none⟩) h3, (HCE.out k hkL).1, hbell.out.1]
        have hcB : wr.cell? ⟨b, off + k * 2 + 1, none⟩ = some (.float .f64 time) := by rw [hbw.cell (p := ⟨b, off + k * 2 + 1, none⟩) h3, (HCE.out k hkL).2, htime.out]
        have HBT := hide (fun W => beat_ok n k W hn1 hn2 (by omega))
        have f1 := HOK.out.m k hkL
        have f2 := HOK.out.a k hkL
        have f3 := HOK.out.s k hkL
        have hd := HOK.out.d k hkL
        have f4 := HOK.out.q k hkL
        have HT1 := hide (HOK.out.o k hkL)
        have HT2 := hide (HOK.out.q2 k hkL)
        have HT3 := hide (HOK.out.w k hkL)
        have HD : Hid (dAt n L k = fop .sub (timeAt L k) (fop .add (startOf n L) (fop .mul (gapOf n L) (fi (beatN n k))))) := rfl
        rw [hS0.out, hG0.out] at f2 f3
        rw [hG0.out] at f1
        rw [hS0.out, hG0.out] at HD
        unfold timeAt at f3 HD
        rw [htime.out] at f3 HD
        rw [hbell.out.2.1] at HT3
        have HJ2 : Hid (JMem wr A go gm w.heap.size n L k) := hJ
        have HNext : Hid (tO n L (k + 1) = tad (tO n L k) (fabs (dAt n L k)) ∧ tQ n L (k + 1) = tad (tQ n L k) (fop .mul (dAt n L k) (dAt n L k)) ∧ ownS n L (k + 1) = (ownS n L k).set bell (tad ((ownS n L k).getD bell (0, 0)) (dAt n L k)) ∧ manS n L (k + 1) = (manS n L k).set bell ((manS n L k).getD bell 0 + 1)) := ⟨rfl, rfl, by rw [← hbell.out.2.1]; rfl, by rw [← hbell.out.2.1]; rfl⟩
        generalize dAt n L k = d at *
        have r1 := fun w => run_float_arith (P := Try.prog) w .mul 23 .f64 _ _ _ f1
        have r2 := fun w => run_float_arith (P := Try.prog) w .add 23 .f64 _ _ _ f2
        have r3 := fun w => run_float_arith (P := Try.prog) w .sub 23 .f64 _ _ _ f3
        have r4 := fun w => run_float_arith (P := Try.prog) w .mul 23 .f64 _ _ _ f4
        rw [← HD.out] at r3
        clear f1 f2 f3 f4 HD
        generalize beatN n k = c at *
        generalize fop .add S0 (fop .mul G0 (fi (c : Int))) = y2 at *
        generalize fop .mul G0 (fi (c : Int)) = y1 at *
        generalize fop .mul d d = y4 at *
        have hbs := hbw.size
        go_wp2
        go_quiet ((go_at_call 12; exact Calls.quiet_of_same ((HBT.out _).mono (fun e w h => ⟨h.1, h.2.symm⟩))))
        have hs1 : ((wr.alloc (.cells #[.int .i64 (bell : Int), .float .f64 time] 35)).drewN nq).heap.size = wr.heap.size + 1 := by show (wr.alloc _).heap.size = _; simp
        have hk1 : ∀ x, x < wr.heap.size → ((wr.alloc (.cells #[.int .i64 (bell : Int), .float .f64 time] 35)).drewN nq).heap[x]? = wr.heap[x]? := fun x hx => Below.heap_alloc wr _ x hx
        have hbl1 : ((wr.alloc (.cells #[.int .i64 (bell : Int), .float .f64 time] 35)).drewN nq).heap[wr.heap.size]? = some (.cells #[.int .i64 (bell : Int), .float .f64 time] 35) := alloc_at wr _
        have hB1 : Below w.heap.size w ((wr.alloc (.cells #[.int .i64 (bell : Int), .float .f64 time] 35)).drewN nq) := by have := hbw.alloc hbs (.cells #[.int .i64 (bell : Int), .float .f64 time] 35); exact ⟨this.os, this.tape, this.output, this.size, this.block⟩
        generalize (wr.alloc (.cells #[.int .i64 (bell : Int), .float .f64 time] 35)).drewN nq = W1 at *
        have hra := hJ.out.ra
        have hag := hJ.out.ag
        have hsz := hJ.out.sz
        have O1 := hide ((hk1 A (by omega)).trans hJ.out.off)
        have Q1 := hide ((hk1 (A + 1) (by omega)).trans hJ.out.sq)
        have T1 := hide ((hk1 go (by omega)).trans hJ.out.own)
        have M1 := hide ((hk1 gm (by omega)).trans hJ.out.man)
        have R1 := hide ((hk1 w.heap.size (by omega)).trans hJ.out.res)
        have hlm := manS_length n L k
        have hlo := ownS_length n L k
        have HLM := hide hlm
        have HLO := hide hlo
        have hml := manS_le n L k bell
        clear hlm hlo hJ HJ2 hcA hcB hk1 r1 r2 r3
        go_wp2_with fail
        refine (abs_ok d hd _).mono ?_
        rintro e w9 ⟨rfl, rfl⟩
        go_wp2_with fail
        refine (TotB.add _ _ HT1.out O1.out).mono ?_
        rintro e w3 ⟨rfl, O3, hW3⟩
        have Q3 := hide ((hW3.oth (A + 1) (by omega)).trans Q1.out)
        have T3 := hide ((hW3.oth go (by omega)).trans T1.out)
        have M3 := hide ((hW3.oth gm (by omega)).trans M1.out)
        have R3 := hide ((hW3.oth w.heap.size (by omega)).trans R1.out)
        have B3 := hide ((hW3.oth wr.heap.size (by omega)).trans hbl1)
        have hB3 := hB1.trans (hW3.below (by omega))
        have hs3 := hW3.size
        have O3 := hide O3
        clear O1 Q1 T1 M1 R1 hW3 hbl1 hB1
        go_wp2_with fail
        refine (TotB.add _ _ HT2.out Q3.out).mono ?_
        rintro e w4 ⟨rfl, Q4, hW4⟩
        have O4 := hide ((hW4.oth A (by omega)).trans O3.out)
        have T4 := hide ((hW4.oth go (by omega)).trans T3.out)
        have M4 := hide ((hW4.oth gm (by omega)).trans M3.out)
        have R4 := hide ((hW4.oth w.heap.size (by omega)).trans R3.out)
        have B4 := (hW4.oth wr.heap.size (by omega)).trans B3.out
        have hB4 := hB3.trans (hW4.below (by omega))
        have hs4 := hW4.size
        have Q4 := hide Q4
        have hc4 : w4.cell? ⟨wr.heap.size, 0, none⟩ = some (.int .i64 (bell : Int)) := by unfold World.cell?; rw [B4]; rfl
        clear O3 Q3 T3 M3 R3 hW4 hB3 B3
        have B4 := hide B4
        go_wp2_with fail
        refine (TotsB.add _ bell _ (by rw [HLO.out]; exact hbn) HT3.out T4.out).mono ?_
        rintro e w5 ⟨rfl, T5, hW5⟩
        have O5 := hide ((hW5.oth A (by omega)).trans O4.out)
        have Q5 := hide ((hW5.oth (A + 1) (by omega)).trans Q4.out)
        have M5 := hide ((hW5.oth gm (by omega)).trans M4.out)
        have R5 := hide ((hW5.oth w.heap.size (by omega)).trans R4.out)
        have B5 := (hW5.oth wr.heap.size (by omega)).trans B4.out
        have hB5 := hB4.trans (hW5.below (by omega))
        have hs5 := hW5.size
        have T5 := hide T5
        have hc5 : w5.cell? ⟨wr.heap.size, 0, none⟩ = some (.int .i64 (bell : Int)) := by unfold World.cell?; rw [B5]; rfl
        obtain ⟨hcm, hfm⟩ := ManB.cell M5.out (j := bell) (by rw [HLM.out]; exact hbn)
        obtain ⟨many, hmany⟩ : ∃ y, Hid ((manS n L k).getD bell 0 = y) := ⟨_, rfl⟩
        rw [hmany.out] at hcm hml
        have hFin : Hid (JMem (w5.setCell ⟨gm, bell, none⟩ (.int .i64 (many + 1))) A go gm w.heap.size n L (k + 1)) := by
          have hoth : ∀ x, x ≠ gm → (w5.setCell ⟨gm, bell, none⟩ (.int .i64 (many + 1))).heap[x]? = w5.heap[x]? := fun x hx => Below.heap_setCell _ _ _ _ hx
          refine ⟨?_, ?_, ?_, ?_, ?_, hra, hag, ?_⟩
          · rw [HNext.out.1]; exact (hoth A (by omega)).trans O5.out
          · rw [HNext.out.2.1]; exact (hoth (A + 1) (by omega)).trans Q5.out
          · rw [HNext.out.2.2.1]; exact (hoth go (by omega)).trans T5.out
          · rw [HNext.out.2.2.2, hmany.out]; exact ManB.set M5.out bell _
          · exact (hoth w.heap.size (by omega)).trans R5.out
          · simp only [World.setCell, Array.size_modify]; omega
        have hB6 := hB5.setCell (p := ⟨gm, bell, none⟩) (by show w.heap.size ≤ gm; omega) (.int .i64 (many + 1))
        clear O4 Q4 T4 M4 R4 hW5 hB4 B4 hc4 O5 Q5 M5 R5 B5 hB5 T5
        go_wp2
        go_roundw
        case rel => exact ⟨k + 1, by omega, by go_num, hFin, hB6⟩
        case measure => simp [intOf]; omega
      · obtain rfl : k = m := by omega
        clear hBJ HJ W HCE HBB
        have r5 := run_make_floats n hn2 wr
        have hlm := hide (manS_length n L k)
        have hlo := hide (ownS_length n L k)
        have hra := hJ.out.ra
        have hag := hJ.out.ag
        have hsz := hJ.out.sz
        have hbs := hbw.size
        have hml := fun j => hide (manS_le n L k j)
        have HF0 : Hid (FlsB (wr.alloc (.cells ((List.replicate n (0 : Nat)).map (Value.float .f64)).toArray 23)) wr.heap.size (belF n L 0)) := by
          have := alloc_at wr (.cells ((List.replicate n (0 : Nat)).map (Value.float .f64)).toArray 23)
          unfold FlsB
          rw [show belF n L 0 = List.replicate n 0 from belF_zero n L]
          exact this
        have HJ0 : Hid (JMem (wr.alloc (.cells ((List.replicate n (0 : Nat)).map (Value.float .f64)).toArray 23)) A go gm w.heap.size n L k) := hJ.out.keep (by simp) (fun x hx => Below.heap_alloc wr _ x hx)
        have hB0 := hbw.alloc hbs (.cells ((List.replicate n (0 : Nat)).map (Value.float .f64)).toArray 23)
        have hs0 : (wr.alloc (.cells ((List.replicate n (0 : Nat)).map (Value.float .f64)).toArray 23)).heap.size = wr.heap.size + 1 := by simp
        clear hJ
        generalize hWR : wr.alloc (.cells ((List.replicate n (0 : Nat)).map (Value.float .f64)).toArray 23) = WR at *
        clear hWR
        generalize hgb : wr.heap.size = gb at *
        clear hgb
        go_wp2
        go_loopw [78] (fun i wz => ∃ j : Nat, j ≤ n ∧ i = .int .i64 j ∧ Hid (FlsB wz gb (belF n L j)) ∧ Hid (JMem wz A go gm w.heap.size n L k) ∧ Below w.heap.size w wz) (fun i _ => n - (intOf i).toNat)
        case atStart => exact ⟨0, by omega, rfl, HF0, HJ0, hB0⟩
        case round =>
          obtain ⟨j, hj, rfl, hF, hJ, hbw2⟩ := hrel
          have hszr := hJ.out.sz
          have hgbl : gb < wr.heap.size := (Array.getElem?_eq_some_iff.1 hF.out).1
          by_cases hjn : j < n
          · obtain ⟨many, hmany⟩ : ∃ y, Hid ((manS n L k).getD j 0 = y) := ⟨_, rfl⟩
            have hcm := (ManB.cell hJ.out.man (j := j) (by rw [hlm.out]; exact hjn)).1
            have hmj := (hml j).out
            rw [hmany.out] at hcm hmj
            by_cases hpos : 0 < many
            · have HMB : Hid (bellMean n L j = uns (fop .quo (sm ((ownS n L k).getD j (0, 0))) (fi many))) := by
                unfold bellMean
                rw [hm.out, hmany.out, if_pos hpos]; exact rfl
              have HME := fun W (hW : W.heap = wr.heap) => hide (TotsB.mean (w := W) (g := go) (ownS n L k) j many (by rw [hlo.out]; exact hjn) (by have := HOK.out.sb j hjn; rw [hm.out] at this; exact this) (by have := HOK.out.mb j hjn; rw [hm.out, hmany.out] at this; exact this hpos) (by unfold TotsB; rw [hW]; exact hJ.out.own))
              generalize uns (fop .quo (sm ((ownS n L k).getD j (0, 0))) (fi many)) = mean at *
              obtain ⟨hcf, hff⟩ := FlsB.cell hF.out (j := j) (by rw [belF_length]; exact hjn)
              have HCF : ∀ W : World, W.heap = wr.heap → Hid (W.cell? ⟨gb, j, none⟩ = some (.float .f64 ((belF n L j).getD j 0)) ∧ W.frozen? ⟨gb, j, none⟩ = false) := fun W hW => ⟨by rw [← hcf]; unfold World.cell?; rw [hW], by rw [← hff]; unfold World.frozen?; rw [hW]⟩
              go_wp2
              go_region_with (go_at_call 15; refine (HME _ (by exact rfl)).out.mono ?_; rintro e w9 ⟨rfl, hd9⟩; obtain ⟨hc9, hf9⟩ := (HCF w9 hd9.heap).out)
              all_goals
                have HE9 : Hid (FlsB (w9.setCell ⟨gb, j, none⟩ (.float .f64 mean)) gb (belF n L (j + 1))) := by
                  rw [← belF_set, HMB.out]
                  exact FlsB.set (show FlsB w9 gb (belF n L j) from by unfold FlsB; rw [hd9.heap]; exact hF.out) j mean
                have HJ9 : Hid (JMem (w9.setCell ⟨gb, j, none⟩ (.float .f64 mean)) A go gm w.heap.size n L k) := by
                  have h9 : ∀ x, x ≠ gb → (w9.setCell ⟨gb, j, none⟩ (.float .f64 mean)).heap[x]? = wr.heap[x]? := fun x hx => (Below.heap_setCell _ _ _ _ hx).trans (by rw [hd9.heap]; rfl)
                  have hJ' := hJ.out
                  refine ⟨(h9 _ (by omega)).trans hJ'.off, (h9 _ (by omega)).trans hJ'.sq, (h9 _ (by omega)).trans hJ'.own, (h9 _ (by omega)).trans hJ'.man, (h9 _ (by omega)).trans hJ'.res, hra, hag, ?_⟩
                  simp only [World.setCell, Array.size_modify, hd9.heap]
                  exact hszr
                have hB9 : Below w.heap.size w (w9.setCell ⟨gb, j, none⟩ (.float .f64 mean)) := (hbw2.trans ((show Drw wr w9 from ⟨hd9.heap, hd9.os, hd9.tape, hd9.output⟩).below _)).setCell (p := ⟨gb, j, none⟩) (by show w.heap.size ≤ gb; omega) _
                clear hc9 hf9 hd9
                go_wp2
                go_roundw
                case rel => exact ⟨j + 1, by omega, by go_num, HE9, HJ9, hB9⟩
                case measure => simp [intOf]; omega
            · have HSK : Hid (belF n L (j + 1) = belF n L j) := belF_skip n L j (by unfold bellMean; rw [hm.out, hmany.out, if_neg hpos])
              go_wp2
              go_roundw
              case rel => exact ⟨j + 1, by omega, by go_num, by rw [HSK.out]; exact hF, hJ, hbw2⟩
              case measure => simp [intOf]; omega
          · obtain rfl : j = n := by omega
            have HMO := fun W (hW : TotB W A (tO j L k)) => hide (TotB.mean (tO j L k) (k : Int) (by have := HOK.out.so; rw [hm.out] at this; exact this) (by have := HOK.out.mo; rw [hm.out] at this; exact this) hW)
            have HMQ := fun W (hW : TotB W (A + 1) (tQ j L k)) => hide (TotB.mean (tQ j L k) (k : Int) (by have := HOK.out.sq; rw [hm.out] at this; exact this) (by have := HOK.out.mq; rw [hm.out] at this; exact this) hW)
            have HM1 : Hid (uns (fop .quo (sm (tO j L k)) (floatOfInt .f64 (k : Int))) = meanOf j L) := by unfold meanOf; rw [hm.out]; exact rfl
            have HM2 : Hid (uns (fop .quo (sm (tQ j L k)) (floatOfInt .f64 (k : Int))) = varOf j L) := by unfold varOf; rw [hm.out]; exact rfl
            rw [HM1.out] at HMO
            rw [HM2.out] at HMQ
            obtain ⟨me, hme⟩ : ∃ y, Hid (meanOf j L = y) := ⟨_, rfl⟩
            obtain ⟨va, hva⟩ : ∃ y, Hid (varOf j L = y) := ⟨_, rfl⟩
            rw [hme.out] at HMO
            rw [hva.out] at HMQ
            have HO := hide hJ.out.off
            have HQ := hide hJ.out.sq
            have HRS := hide hJ.out.res
            clear HM1 HM2
            go_wp2_with fail
            refine (HMO _ HO.out).out.mono ?_
            rintro e w3 ⟨rfl, hd3⟩
            have HQ3 : Hid (TotB w3 (A + 1) (tQ j L k)) := by unfold TotB; rw [hd3.heap]; exact HQ.out
            go_wp2_with fail
            refine (HMQ _ HQ3.out).out.mono ?_
            rintro e w4 ⟨rfl, hd4⟩
            go_wp2_with fail
            refine (sqrt_ok va _).mono ?_
            rintro e w5 ⟨sp, rfl, hsp, hd5⟩
            have HSP := hide hsp
            have hd := (hd3.trans hd4).trans hd5
            have hR5 : w5.heap[w.heap.size]? = some (.cells #[.float .f64 0, .float .f64 0, .float .f64 0, .float .f64 0, .slice none 0 0] 26) := by rw [hd.heap]; exact HRS.out
            obtain ⟨z0, z1, z2, z3, z4, f0, f1, f2, f3, f4⟩ := cells5s hR5
            have hF5 : Hid (FlsB w5 gb (belF j L j)) := by unfold FlsB; rw [hd.heap]; exact hF.out
            have hB5 := hbw2.trans (hd.below _)
            clear hsp hd3 hd4 hd5 HMO HMQ HO HQ HQ3 HRS hd
            have HBF : Hid ((((((w5.setCell ⟨w.heap.size, 0, none⟩ (.float .f64 S0)).setCell ⟨w.heap.size, 1, none⟩ (.float .f64 G0)).setCell ⟨w.heap.size, 2, none⟩ (.float .f64 me)).setCell ⟨w.heap.size, 3, none⟩ (.float .f64 sp)).setCell ⟨w.heap.size, 4, none⟩ (.slice (some ⟨gb, 0, none⟩) j j)).heap[w.heap.size]? = some (.cells #[.float .f64 S0, .float .f64 G0, .float .f64 me, .float .f64 sp, .slice (some ⟨gb, 0, none⟩) j j] 26)) := by
              show _ = _
              simp [World.setCell, Array.getElem?_modify, hR5]
            have HFF : Hid (FlsB (((((w5.setCell ⟨w.heap.size, 0, none⟩ (.float .f64 S0)).setCell ⟨w.heap.size, 1, none⟩ (.float .f64 G0)).setCell ⟨w.heap.size, 2, none⟩ (.float .f64 me)).setCell ⟨w.heap.size, 3, none⟩ (.float .f64 sp)).setCell ⟨w.heap.size, 4, none⟩ (.slice (some ⟨gb, 0, none⟩) j j)) gb (belF j L j)) := by
              have hne : gb ≠ w.heap.size := by omega
              unfold FlsB
              rw [Below.heap_setCell _ _ _ _ hne, Below.heap_setCell _ _ _ _ hne, Below.heap_setCell _ _ _ _ hne, Below.heap_setCell _ _ _ _ hne, Below.heap_setCell _ _ _ _ hne]
              exact hF5.out
            have hBZ : Below w.heap.size w (((((w5.setCell ⟨w.heap.size, 0, none⟩ (.float .f64 S0)).setCell ⟨w.heap.size, 1, none⟩ (.float .f64 G0)).setCell ⟨w.heap.size, 2, none⟩ (.float .f64 me)).setCell ⟨w.heap.size, 3, none⟩ (.float .f64 sp)).setCell ⟨w.heap.size, 4, none⟩ (.slice (some ⟨gb, 0, none⟩) j j)) := ((((hB5.setCell (Nat.le_refl _) _).setCell (Nat.le_refl _) _).setCell (Nat.le_refl _) _).setCell (Nat.le_refl _) _).setCell (Nat.le_refl _) _
            have HBZ := hide hBZ
            have HBL := hide (belF_all j L)
            clear hBZ hR5
            go_wp2
            refine ret_striking (p := 4) (u := 5) rfl rfl rfl HBF.out rfl rfl ⟨sp, gb, ?_, ?_, ?_, hbs, HBZ.out⟩
            · rw [hS0.out, hG0.out, hme.out]; rfl
            · rw [hva.out]; exact HSP.out
            · rw [← HBL.out]; exact HFF.out

end Go.Proofs.Ythdlomgjmbldfaa

/- Blows in time: what Judge says of them, plain. -/
namespace Go.Proofs.Ythdlomgjmbldfaa
open Go.RowKit
set_option maxRecDepth 20000
set_option linter.unusedVariables false

theorem FI.cmp {x y : Nat} {a b : Int} (hx : FI x a) (hy : FI y b) : FloatKind.f64.format.order x y = some (compare a b) := by
  have h : FloatKind.f64.format.order x y = some (compare (a * (UU : Int)) (b * (UU : Int))) := order_fv hx hy
  have hU : (0 : Int) < (UU : Int) := by have := UU_pos; omega
  rw [h]
  congr 1
  rcases Int.lt_trichotomy a b with h | h | h
  · rw [Int.compare_eq_lt.2 h, Int.compare_eq_lt.2 (Int.mul_lt_mul_of_pos_right h hU)]
  · subst h; rw [Int.compare_eq_eq.2 rfl, Int.compare_eq_eq.2 rfl]
  · rw [Int.compare_eq_gt.2 h, Int.compare_eq_gt.2 (Int.mul_lt_mul_of_pos_right h hU)]

theorem FI.most : FI 4741671816366391296 1000000000 := by
  have e : floatOfInt .f64 1000000000 = 4741671816366391296 := by kernel_rfl
  rw [← e]
  exact FV_ofInt 1000000000 (by decide)

theorem FI.least : FI 13965043853221167104 (-1000000000) := by
  have e : floatOfInt .f64 (-1000000000) = 13965043853221167104 := by kernel_rfl
  rw [← e]
  exact FV_ofInt (-1000000000) (by decide)

theorem FI.may {x : Nat} {a : Int} (h : FI x a) (ha : a.natAbs ≤ 1000000) : mayB x = true := by
  unfold mayB
  rw [h.cmp FI.least, h.cmp FI.most, Int.compare_eq_gt.2 (by omega), Int.compare_eq_lt.2 (by omega)]
  rfl

theorem beatN_mono (n k : Nat) : beatN n k ≤ beatN n (k + 1) := by
  unfold beatN
  have := Nat.div_le_div_right (c := 2 * n) (show k ≤ k + 1 by omega)
  omega

section
variable {n : Nat} {s g : Int} {m : Nat} (h : InT n s g m)
include h

theorem InT.check : chkB n (inTime n s g m) = 0 := by
  have hn1 := h.n1
  have hn2 := h.n12
  have hm2 := h.m2
  have hm3 := h.m3
  have hlen := inTime_length n s g m
  refine chkB_fine (by rw [hlen]; omega) (by rw [hlen]; omega) (fun k hk => ?_)
  rw [hlen] at hk
  have hmay : mayB (timeAt (inTime n s g m) k) = true := (h.time hk).may (by have := h.timeB hk; omega)
  unfold timeAt at hmay
  unfold badB
  rw [hmay]
  have hbell : ((inTime n s g m).getD k (0, 0)).1 = ((k % n : Nat) : Int) := by rw [inTime_at hk]
  rw [hbell]
  have hmod := Nat.mod_lt k (show 0 < n by omega)
  have h1 : decide (((k % n : Nat) : Int) < 0) = false := by simp; omega
  have h2 : decide ((n : Int) ≤ ((k % n : Nat) : Int)) = false := by simp; omega
  rw [h1, h2]
  rcases Nat.eq_zero_or_pos k with h0 | h0
  · simp [h0]
  · have hb := beatN_mono n (k - 1)
    rw [show k - 1 + 1 = k from by omega] at hb
    have hle : s + g * (beatN n (k - 1) : Int) ≤ s + g * (beatN n k : Int) := by
      have := Int.mul_le_mul_of_nonneg_left (show (beatN n (k - 1) : Int) ≤ (beatN n k : Int) by omega) h.g0
      omega
    have hc := (h.time hk).cmp (h.time (k := k - 1) (by omega))
    unfold timeAt at hc
    rw [hc]
    have : compare (s + g * (beatN n k : Int)) (s + g * (beatN n (k - 1) : Int)) ≠ .lt := by
      intro hx
      have := Int.compare_eq_lt.1 hx
      omega
    simp [this]

/-- Nothing is off. -/
theorem InT.off {k : Nat} (hk : k < m) : FOk .mul (gapOf n (inTime n s g m)) (fi (beatN n k)) ∧ FOk .add (startOf n (inTime n s g m)) (fop .mul (gapOf n (inTime n s g m)) (fi (beatN n k))) ∧
    FOk .sub (timeAt (inTime n s g m) k) (fop .add (startOf n (inTime n s g m)) (fop .mul (gapOf n (inTime n s g m)) (fi (beatN n k)))) ∧ FI (dAt n (inTime n s g m) k) 0 := by
  obtain ⟨_, hG, hS⟩ := h.line
  have hb := h.beat hk
  have ht := h.timeB hk
  obtain ⟨k1, v1⟩ := hG.mul (FI.fi (beatN n k : Int) (by omega)) (by have := mul_le_of h.g (show (beatN n k : Int).natAbs ≤ 604 by omega); omega)
  obtain ⟨k2, v2⟩ := hS.add v1 (by omega)
  obtain ⟨k3, v3⟩ := (h.time hk).sub v2 (by rw [Int.sub_self]; decide)
  rw [Int.sub_self] at v3
  exact ⟨k1, k2, k3, v3⟩

theorem InT.tO {k : Nat} (hk : k ≤ m) : TI (tO n (inTime n s g m) k) 0 := by
  induction k with
  | zero => exact TI.zero
  | succ k ih =>
    have h1 := ih (by omega)
    have h2 := (h.off (k := k) (by omega)).2.2.2.abs
    exact (h1.add h2 (by decide) (by decide)).2

theorem InT.sqr {k : Nat} (hk : k < m) : FOk .mul (dAt n (inTime n s g m) k) (dAt n (inTime n s g m) k) ∧ FI (fop .mul (dAt n (inTime n s g m) k) (dAt n (inTime n s g m) k)) 0 := by
  have h2 := (h.off hk).2.2.2
  exact h2.mul h2 (by decide)

theorem InT.tQ {k : Nat} (hk : k ≤ m) : TI (tQ n (inTime n s g m) k) 0 := by
  induction k with
  | zero => exact TI.zero
  | succ k ih => exact ((ih (by omega)).add (h.sqr (k := k) (by omega)).2 (by decide) (by decide)).2

theorem InT.own {k : Nat} (hk : k ≤ m) (j : Nat) : TI ((ownS n (inTime n s g m) k).getD j (0, 0)) 0 := by
  induction k generalizing j with
  | zero =>
    simp only [ownS, List.getD, List.getElem?_replicate]
    split <;> exact TI.zero
  | succ k ih =>
    have h1 := ih (by omega)
    simp only [ownS]
    rw [getD_put]
    split
    · exact ((h1 _).add (h.off (k := k) (by omega)).2.2.2 (by decide) (by decide)).2
    · exact h1 j

theorem InT.judge : JOk n (inTime n s g m) := by
  have hlen := inTime_length n s g m
  have hm := h.m3
  have hm2 := h.m2
  have qo := (h.tO (Nat.le_refl m)).sm (by decide)
  have qq := (h.tQ (Nat.le_refl m)).sm (by decide)
  have hN : FI (fi (m : Int)) (m : Int) := FI.fi _ (by omega)
  refine ⟨h.line.1, ?_, ?_, ?_, ?_, ?_, ?_, ?_, ?_, ?_, ?_, ?_, ?_, ?_, ?_⟩
  · intro k hk; rw [hlen] at hk; exact (h.off hk).1
  · intro k hk; rw [hlen] at hk; exact (h.off hk).2.1
  · intro k hk; rw [hlen] at hk; exact (h.off hk).2.2.1
  · intro k hk; rw [hlen] at hk; exact FV.lt (h.off hk).2.2.2
  · intro k hk; rw [hlen] at hk; exact ((h.tO (Nat.le_of_lt hk)).add (h.off hk).2.2.2.abs (by decide) (by decide)).1
  · intro k hk; rw [hlen] at hk; exact (h.sqr hk).1
  · intro k hk; rw [hlen] at hk; exact ((h.tQ (Nat.le_of_lt hk)).add (h.sqr hk).2 (by decide) (by decide)).1
  · intro k hk; rw [hlen] at hk; exact ((h.own (Nat.le_of_lt hk) _).add (h.off hk).2.2.2 (by decide) (by decide)).1
  · rw [hlen]; exact qo.1
  · rw [hlen]; exact (FI.quo (c := 0) (d := (m : Int)) (by rw [Int.zero_mul]; exact qo.2) hN (by omega) (by decide)).1
  · rw [hlen]; exact qq.1
  · rw [hlen]; exact (FI.quo (c := 0) (d := (m : Int)) (by rw [Int.zero_mul]; exact qq.2) hN (by omega) (by decide)).1
  · intro i _; rw [hlen]; exact ((h.own (Nat.le_refl m) i).sm (by decide)).1
  · intro i _ hi
    rw [hlen] at hi ⊢
    have hle := manS_le n (inTime n s g m) m i
    exact (FI.quo (c := 0) (by rw [Int.zero_mul]; exact ((h.own (Nat.le_refl m) i).sm (by decide)).2) (FI.fi _ (by omega)) (by omega) (by decide)).1

theorem InT.mean : FI (meanOf n (inTime n s g m)) 0 := by
  have hlen := inTime_length n s g m
  have hm := h.m3
  have hm2 := h.m2
  unfold meanOf
  rw [hlen]
  exact (FI.quo (c := 0) (d := (m : Int)) (by rw [Int.zero_mul]; exact ((h.tO (Nat.le_refl m)).sm (by decide)).2) (FI.fi _ (by omega)) (by omega) (by decide)).2.uns

theorem InT.var : FI (varOf n (inTime n s g m)) 0 := by
  have hlen := inTime_length n s g m
  have hm := h.m3
  have hm2 := h.m2
  unfold varOf
  rw [hlen]
  exact (FI.quo (c := 0) (d := (m : Int)) (by rw [Int.zero_mul]; exact ((h.tQ (Nat.le_refl m)).sm (by decide)).2) (FI.fi _ (by omega)) (by omega) (by decide)).2.uns

theorem InT.spread {r : Nat} (hr : SqrtOf (varOf n (inTime n s g m)) r) : FI r 0 := by
  have hv := h.var
  unfold FI at hv ⊢
  rw [Int.zero_mul] at hv ⊢
  obtain ⟨q, h1, h2⟩ := sqrt_zero hv
  rcases hr.1 with h3 | ⟨h3, _⟩
  · rw [h1] at h3
    injection h3 with h3
    rw [← h3]; exact h2
  · rw [h1] at h3; cases h3

theorem InT.bell (i : Nat) : FI (bellMean n (inTime n s g m) i) 0 := by
  have hlen := inTime_length n s g m
  have hm := h.m3
  unfold bellMean
  rw [hlen]
  split
  · rename_i hi
    have hle := manS_le n (inTime n s g m) m i
    exact (FI.quo (c := 0) (by rw [Int.zero_mul]; exact ((h.own (Nat.le_refl m) i).sm (by decide)).2) (FI.fi _ (by omega)) (by omega) (by decide)).2.uns
  · exact FI.zero

end
end Go.Proofs.Ythdlomgjmbldfaa

/- Contract: Pick. -/
namespace Go.Proofs.Ythdlomgjmbldfaa
open Go.RowKit

set_option maxHeartbeats 400000 in
theorem pick_any (c n : Int) (w : World) (h1 : -9223372036854775808 ≤ c) (h2 : c ≤ 9223372036854775807) (h3 : 0 < n) (h4 : n ≤ 9223372036854775807) :
    Calls Try.prog 10 #[.int .i64 c, .int .i64 n] w fun e w' => ∃ k : Int, 0 ≤ k ∧ k < n ∧ e = .returned (.int .i64 k) ∧ w = w' := by
  by_cases h : c < 0
  · go_enter Try.func10, Try.ntmps10
    go_wp2
    go_ret
    refine ⟨_, ?_, ?_, rfl, rfl⟩
    · rw [← Int.neg_tmod]; exact Int.tmod_nonneg _ (by omega)
    · rw [← Int.neg_tmod]; exact Int.tmod_lt_of_pos _ h3
  · go_enter Try.func10, Try.ntmps10
    go_wp2
    go_ret
    refine ⟨_, ?_, ?_, rfl, rfl⟩
    · exact Int.emod_nonneg _ (by omega)
    · exact Int.emod_lt_of_pos _ h3

/-- Which of n things a raw number speaks of. -/
def pk (c n : Int) : Int := (if c < 0 then -(c + 1) else c) % n

theorem pk_range (c : Int) {n : Int} (h : 0 < n) : 0 ≤ pk c n ∧ pk c n < n := ⟨Int.emod_nonneg _ (by omega), Int.emod_lt_of_pos _ h⟩

set_option maxHeartbeats 400000 in
theorem pick_det (c n : Int) (w : World) (h1 : -9223372036854775808 ≤ c) (h2 : c ≤ 9223372036854775807) (h3 : 0 < n) (h4 : n ≤ 9223372036854775807) :
    Calls Try.prog 10 #[.int .i64 c, .int .i64 n] w fun e w' => e = .returned (.int .i64 (pk c n)) ∧ w = w' := by
  by_cases h : c < 0
  · have HP : Hid (pk c n = (-(c + 1)) % n) := by show _ = _; unfold pk; rw [if_pos h]
    go_enter Try.func10, Try.ntmps10
    go_wp2
    go_ret
    refine ⟨ret_int ?_, rfl⟩
    rw [HP.out, ← Int.neg_tmod, Int.tmod_eq_emod_of_nonneg (by omega)]
  · have HP : Hid (pk c n = c % n) := by show _ = _; unfold pk; rw [if_neg h]
    go_enter Try.func10, Try.ntmps10
    go_wp2
    go_ret
    exact ⟨ret_int HP.out.symm, rfl⟩

end Go.Proofs.Ythdlomgjmbldfaa

/- append, and where the new slice lies. -/
namespace Go.Proofs.Ythdlomgjmbldfaa
open Go.RowKit

theorem run_append_keep {P : Program} (w : World) (base : Nat) (t ty e : TypeId) (i : TypeInfo) (z : Value) (size bytes : Nat) (ht : P.underlying t = some (.slice e)) (hi : P.info? e = some i) (hz : i.zero = some z)
    (hsize : i.size = size) (hby : i.bytes = bytes) (hzs : z.cells.size = size) (hsz : 0 < size)
    (v : Value) (n : Nat) (xs : List Value) (hown : w.ownsRow base e size v n xs)
    (a : Addr) (m c : Nat) (news : List Value) (hl : news.length = m * size) (hnews : ∀ j u, news[j]? = some u → w.cell? (a.add j) = some u) (h1 : ∀ u ∈ news, u.oneCell' = true)
    (h63 : n + m ≤ maxLen) (hbytes : (n + m) * bytes ≤ 140737488355328) (hbase : base ≤ w.heap.size) :
    ∃ v' w', (Builtin.append_ #[t, t] ty #[v, .slice (some a) m c]).run P w = .ok v' w' ∧ w'.ownsRow base e size v' (n + m) (xs ++ news) ∧ w.grownBy w' v.ownBlock ∧
      (v'.ownBlock = v.ownBlock ∨ (v'.ownBlock = some w.heap.size ∧ w.grownBy w' none)) := by
  obtain ⟨v', w', hr, h2, h3, _, h5⟩ := run_append_own_at (P := P) w base t ty e i z size bytes ht hi hz hsize hby hzs hsz v n xs hown a m c news hl hnews h1 h63 hbytes hbase
  refine ⟨v', w', hr, h2, h3, ?_⟩
  subst hsize
  subst hby
  rcases hown.2 with ⟨rfl, rfl⟩ | ⟨g, cap, cur, rfl, hbg, hg, hnc, hcm, hcs, htake⟩
  · exact h5.imp id (fun h => ⟨h, h3⟩)
  · by_cases hroom : n + m ≤ cap
    · have hfit : n * i.size + news.length ≤ cur.size := by rw [hl, hcs, ← Nat.add_mul]; exact Nat.mul_le_mul_right _ hroom
      have hr' := run_append_room (P := P) w t ty e i ht hi g n cap cur hg a m c news hl hnews h1 hroom hfit
      rw [hr] at hr'
      obtain ⟨e1, _⟩ := Result.ok.inj hr'
      left; rw [e1]; rfl
    · have holds : ∀ j u, xs[j]? = some u → w.cell? ((⟨g, 0, none⟩ : Addr).add j) = some u := hown.cells (g := g) rfl
      have hsmall : n + m ≤ 9223372036854775807 := by simp only [maxLen] at h63; omega
      have hr' := run_append_grow (P := P) w t ty e i z ht hi hz ⟨g, 0, none⟩ n cap xs hown.1 holds a m c news hl hnews (by omega) (by omega) (growslice_fits (by omega) hbytes)
      rw [hr] at hr'
      obtain ⟨e1, e2⟩ := Result.ok.inj hr'
      right
      rw [e1, e2]
      exact ⟨rfl, ⟨rfl, rfl, rfl, by simp, fun k hk _ => Below.heap_alloc w.drew _ k hk⟩⟩

theorem wpList_append_keep {P : Program} (w : World) {ops : Array Oper} {rest : List Oper} {o : Oper} {a : Act} {Q : Exit → Act → World → Prop} (hgd : o.guard = none) (s x : Operand) (t : TypeId)
    (ho : o.op = .call { callee := .builtin .append, args := #[s, x], argTypes := #[t, t] })
    (base : Nat) (e : TypeId) (i : TypeInfo) (z : Value) (size bytes : Nat) (ht : P.underlying t = some (.slice e)) (hi : P.info? e = some i) (hz : i.zero = some z)
    (hsize : i.size = size) (hby : i.bytes = bytes) (hzs : z.cells.size = size) (hsz : 0 < size)
    (v : Value) (n : Nat) (xs : List Value) (hs : a.eval s = v) (hown : w.ownsRow base e size v n xs)
    (ad : Addr) (m c : Nat) (news : List Value) (hx : a.eval x = .slice (some ad) m c) (hl : news.length = m * size) (hnews : ∀ j u, news[j]? = some u → w.cell? (ad.add j) = some u) (h1 : ∀ u ∈ news, u.oneCell' = true)
    (h63 : n + m ≤ maxLen) (hbytes : (n + m) * bytes ≤ 140737488355328) (hbase : base ≤ w.heap.size)
    (h : ∀ v' w', w'.ownsRow base e size v' (n + m) (xs ++ news) → w.grownBy w' v.ownBlock → (v'.ownBlock = v.ownBlock ∨ (v'.ownBlock = some w.heap.size ∧ w.grownBy w' none)) → wpList P ops Q rest (a.put o.dst v') w') :
    wpList P ops Q (o :: rest) a w := by
  refine wpList_plain hgd fun K hK => ?_
  obtain ⟨v', w', hr, h2, h3, h4⟩ := run_append_keep (P := P) w base t o.type e i z size bytes ht hi hz hsize hby hzs hsz v n xs hown ad m c news hl hnews h1 h63 hbytes hbase
  unfold Oper.wp execOp
  simp only [ho, resolve, invoke, builtin, Sem.run_bind, Sem.run_pure, Result.andThen_ok, List.map_toArray, List.map_cons, List.map_nil, hs, hx, hr]
  exact hK _ _ (h v' w' h2 h3 h4)

/-- .. as one step of a region that draws. -/
theorem step_append_keep {P : Program} {ops : Array Oper} {o : Oper} {a : Act} {w : World} {K : Act → World → Prop} {Q : Exit → Act → World → Prop} {E : Prop} (hg : o.guard = none) (s x : Operand) (t : TypeId)
    (ho : o.op = .call { callee := .builtin .append, args := #[s, x], argTypes := #[t, t] })
    (base : Nat) (e : TypeId) (i : TypeInfo) (z : Value) (size bytes : Nat) (ht : P.underlying t = some (.slice e)) (hi : P.info? e = some i) (hz : i.zero = some z)
    (hsize : i.size = size) (hby : i.bytes = bytes) (hzs : z.cells.size = size) (hsz : 0 < size)
    (v : Value) (n : Nat) (xs : List Value) (hs : a.eval s = v) (hown : w.ownsRow base e size v n xs)
    (ad : Addr) (m c : Nat) (news : List Value) (hx : a.eval x = .slice (some ad) m c) (hl : news.length = m * size) (hnews : ∀ j u, news[j]? = some u → w.cell? (ad.add j) = some u) (h1 : ∀ u ∈ news, u.oneCell' = true)
    (h63 : n + m ≤ maxLen) (hbytes : (n + m) * bytes ≤ 140737488355328) (hbase : base ≤ w.heap.size)
    (h : ∀ v' w', w'.ownsRow base e size v' (n + m) (xs ++ news) → w.grownBy w' v.ownBlock → (v'.ownBlock = v.ownBlock ∨ (v'.ownBlock = some w.heap.size ∧ w.grownBy w' none)) → K (a.put o.dst v') w') :
    if Region.wanted o (yielded ops a.tmps) = true then Oper.wp P o a w K Q else E := by
  have hw : Region.wanted o (yielded ops a.tmps) = true := by simp [Region.wanted, hg]
  rw [if_pos hw]
  obtain ⟨v', w', hr, h2, h3, h4⟩ := run_append_keep (P := P) w base t o.type e i z size bytes ht hi hz hsize hby hzs hsz v n xs hown ad m c news hl hnews h1 h63 hbytes hbase
  unfold Oper.wp execOp
  simp only [ho, resolve, invoke, builtin, Sem.run_bind, Sem.run_pure, Result.andThen_ok, List.map_toArray, List.map_cons, List.map_nil, hs, hx, hr]
  exact h v' w' h2 h3 h4

end Go.Proofs.Ythdlomgjmbldfaa
