/- Joined: FlH, FlL, FlI. -/
import Derived.Test.YthdlomgjmbldfaaJ1
import Derived.Deep.QuietTactic
/- The square root; Judge. -/
namespace Go.Proofs.Ythdlomgjmbldfaa
open Go.RowKit
set_option maxRecDepth 20000
set_option linter.unusedVariables false

/-- r is the root of x; where there is none, it is no number. -/
def SqrtOf (x r : Nat) : Prop := (DF.sqrt x = some r ∨ DF.sqrt x = none ∧ ∃ s f, DF.read r = .nan s f) ∧ r < 18446744073709551616

theorem nan_word (t : Nat) : (∃ s f, DF.read (t % 2 * 2 ^ 63 + 0x7ff0000000000000 + 1 + t / 2 % (2 ^ 52 - 1)) = .nan s f) ∧ t % 2 * 2 ^ 63 + 0x7ff0000000000000 + 1 + t / 2 % (2 ^ 52 - 1) < 18446744073709551616 := by
  have h1 : DF.signWeight = 9223372036854775808 := by decide
  have h2 : DF.binade = 4503599627370496 := by decide
  have h3 : DF.infRung = 9218868437227405312 := by decide
  generalize hx : t % 2 * 2 ^ 63 + 0x7ff0000000000000 + 1 + t / 2 % (2 ^ 52 - 1) = x
  have hq : t / 2 % (2 ^ 52 - 1) < 4503599627370495 := Nat.mod_lt _ (by decide)
  generalize t / 2 % (2 ^ 52 - 1) = q at *
  have h9 : t % 2 < 2 := Nat.mod_lt _ (by decide)
  generalize t % 2 = b at *
  have hr : 9218868437227405312 < x % 9223372036854775808 := by
    have : b = 0 ∨ b = 1 := by omega
    rcases this with h | h <;> subst h <;> omega
  refine ⟨?_, by omega⟩
  unfold Ieee.Format.read
  simp only [h1, h2, h3]
  rw [if_neg (by omega), if_neg (by omega), if_neg (by omega)]
  exact ⟨_, _, rfl⟩

theorem run_sqrt (x : Nat) (w : World) : ∃ r w', (callFunc 25 #[.float .f64 x]).run Try.prog w = .ok (.value (.float .f64 r)) w' ∧ SqrtOf x r ∧ Drw w w' := by
  rw [run_callFunc_extern Try.func25 (by kernel_rfl) (by kernel_rfl) (by kernel_rfl) (e := Extern.MathSqrt.sqrt) (by kernel_rfl)]
  cases h : FloatKind.f64.format.sqrt x with
  | some r =>
    refine ⟨r, w, ?_, ⟨Or.inl h, Ieee.Format.sqrt_lt DF h⟩, Drw.refl w⟩
    rw [show Extern.MathSqrt.sqrt #[Value.float .f64 x] = (match FloatKind.f64.format.sqrt x with | some r => pure (.float .f64 r) | none => do pure (.float .f64 (← choose (.nanBits .f64 x x)))) from rfl, h]
    rfl
  | none =>
    have hn := nan_word (w.tape w.drawn (.nanBits .f64 x x))
    refine ⟨_, w.drew, ?_, ⟨Or.inr ⟨h, hn.1⟩, hn.2⟩, ⟨rfl, rfl, rfl, rfl⟩⟩
    rw [show Extern.MathSqrt.sqrt #[Value.float .f64 x] = (match FloatKind.f64.format.sqrt x with | some r => pure (.float .f64 r) | none => do pure (.float .f64 (← choose (.nanBits .f64 x x)))) from rfl, h]
    simp [Question.forced, Question.cut]

theorem sqrt_ok (x : Nat) (w : World) : Calls Try.prog 16 #[.float .f64 x] w fun e w' => ∃ r, e = .returned (.float .f64 r) ∧ SqrtOf x r ∧ Drw w w' := by
  obtain ⟨r, w1, hr, hs, hd⟩ := run_sqrt x w
  have HS := hide hs
  go_enter Try.func16, Try.ntmps16
  go_wp2
  go_ret
  exact ⟨r, rfl, HS.out, hd⟩

/-- What Judge keeps: two totals, one for each bell, how many of each; the answer's place. -/
structure JMem (w : World) (A go gm R n : Nat) (L : List (Int × Nat)) (k : Nat) : Prop where
  off : TotB w A (tO n L k)
  sq : TotB w (A + 1) (tQ n L k)
  own : TotsB w go (ownS n L k)
  man : ManB w gm (manS n L k)
  res : w.heap[R]? = some (.cells #[.float .f64 0, .float .f64 0, .float .f64 0, .float .f64 0, .slice none 0 0] 26)
  ra : R < A
  ag : A + 1 < go ∧ A + 1 < gm ∧ go ≠ gm
  sz : go < w.heap.size ∧ gm < w.heap.size

theorem JMem.lt {w : World} {A go gm R n : Nat} {L : List (Int × Nat)} {k : Nat} (h : JMem w A go gm R n L k) : R + 1 ≤ w.heap.size := by
  have := h.ra; have := h.ag; have := h.sz; omega

theorem JMem.keep {w w' : World} {A go gm R n : Nat} {L : List (Int × Nat)} {k : Nat} (h : JMem w A go gm R n L k) (hs : w.heap.size ≤ w'.heap.size) (hb : ∀ x, x < w.heap.size → w'.heap[x]? = w.heap[x]?) : JMem w' A go gm R n L k := by
  have h1 := h.ra; have h2 := h.ag; have h3 := h.sz
  exact ⟨(hb _ (by omega)).trans h.off, (hb _ (by omega)).trans h.sq, (hb _ (by omega)).trans h.own, (hb _ (by omega)).trans h.man, (hb _ (by omega)).trans h.res, h1, h2, by omega⟩

/-- The means of the first j bells; noughts. -/
def belF (n : Nat) (L : List (Int × Nat)) (j : Nat) : List Nat := (List.range n).map (fun i => if i < j then bellMean n L i else 0)

theorem belF_zero (n : Nat) (L : List (Int × Nat)) : belF n L 0 = List.replicate n 0 := by
  unfold belF
  apply List.ext_getElem
  · simp
  · intro i h1 h2; simp

theorem belF_length (n : Nat) (L : List (Int × Nat)) (j : Nat) : (belF n L j).length = n := by simp [belF]

theorem belF_set (n : Nat) (L : List (Int × Nat)) (j : Nat) : (belF n L j).set j (bellMean n L j) = belF n L (j + 1) := by
  unfold belF
  apply List.ext_getElem
  · simp
  · intro i h1 h2
    simp only [List.getElem_set, List.getElem_map, List.getElem_range]
    by_cases h : j = i
    · subst h; simp
    · rw [if_neg h]
      by_cases h3 : i < j
      · rw [if_pos h3, if_pos (by omega)]
      · rw [if_neg h3, if_neg (by omega)]

theorem belF_skip (n : Nat) (L : List (Int × Nat)) (j : Nat) (h : bellMean n L j = 0) : belF n L (j + 1) = belF n L j := by
  unfold belF
  apply List.ext_getElem
  · simp
  · intro i h1 h2
    simp only [List.getElem_map, List.getElem_range]
    by_cases h3 : i < j
    · rw [if_pos h3, if_pos (by omega)]
    · rw [if_neg h3]
      by_cases h4 : i = j
      · subst h4; rw [if_pos (by omega), h]
      · rw [if_neg (by omega)]

theorem belF_all (n : Nat) (L : List (Int × Nat)) : belF n L n = (List.range n).map (bellMean n L) := by
  unfold belF
  apply List.map_congr_left
  intro i hi
  rw [if_pos (by simpa using hi)]

theorem cells5s {w1 : World} {B : Nat} {a b c d e : Value} {t : TypeId} (h : w1.heap[B]? = some (.cells #[a, b, c, d, e] t)) :
    w1.cell? ⟨B, 0, none⟩ = some a ∧ w1.cell? ⟨B, 1, none⟩ = some b ∧ w1.cell? ⟨B, 2, none⟩ = some c ∧ w1.cell? ⟨B, 3, none⟩ = some d ∧ w1.cell? ⟨B, 4, none⟩ = some e ∧ w1.frozen? ⟨B, 0, none⟩ = false ∧ w1.frozen? ⟨B, 1, none⟩ = false ∧ w1.frozen? ⟨B, 2, none⟩ = false ∧ w1.frozen? ⟨B, 3, none⟩ = false ∧ w1.frozen? ⟨B, 4, none⟩ = false := by
  simp [World.cell?, World.frozen?, h]

theorem ret_striking {fn : Func} {R : Ending → World → Prop} {a : Act} {w : World} {p u : Tmp} {b : Nat} {cs : Array Value} {t : Value} (h : fn.results = #[.cell p 26, .tmp u]) (hp : a.tmps.getD p undef = .pointer (some ⟨b, 0, none⟩)) (hu : a.tmps.getD u undef = t) (hg : w.heap[b]? = some (.cells cs 26)) (hz : cs.size = 5) (hd : a.defers = []) (hR : R (.returned (.tuple #[.agg cs, t])) w) : bodyPost Try.prog fn R .ret a w := by
  refine bodyPost_ret (v := .tuple #[.agg cs, t]) ?_ hd hR
  have hp' : a.tmps[p]?.getD undef = .pointer (some ⟨b, 0, none⟩) := by simpa using hp
  have hu' : a.tmps[u]?.getD undef = t := by simpa using hu
  rw [results_cell_tmp h]
  simp [hp', hu', asAddr, Result.andThen, run_loadVar_row w b 26 26 cs _ _ hg Try.underlying26 rfl (by rw [hz]; kernel_rfl)]

theorem four_blocks (w : World) (o1 o2 o3 o4 : Obj) : ((((w.alloc o1).alloc o2).alloc o3).alloc o4).drew.heap[w.heap.size]? = some o1 ∧ ((((w.alloc o1).alloc o2).alloc o3).alloc o4).drew.heap[w.heap.size + 1]? = some o2 ∧
    ((((w.alloc o1).alloc o2).alloc o3).alloc o4).drew.heap[w.heap.size + 1 + 1]? = some o3 ∧ ((((w.alloc o1).alloc o2).alloc o3).alloc o4).drew.heap[w.heap.size + 1 + 1 + 1]? = some o4 ∧ (∀ k, k < w.heap.size → ((((w.alloc o1).alloc o2).alloc o3).alloc o4).drew.heap[k]? = w.heap[k]?) ∧ ((((w.alloc o1).alloc o2).alloc o3).alloc o4).drew.heap.size = w.heap.size + 1 + 1 + 1 + 1 := by
  show ((((w.alloc o1).alloc o2).alloc o3).alloc o4).heap[w.heap.size]? = some o1 ∧ ((((w.alloc o1).alloc o2).alloc o3).alloc o4).heap[w.heap.size + 1]? = some o2 ∧
    ((((w.alloc o1).alloc o2).alloc o3).alloc o4).heap[w.heap.size + 1 + 1]? = some o3 ∧ ((((w.alloc o1).alloc o2).alloc o3).alloc o4).heap[w.heap.size + 1 + 1 + 1]? = some o4 ∧ (∀ k, k < w.heap.size → ((((w.alloc o1).alloc o2).alloc o3).alloc o4).heap[k]? = w.heap[k]?) ∧ ((((w.alloc o1).alloc o2).alloc o3).alloc o4).heap.size = w.heap.size + 1 + 1 + 1 + 1
  refine ⟨?_, ?_, ?_, ?_, fun k hk => ?_, by simp⟩
  · rw [Below.heap_alloc _ _ _ (by simp; omega), Below.heap_alloc _ _ _ (by simp; omega), Below.heap_alloc _ _ _ (by simp)]; exact alloc_at _ _
  · rw [Below.heap_alloc _ _ _ (by simp), Below.heap_alloc _ _ _ (by simp)]; exact alloc_at' _ _ (by simp)
  · rw [Below.heap_alloc _ _ _ (by simp)]; exact alloc_at' _ _ (by simp)
  · exact alloc_at' _ _ (by simp)
  · rw [Below.heap_alloc _ _ _ (by simp; omega), Below.heap_alloc _ _ _ (by simp; omega), Below.heap_alloc _ _ _ (by simp; omega), Below.heap_alloc _ _ _ hk]

theorem JMem.start1 {w : World} {R n : Nat} {L : List (Int × Nat)} (h : w.heap[R]? = some (.cells #[.float .f64 0, .float .f64 0, .float .f64 0, .float .f64 0, .slice none 0 0] 26)) (hR : R < w.heap.size) :
    JMem ((((w.alloc (.cells #[.float .f64 0, .float .f64 0] 40)).alloc (.cells #[.float .f64 0, .float .f64 0] 40)).alloc (.cells (flat2 (List.replicate n (0, 0))).toArray 40)).alloc (.cells (Array.replicate n (.int .i64 0)) 3)).drew w.heap.size (w.heap.size + 1 + 1) (w.heap.size + 1 + 1 + 1) R n L 0 := by
  obtain ⟨e1, e2, e3, e4, e5, e6⟩ := four_blocks w (.cells #[.float .f64 0, .float .f64 0] 40) (.cells #[.float .f64 0, .float .f64 0] 40) (.cells (flat2 (List.replicate n (0, 0))).toArray 40) (.cells (Array.replicate n (.int .i64 0)) 3)
  refine ⟨e1, e2, e3, ?_, (e5 R hR).trans h, hR, by omega, by rw [e6]; omega⟩
  unfold ManB
  rw [e4]
  simp [manS]

theorem JMem.start2 {w : World} {R n : Nat} {L : List (Int × Nat)} (h : w.heap[R]? = some (.cells #[.float .f64 0, .float .f64 0, .float .f64 0, .float .f64 0, .slice none 0 0] 26)) (hR : R < w.heap.size) :
    JMem ((((w.alloc (.cells #[.float .f64 0, .float .f64 0] 40)).alloc (.cells #[.float .f64 0, .float .f64 0] 40)).alloc (.cells (Array.replicate n (.int .i64 0)) 3)).alloc (.cells (flat2 (List.replicate n (0, 0))).toArray 40)).drew w.heap.size (w.heap.size + 1 + 1 + 1) (w.heap.size + 1 + 1) R n L 0 := by
  obtain ⟨e1, e2, e3, e4, e5, e6⟩ := four_blocks w (.cells #[.float .f64 0, .float .f64 0] 40) (.cells #[.float .f64 0, .float .f64 0] 40) (.cells (Array.replicate n (.int .i64 0)) 3) (.cells (flat2 (List.replicate n (0, 0))).toArray 40)
  refine ⟨e1, e2, e4, ?_, (e5 R hR).trans h, hR, by omega, by rw [e6]; omega⟩
  unfold ManB
  rw [e3]
  simp [manS]

/-- What Judge answers. -/
def JPost (n : Nat) (L : List (Int × Nat)) (w : World) (e : Ending) (w' : World) : Prop :=
  ∃ sp g, e = .returned (.tuple #[.agg #[.float .f64 (startOf n L), .float .f64 (gapOf n L), .float .f64 (meanOf n L), .float .f64 sp, .slice (some ⟨g, 0, none⟩) n n], .int .i64 0]) ∧ SqrtOf (varOf n L) sp ∧ FlsB w' g ((List.range n).map (bellMean n L)) ∧ w.heap.size ≤ g ∧ Below w.heap.size w w'

set_option maxHeartbeats 8000000 in
theorem judge_ok (n : Nat) (v : Value) (L : List (Int × Nat)) (w : World) (hn1 : 1 ≤ n) (hn2 : n ≤ 12) (hv : Blows w v L) (hc : chkB n L = 0) (hl2 : L.length ≤ 5000) (hok : JOk n L) (hb : ∀ k, k < L.length → 0 ≤ (L.getD k (0, 0)).1 ∧ (L.getD k (0, 0)).1 < n) :
    Calls Try.prog 5 #[.int .i64 n, v] w (JPost n L w) := by
  have hl1 : 1 ≤ L.length := by
    rcases Nat.eq_zero_or_pos L.length with h | h
    · unfold chkB at hc; rw [if_pos (by omega)] at hc; cases hc
    · exact h
  have HC := fun W hW => hide (checkB_ok n v L W ⟨by omega, by omega⟩ (hv.below (w' := W) hW))
  have HN := fun W hW => hide (nearest_ok n v L W hn1 hn2 (hv.below (w' := W) hW) hl1 hl2 hok.near)
  rw [hc] at HC
  rcases hv with ⟨rfl, _⟩ | ⟨b, off, cap, rfl, h0, h1, h2, h3, hcell⟩
  · simp at hl1
  have HCE := hide hcell
  have HOK := hide hok
  have HBB := hide hb
  clear hcell hok hb hc
  obtain ⟨m, hm⟩ : ∃ m, Hid (L.length = m) := ⟨_, rfl⟩
  have hm0 : 1 ≤ m := by rw [← hm.out]; exact hl1
  have hm2 : m ≤ 5000 := by rw [← hm.out]; exact hl2
  have hmc : m ≤ cap := by rw [← hm.out]; exact h1
  rw [hm.out] at HC HN ⊢
  clear hl1 hl2 h0 h1
  have r1 := run_make_tots n hn2
  have r2 := run_make_many n hn2
  go_enter Try.func5, Try.ntmps5
  have hB0 : Below w.heap.size w (w.alloc (.cells #[.float .f64 0, .float .f64 0, .float .f64 0, .float .f64 0, .slice none 0 0] 26)) := (Below.refl _ _).alloc (Nat.le_refl _) _
  go_wp2_with fail
  refine (HC _ hB0).out.mono ?_
  rintro e w1 ⟨rfl, hb1⟩
  have hS1 : w1.heap[w.heap.size]? = some (.cells #[.float .f64 0, .float .f64 0, .float .f64 0, .float .f64 0, .slice none 0 0] 26) := (hb1.block _ (by simp)).trans (alloc_at _ _)
  have hB1 := hB0.trans (hb1.mono hB0.size)
  have hz1 : w.heap.size + 1 ≤ w1.heap.size := by have := hb1.size; simpa using this
  clear hB0 hb1
  go_wp2_with fail
  refine (HN _ hB1).out.mono ?_
  rintro e w2 ⟨rfl, hb2⟩
  have hS2 := (hb2.block w.heap.size (by omega)).trans hS1
  have hB2 := hB1.trans (hb2.mono hB1.size)
  have hz2 : w.heap.size + 1 ≤ w2.heap.size := Nat.le_trans hz1 hb2.size
  clear hB1 hS1 hz1 hb2 HC HN
  obtain ⟨S0, hS0⟩ : ∃ S, Hid (startOf n L = S) := ⟨_, rfl⟩
  obtain ⟨G0, hG0⟩ : ∃ S, Hid (gapOf n L = S) := ⟨_, rfl⟩
  rw [hS0.out, hG0.out]
  go_wp2
  go_region
  all_goals
    first
    | (show Exit.then _ _ _ _ ((((w2.alloc _).alloc _).alloc (Obj.cells (flat2 _).toArray _)).alloc _).drew
       have hJ : JMem ((((w2.alloc (.cells #[.float .f64 0, .float .f64 0] 40)).alloc (.cells #[.float .f64 0, .float .f64 0] 40)).alloc (.cells (flat2 (List.replicate n (0, 0))).toArray 40)).alloc (.cells (Array.replicate n (.int .i64 0)) 3)).drew w2.heap.size (w2.heap.size + 1 + 1) (w2.heap.size + 1 + 1 + 1) w.heap.size n L 0 := JMem.start1 hS2 (by omega)
       have hBJ : Below w.heap.size w ((((w2.alloc (.cells #[.float .f64 0, .float .f64 0] 40)).alloc (.cells #[.float .f64 0, .float .f64 0] 40)).alloc (.cells (flat2 (List.replicate n (0, 0))).toArray 40)).alloc (.cells (Array.replicate n (.int .i64 0)) 3)).drew := ((((hB2.alloc (by omega) _).alloc (by simp; omega) _).alloc (by simp; omega) _).alloc (by simp; omega) _).drew
       generalize ((((w2.alloc (.cells #[.float .f64 0, .float .f64 0] 40)).alloc (.cells #[.float .f64 0, .float .f64 0] 40)).alloc (.cells (flat2 (List.replicate n (0, 0))).toArray 40)).alloc (.cells (Array.replicate n (.int .i64 0)) 3)).drew = W at *
       generalize w2.heap.size + 1 + 1 + 1 = gm at *
       generalize w2.heap.size + 1 + 1 = go at *)
    | (have hJ : JMem ((((w2.alloc (.cells #[.float .f64 0, .float .f64 0] 40)).alloc (.cells #[.float .f64 0, .float .f64 0] 40)).alloc (.cells (Array.replicate n (.int .i64 0)) 3)).alloc (.cells (flat2 (List.replicate n (0, 0))).toArray 40)).drew w2.heap.size (w2.heap.size + 1 + 1 + 1) (w2.heap.size + 1 + 1) w.heap.size n L 0 := JMem.start2 hS2 (by omega)
       have hBJ : Below w.heap.size w ((((w2.alloc (.cells #[.float .f64 0, .float .f64 0] 40)).alloc (.cells #[.float .f64 0, .float .f64 0] 40)).alloc (.cells (Array.replicate n (.int .i64 0)) 3)).alloc (.cells (flat2 (List.replicate n (0, 0))).toArray 40)).drew := ((((hB2.alloc (by omega) _).alloc (by simp; omega) _).alloc (by simp; omega) _).alloc (by simp; omega) _).drew
       generalize ((((w2.alloc (.cells #[.float .f64 0, .float .f64 0] 40)).alloc (.cells #[.float .f64 0, .float .f64 0] 40)).alloc (.cells (Array.replicate n (.int .i64 0)) 3)).alloc (.cells (flat2 (List.replicate n (0, 0))).toArray 40)).drew = W at *
       generalize w2.heap.size + 1 + 1 + 1 = go at *
       generalize w2.heap.size + 1 + 1 = gm at *)
    generalize hA : w2.heap.size = A at *
    clear hS2 hB2 hA r1 r2
    have HJ := hide hJ
    clear hJ
    go_wp2
    go_loopw [37] (fun i wr => ∃ k : Nat, k ≤ m ∧ i = .int .i64 k ∧ Hid (JMem wr A go gm w.heap.size n L k) ∧ Below w.heap.size w wr) (fun i _ => m - (intOf i).toNat)
    case atStart => exact ⟨0, by omega, rfl, HJ, hBJ⟩
    case round =>
      obtain ⟨k, hk, rfl, hJ, hbw⟩ := hrel
      by_cases hlt : k < m
      · have hkL : k < L.length := by rw [hm.out]; exact hlt
        obtain ⟨bell, hbell⟩ : ∃ y : Nat, Hid ((L.getD k (0, 0)).1 = (y : Int) ∧ bellAt L k = y ∧ y < n) := ⟨(L.getD k (0, 0)).1.toNat, by have := HBB.out k hkL; exact ⟨by omega, rfl, by omega⟩⟩
        have hbn : bell < n := hbell.out.2.2
        obtain ⟨time, htime⟩ : ∃ y, Hid ((L.getD k (0, 0)).2 = y) := ⟨_, rfl⟩
        have hcA : wr.cell? ⟨b, off + k * 2, none⟩ = some (.int .i64 bell) := by rw [hbw.cell (p := ⟨b, off + k * 2, none⟩) h3, (HCE.out k hkL).1, hbell.out.1]
        have hcB : wr.cell? ⟨b, off + k * 2 + 1, none⟩ = some (.float .f64 time) := by rw [hbw.cell (p := ⟨b, off + k * 2 + 1, none⟩) h3, (HCE.out k hkL).2, htime.out]
        have HBT := hide (fun W => beat_ok n k W hn1 hn2 (by omega))
        have f1 := HOK.out.m k hkL
        have f2 := HOK.out.a k hkL
        have f3 := HOK.out.s k hkL
        have hd := HOK.out.d k hkL
        have f4 := HOK.out.q k hkL
        have HT1 := hide (HOK.out.o k hkL)
        have HT2 := hide (HOK.out.q2 k hkL)
        have HT3 := hide (HOK.out.w k hkL)
        have HD : Hid (dAt n L k = fop .sub (timeAt L k) (fop .add (startOf n L) (fop .mul (gapOf n L) (fi (beatN n k))))) := rfl
        rw [hS0.out, hG0.out] at f2 f3
        rw [hG0.out] at f1
        rw [hS0.out, hG0.out] at HD
        unfold timeAt at f3 HD
        rw [htime.out] at f3 HD
        rw [hbell.out.2.1] at HT3
        have HJ2 : Hid (JMem wr A go gm w.heap.size n L k) := hJ
        have HNext : Hid (tO n L (k + 1) = tad (tO n L k) (fabs (dAt n L k)) ∧ tQ n L (k + 1) = tad (tQ n L k) (fop .mul (dAt n L k) (dAt n L k)) ∧ ownS n L (k + 1) = (ownS n L k).set bell (tad ((ownS n L k).getD bell (0, 0)) (dAt n L k)) ∧ manS n L (k + 1) = (manS n L k).set bell ((manS n L k).getD bell 0 + 1)) := ⟨rfl, rfl, by rw [← hbell.out.2.1]; rfl, by rw [← hbell.out.2.1]; rfl⟩
        generalize dAt n L k = d at *
        have r1 := fun w => run_float_arith (P := Try.prog) w .mul 23 .f64 _ _ _ f1
        have r2 := fun w => run_float_arith (P := Try.prog) w .add 23 .f64 _ _ _ f2
        have r3 := fun w => run_float_arith (P := Try.prog) w .sub 23 .f64 _ _ _ f3
        have r4 := fun w => run_float_arith (P := Try.prog) w .mul 23 .f64 _ _ _ f4
        rw [← HD.out] at r3
        clear f1 f2 f3 f4 HD
        generalize beatN n k = c at *
        generalize fop .add S0 (fop .mul G0 (fi (c : Int))) = y2 at *
        generalize fop .mul G0 (fi (c : Int)) = y1 at *
        generalize fop .mul d d = y4 at *
        have hbs := hbw.size
        go_wp2
        go_quiet ((go_at_call 12; exact Calls.quiet_of_same ((HBT.out _).mono (fun e w h => ⟨h.1, h.2.symm⟩))))
        have hs1 : ((wr.alloc (.cells #[.int .i64 (bell : Int), .float .f64 time] 35)).drewN nq).heap.size = wr.heap.size + 1 := by show (wr.alloc _).heap.size = _; simp
        have hk1 : ∀ x, x < wr.heap.size → ((wr.alloc (.cells #[.int .i64 (bell : Int), .float .f64 time] 35)).drewN nq).heap[x]? = wr.heap[x]? := fun x hx => Below.heap_alloc wr _ x hx
        have hbl1 : ((wr.alloc (.cells #[.int .i64 (bell : Int), .float .f64 time] 35)).drewN nq).heap[wr.heap.size]? = some (.cells #[.int .i64 (bell : Int), .float .f64 time] 35) := alloc_at wr _
        have hB1 : Below w.heap.size w ((wr.alloc (.cells #[.int .i64 (bell : Int), .float .f64 time] 35)).drewN nq) := by have := hbw.alloc hbs (.cells #[.int .i64 (bell : Int), .float .f64 time] 35); exact ⟨this.os, this.tape, this.output, this.size, this.block⟩
        generalize (wr.alloc (.cells #[.int .i64 (bell : Int), .float .f64 time] 35)).drewN nq = W1 at *
        have hra := hJ.out.ra
        have hag := hJ.out.ag
        have hsz := hJ.out.sz
        have O1 := hide ((hk1 A (by omega)).trans hJ.out.off)
        have Q1 := hide ((hk1 (A + 1) (by omega)).trans hJ.out.sq)
        have T1 := hide ((hk1 go (by omega)).trans hJ.out.own)
        have M1 := hide ((hk1 gm (by omega)).trans hJ.out.man)
        have R1 := hide ((hk1 w.heap.size (by omega)).trans hJ.out.res)
        have hlm := manS_length n L k
        have hlo := ownS_length n L k
        have HLM := hide hlm
        have HLO := hide hlo
        have hml := manS_le n L k bell
        clear hlm hlo hJ HJ2 hcA hcB hk1 r1 r2 r3
        go_wp2_with fail
        refine (abs_ok d hd _).mono ?_
        rintro e w9 ⟨rfl, rfl⟩
        go_wp2_with fail
        refine (TotB.add _ _ HT1.out O1.out).mono ?_
        rintro e w3 ⟨rfl, O3, hW3⟩
        have Q3 := hide ((hW3.oth (A + 1) (by omega)).trans Q1.out)
        have T3 := hide ((hW3.oth go (by omega)).trans T1.out)
        have M3 := hide ((hW3.oth gm (by omega)).trans M1.out)
        have R3 := hide ((hW3.oth w.heap.size (by omega)).trans R1.out)
        have B3 := hide ((hW3.oth wr.heap.size (by omega)).trans hbl1)
        have hB3 := hB1.trans (hW3.below (by omega))
        have hs3 := hW3.size
        have O3 := hide O3
        clear O1 Q1 T1 M1 R1 hW3 hbl1 hB1
        go_wp2_with fail
        refine (TotB.add _ _ HT2.out Q3.out).mono ?_
        rintro e w4 ⟨rfl, Q4, hW4⟩
        have O4 := hide ((hW4.oth A (by omega)).trans O3.out)
        have T4 := hide ((hW4.oth go (by omega)).trans T3.out)
        have M4 := hide ((hW4.oth gm (by omega)).trans M3.out)
        have R4 := hide ((hW4.oth w.heap.size (by omega)).trans R3.out)
        have B4 := (hW4.oth wr.heap.size (by omega)).trans B3.out
        have hB4 := hB3.trans (hW4.below (by omega))
        have hs4 := hW4.size
        have Q4 := hide Q4
        have hc4 : w4.cell? ⟨wr.heap.size, 0, none⟩ = some (.int .i64 (bell : Int)) := by unfold World.cell?; rw [B4]; rfl
        clear O3 Q3 T3 M3 R3 hW4 hB3 B3
        have B4 := hide B4
        go_wp2_with fail
        refine (TotsB.add _ bell _ (by rw [HLO.out]; exact hbn) HT3.out T4.out).mono ?_
        rintro e w5 ⟨rfl, T5, hW5⟩
        have O5 := hide ((hW5.oth A (by omega)).trans O4.out)
        have Q5 := hide ((hW5.oth (A + 1) (by omega)).trans Q4.out)
        have M5 := hide ((hW5.oth gm (by omega)).trans M4.out)
        have R5 := hide ((hW5.oth w.heap.size (by omega)).trans R4.out)
        have B5 := (hW5.oth wr.heap.size (by omega)).trans B4.out
        have hB5 := hB4.trans (hW5.below (by omega))
        have hs5 := hW5.size
        have T5 := hide T5
        have hc5 : w5.cell? ⟨wr.heap.size, 0, none⟩ = some (.int .i64 (bell : Int)) := by unfold World.cell?; rw [B5]; rfl
        obtain ⟨hcm, hfm⟩ := ManB.cell M5.out (j := bell) (by rw [HLM.out]; exact hbn)
        obtain ⟨many, hmany⟩ : ∃ y, Hid ((manS n L k).getD bell 0 = y) := ⟨_, rfl⟩
        rw [hmany.out] at hcm hml
        have hFin : Hid (JMem (w5.setCell ⟨gm, bell, none⟩ (.int .i64 (many + 1))) A go gm w.heap.size n L (k + 1)) := by
          have hoth : ∀ x, x ≠ gm → (w5.setCell ⟨gm, bell, none⟩ (.int .i64 (many + 1))).heap[x]? = w5.heap[x]? := fun x hx => Below.heap_setCell _ _ _ _ hx
          refine ⟨?_, ?_, ?_, ?_, ?_, hra, hag, ?_⟩
          · rw [HNext.out.1]; exact (hoth A (by omega)).trans O5.out
          · rw [HNext.out.2.1]; exact (hoth (A + 1) (by omega)).trans Q5.out
          · rw [HNext.out.2.2.1]; exact (hoth go (by omega)).trans T5.out
          · rw [HNext.out.2.2.2, hmany.out]; exact ManB.set M5.out bell _
          · exact (hoth w.heap.size (by omega)).trans R5.out
          · simp only [World.setCell, Array.size_modify]; omega
        have hB6 := hB5.setCell (p := ⟨gm, bell, none⟩) (by show w.heap.size ≤ gm; omega) (.int .i64 (many + 1))
        clear O4 Q4 T4 M4 R4 hW5 hB4 B4 hc4 O5 Q5 M5 R5 B5 hB5 T5
        go_wp2
        go_roundw
        case rel => exact ⟨k + 1, by omega, by go_num, hFin, hB6⟩
        case measure => simp [intOf]; omega
      · obtain rfl : k = m := by omega
        clear hBJ HJ W HCE HBB
        have r5 := run_make_floats n hn2 wr
        have hlm := hide (manS_length n L k)
        have hlo := hide (ownS_length n L k)
        have hra := hJ.out.ra
        have hag := hJ.out.ag
        have hsz := hJ.out.sz
        have hbs := hbw.size
        have hml := fun j => hide (manS_le n L k j)
        have HF0 : Hid (FlsB (wr.alloc (.cells ((List.replicate n (0 : Nat)).map (Value.float .f64)).toArray 23)) wr.heap.size (belF n L 0)) := by
          have := alloc_at wr (.cells ((List.replicate n (0 : Nat)).map (Value.float .f64)).toArray 23)
          unfold FlsB
          rw [show belF n L 0 = List.replicate n 0 from belF_zero n L]
          exact this
        have HJ0 : Hid (JMem (wr.alloc (.cells ((List.replicate n (0 : Nat)).map (Value.float .f64)).toArray 23)) A go gm w.heap.size n L k) := hJ.out.keep (by simp) (fun x hx => Below.heap_alloc wr _ x hx)
        have hB0 := hbw.alloc hbs (.cells ((List.replicate n (0 : Nat)).map (Value.float .f64)).toArray 23)
        have hs0 : (wr.alloc (.cells ((List.replicate n (0 : Nat)).map (Value.float .f64)).toArray 23)).heap.size = wr.heap.size + 1 := by simp
        clear hJ
        generalize hWR : wr.alloc (.cells ((List.replicate n (0 : Nat)).map (Value.float .f64)).toArray 23) = WR at *
        clear hWR
        generalize hgb : wr.heap.size = gb at *
        clear hgb
        go_wp2
        go_loopw [78] (fun i wz => ∃ j : Nat, j ≤ n ∧ i = .int .i64 j ∧ Hid (FlsB wz gb (belF n L j)) ∧ Hid (JMem wz A go gm w.heap.size n L k) ∧ Below w.heap.size w wz) (fun i _ => n - (intOf i).toNat)
        case atStart => exact ⟨0, by omega, rfl, HF0, HJ0, hB0⟩
        case round =>
          obtain ⟨j, hj, rfl, hF, hJ, hbw2⟩ := hrel
          have hszr := hJ.out.sz
          have hgbl : gb < wr.heap.size := (Array.getElem?_eq_some_iff.1 hF.out).1
          by_cases hjn : j < n
          · obtain ⟨many, hmany⟩ : ∃ y, Hid ((manS n L k).getD j 0 = y) := ⟨_, rfl⟩
            have hcm := (ManB.cell hJ.out.man (j := j) (by rw [hlm.out]; exact hjn)).1
            have hmj := (hml j).out
            rw [hmany.out] at hcm hmj
            by_cases hpos : 0 < many
            · have HMB : Hid (bellMean n L j = uns (fop .quo (sm ((ownS n L k).getD j (0, 0))) (fi many))) := by
                unfold bellMean
                rw [hm.out, hmany.out, if_pos hpos]; exact rfl
              have HME := fun W (hW : W.heap = wr.heap) => hide (TotsB.mean (w := W) (g := go) (ownS n L k) j many (by rw [hlo.out]; exact hjn) (by have := HOK.out.sb j hjn; rw [hm.out] at this; exact this) (by have := HOK.out.mb j hjn; rw [hm.out, hmany.out] at this; exact this hpos) (by unfold TotsB; rw [hW]; exact hJ.out.own))
              generalize uns (fop .quo (sm ((ownS n L k).getD j (0, 0))) (fi many)) = mean at *
              obtain ⟨hcf, hff⟩ := FlsB.cell hF.out (j := j) (by rw [belF_length]; exact hjn)
              have HCF : ∀ W : World, W.heap = wr.heap → Hid (W.cell? ⟨gb, j, none⟩ = some (.float .f64 ((belF n L j).getD j 0)) ∧ W.frozen? ⟨gb, j, none⟩ = false) := fun W hW => ⟨by rw [← hcf]; unfold World.cell?; rw [hW], by rw [← hff]; unfold World.frozen?; rw [hW]⟩
              go_wp2
              go_region_with (go_at_call 15; refine (HME _ (by exact rfl)).out.mono ?_; rintro e w9 ⟨rfl, hd9⟩; obtain ⟨hc9, hf9⟩ := (HCF w9 hd9.heap).out)
              all_goals
                have HE9 : Hid (FlsB (w9.setCell ⟨gb, j, none⟩ (.float .f64 mean)) gb (belF n L (j + 1))) := by
                  rw [← belF_set, HMB.out]
                  exact FlsB.set (show FlsB w9 gb (belF n L j) from by unfold FlsB; rw [hd9.heap]; exact hF.out) j mean
                have HJ9 : Hid (JMem (w9.setCell ⟨gb, j, none⟩ (.float .f64 mean)) A go gm w.heap.size n L k) := by
                  have h9 : ∀ x, x ≠ gb → (w9.setCell ⟨gb, j, none⟩ (.float .f64 mean)).heap[x]? = wr.heap[x]? := fun x hx => (Below.heap_setCell _ _ _ _ hx).trans (by rw [hd9.heap]; rfl)
                  have hJ' := hJ.out
                  refine ⟨(h9 _ (by omega)).trans hJ'.off, (h9 _ (by omega)).trans hJ'.sq, (h9 _ (by omega)).trans hJ'.own, (h9 _ (by omega)).trans hJ'.man, (h9 _ (by omega)).trans hJ'.res, hra, hag, ?_⟩
                  simp only [World.setCell, Array.size_modify, hd9.heap]
                  exact hszr
                have hB9 : Below w.heap.size w (w9.setCell ⟨gb, j, none⟩ (.float .f64 mean)) := (hbw2.trans ((show Drw wr w9 from ⟨hd9.heap, hd9.os, hd9.tape, hd9.output⟩).below _)).setCell (p := ⟨gb, j, none⟩) (by show w.heap.size ≤ gb; omega) _
                clear hc9 hf9 hd9
                go_wp2
                go_roundw
                case rel => exact ⟨j + 1, by omega, by go_num, HE9, HJ9, hB9⟩
                case measure => simp [intOf]; omega
            · have HSK : Hid (belF n L (j + 1) = belF n L j) := belF_skip n L j (by unfold bellMean; rw [hm.out, hmany.out, if_neg hpos])
              go_wp2
              go_roundw
              case rel => exact ⟨j + 1, by omega, by go_num, by rw [HSK.out]; exact hF, hJ, hbw2⟩
              case measure => simp [intOf]; omega
          · obtain rfl : j = n := by omega
            have HMO := fun W (hW : TotB W A (tO j L k)) => hide (TotB.mean (tO j L k) (k : Int) (by have := HOK.out.so; rw [hm.out] at this; exact this) (by have := HOK.out.mo; rw [hm.out] at this; exact this) hW)
            have HMQ := fun W (hW : TotB W (A + 1) (tQ j L k)) => hide (TotB.mean (tQ j L k) (k : Int) (by have := HOK.out.sq; rw [hm.out] at this; exact this) (by have := HOK.out.mq; rw [hm.out] at this; exact this) hW)
            have HM1 : Hid (uns (fop .quo (sm (tO j L k)) (floatOfInt .f64 (k : Int))) = meanOf j L) := by unfold meanOf; rw [hm.out]; exact rfl
            have HM2 : Hid (uns (fop .quo (sm (tQ j L k)) (floatOfInt .f64 (k : Int))) = varOf j L) := by unfold varOf; rw [hm.out]; exact rfl
            rw [HM1.out] at HMO
            rw [HM2.out] at HMQ
            obtain ⟨me, hme⟩ : ∃ y, Hid (meanOf j L = y) := ⟨_, rfl⟩
            obtain ⟨va, hva⟩ : ∃ y, Hid (varOf j L = y) := ⟨_, rfl⟩
            rw [hme.out] at HMO
            rw [hva.out] at HMQ
            have HO := hide hJ.out.off
            have HQ := hide hJ.out.sq
            have HRS := hide hJ.out.res
            clear HM1 HM2
            go_wp2_with fail
            refine (HMO _ HO.out).out.mono ?_
            rintro e w3 ⟨rfl, hd3⟩
            have HQ3 : Hid (TotB w3 (A + 1) (tQ j L k)) := by unfold TotB; rw [hd3.heap]; exact HQ.out
            go_wp2_with fail
            refine (HMQ _ HQ3.out).out.mono ?_
            rintro e w4 ⟨rfl, hd4⟩
            go_wp2_with fail
            refine (sqrt_ok va _).mono ?_
            rintro e w5 ⟨sp, rfl, hsp, hd5⟩
            have HSP := hide hsp
            have hd := (hd3.trans hd4).trans hd5
            have hR5 : w5.heap[w.heap.size]? = some (.cells #[.float .f64 0, .float .f64 0, .float .f64 0, .float .f64 0, .slice none 0 0] 26) := by rw [hd.heap]; exact HRS.out
            obtain ⟨z0, z1, z2, z3, z4, f0, f1, f2, f3, f4⟩ := cells5s hR5
            have hF5 : Hid (FlsB w5 gb (belF j L j)) := by unfold FlsB; rw [hd.heap]; exact hF.out
            have hB5 := hbw2.trans (hd.below _)
            clear hsp hd3 hd4 hd5 HMO HMQ HO HQ HQ3 HRS hd
            have HBF : Hid ((((((w5.setCell ⟨w.heap.size, 0, none⟩ (.float .f64 S0)).setCell ⟨w.heap.size, 1, none⟩ (.float .f64 G0)).setCell ⟨w.heap.size, 2, none⟩ (.float .f64 me)).setCell ⟨w.heap.size, 3, none⟩ (.float .f64 sp)).setCell ⟨w.heap.size, 4, none⟩ (.slice (some ⟨gb, 0, none⟩) j j)).heap[w.heap.size]? = some (.cells #[.float .f64 S0, .float .f64 G0, .float .f64 me, .float .f64 sp, .slice (some ⟨gb, 0, none⟩) j j] 26)) := by
              show _ = _
              simp [World.setCell, Array.getElem?_modify, hR5]
            have HFF : Hid (FlsB (((((w5.setCell ⟨w.heap.size, 0, none⟩ (.float .f64 S0)).setCell ⟨w.heap.size, 1, none⟩ (.float .f64 G0)).setCell ⟨w.heap.size, 2, none⟩ (.float .f64 me)).setCell ⟨w.heap.size, 3, none⟩ (.float .f64 sp)).setCell ⟨w.heap.size, 4, none⟩ (.slice (some ⟨gb, 0, none⟩) j j)) gb (belF j L j)) := by
              have hne : gb ≠ w.heap.size := by omega
              unfold FlsB
              rw [Below.heap_setCell _ _ _ _ hne, Below.heap_setCell _ _ _ _ hne, Below.heap_setCell _ _ _ _ hne, Below.heap_setCell _ _ _ _ hne, Below.heap_setCell _ _ _ _ hne]
              exact hF5.out
            have hBZ : Below w.heap.size w (((((w5.setCell ⟨w.heap.size, 0, none⟩ (.float .f64 S0)).setCell ⟨w.heap.size, 1, none⟩ (.float .f64 G0)).setCell ⟨w.heap.size, 2, none⟩ (.float .f64 me)).setCell ⟨w.heap.size, 3, none⟩ (.float .f64 sp)).setCell ⟨w.heap.size, 4, none⟩ (.slice (some ⟨gb, 0, none⟩) j j)) := ((((hB5.setCell (Nat.le_refl _) _).setCell (Nat.le_refl _) _).setCell (Nat.le_refl _) _).setCell (Nat.le_refl _) _).setCell (Nat.le_refl _) _
            have HBZ := hide hBZ
            have HBL := hide (belF_all j L)
            clear hBZ hR5
            go_wp2
            refine ret_striking (p := 4) (u := 5) rfl rfl rfl HBF.out rfl rfl ⟨sp, gb, ?_, ?_, ?_, hbs, HBZ.out⟩
            · rw [hS0.out, hG0.out, hme.out]; rfl
            · rw [hva.out]; exact HSP.out
            · rw [← HBL.out]; exact HFF.out

end Go.Proofs.Ythdlomgjmbldfaa

/- Bounds: all that Judge works out is finite. -/
namespace Go.Proofs.Ythdlomgjmbldfaa
open Go.RowKit
set_option maxRecDepth 20000
set_option linter.unusedVariables false

/-- x is finite, at most 2 ^ p without its sign. -/
def FB (x p : Nat) : Prop := ∃ v, FV x v ∧ v.natAbs ≤ 2 ^ (XP + p)

theorem FB.lt {x p : Nat} (h : FB x p) : x < 18446744073709551616 := by obtain ⟨v, h, _⟩ := h; exact FV.lt h

theorem FB.mono {x p q : Nat} (h : FB x p) (hp : p ≤ q) : FB x q := by
  obtain ⟨v, h1, h2⟩ := h
  exact ⟨v, h1, Nat.le_trans h2 (Nat.pow_le_pow_right (by decide) (by omega))⟩

theorem Rp_many (k p : Nat) (hk : k ≤ 9007199254740992) (hp : p ≤ 900) : Rp (k * 2 ^ (XP + p)) := ⟨k, XP + p, rfl, hk, by have := XP_eq; omega⟩

theorem two_more (p : Nat) : 2 ^ (XP + p) + 2 ^ (XP + p) = 1 * 2 ^ (XP + (p + 1)) := by
  rw [show XP + (p + 1) = XP + p + 1 from by omega, Nat.pow_succ]; omega

theorem FB.add {x y p : Nat} (hx : FB x p) (hy : FB y p) (hp : p ≤ 800) : FOk .add x y ∧ FB (fop .add x y) (p + 1) := by
  obtain ⟨a, h1, h2⟩ := hx
  obtain ⟨b, h3, h4⟩ := hy
  obtain ⟨r, v, h5, h6, h7⟩ := add_le h1 h3 h2 h4 (by rw [two_more]; exact Rp_many 1 (p + 1) (by decide) (by omega))
  obtain ⟨k1, k2⟩ := FOk.of (op := .add) (x := x) (y := y) h5
  refine ⟨k1, v, by rw [k2]; exact h6, ?_⟩
  rw [two_more, Nat.one_mul] at h7
  exact h7

theorem FB.sub {x y p : Nat} (hx : FB x p) (hy : FB y p) (hp : p ≤ 800) : FOk .sub x y ∧ FB (fop .sub x y) (p + 1) := by
  obtain ⟨a, h1, h2⟩ := hx
  obtain ⟨b, h3, h4⟩ := hy
  obtain ⟨r, v, h5, h6, h7⟩ := sub_le h1 h3 h2 h4 (by rw [two_more]; exact Rp_many 1 (p + 1) (by decide) (by omega))
  obtain ⟨k1, k2⟩ := FOk.of (op := .sub) (x := x) (y := y) h5
  refine ⟨k1, v, by rw [k2]; exact h6, ?_⟩
  rw [two_more, Nat.one_mul] at h7
  exact h7

theorem FB.mul {x y p q : Nat} (hx : FB x p) (hy : FB y q) (hp : p + q ≤ 800) : FOk .mul x y ∧ FB (fop .mul x y) (p + q) := by
  obtain ⟨a, h1, h2⟩ := hx
  obtain ⟨b, h3, h4⟩ := hy
  obtain ⟨r, v, h5, h6, h7⟩ := mul_le (C := 1 * 2 ^ (XP + (p + q))) h1 h3 (by
    refine Nat.le_trans (Nat.mul_le_mul h2 h4) ?_
    rw [Nat.one_mul]
    show _ ≤ 2 ^ (XP + (p + q)) * 2 ^ XP
    rw [← Nat.pow_add, ← Nat.pow_add]
    exact Nat.pow_le_pow_right (by decide) (by omega)) (Rp_many 1 (p + q) (by decide) (by omega))
  obtain ⟨k1, k2⟩ := FOk.of (op := .mul) (x := x) (y := y) h5
  rw [Nat.one_mul] at h7
  exact ⟨k1, v, by rw [k2]; exact h6, h7⟩

theorem FB.quo {x p : Nat} {d : Int} (hx : FB x p) (hd : 1 ≤ d) (hd2 : d.natAbs ≤ 9007199254740992) (hp : p ≤ 700) : FOk .quo x (fi d) ∧ FB (fop .quo x (fi d)) (p + 52) := by
  obtain ⟨a, h1, h2⟩ := hx
  have hy := FV_ofInt d hd2
  have hU := UU_pos
  obtain ⟨r, v, h5, h6, h7⟩ := div_le (C := 1 * 2 ^ (XP + (p + 52))) h1 hy (by
    have := Int.mul_le_mul_of_nonneg_right hd (show (0 : Int) ≤ (UU : Int) by omega)
    rw [Int.one_mul] at this
    exact this) (by
    rw [Nat.one_mul, show XP + (p + 52) = XP + p + 52 from by omega, Nat.pow_add 2 (XP + p) 52, show (2 : Nat) ^ 52 = 4503599627370496 from by decide]
    exact Nat.mul_le_mul_right _ h2) (Rp_many 1 (p + 52) (by decide) (by omega))
  obtain ⟨k1, k2⟩ := FOk.of (op := .quo) (x := x) (y := fi d) h5
  rw [Nat.one_mul] at h7
  exact ⟨k1, v, by rw [k2]; exact h6, h7⟩

theorem FB.fi (n : Int) (p : Nat) (h : n.natAbs ≤ 2 ^ p) (hp : p ≤ 53) : FB (fi n) p := by
  have hle : 2 ^ p ≤ 2 ^ 53 := Nat.pow_le_pow_right (by decide) hp
  refine ⟨n * (UU : Int), FV_ofInt n (by rw [show (9007199254740992 : Nat) = 2 ^ 53 from by decide]; omega), ?_⟩
  rw [Int.natAbs_mul, Int.natAbs_natCast, Nat.pow_add, Nat.mul_comm]
  exact Nat.mul_le_mul_left _ h

theorem FB.zero (p : Nat) : FB 0 p := ⟨0, FV_zero, by simp⟩

theorem FB.uns {x p : Nat} (h : FB x p) : FB (uns x) p := by
  unfold Go.Proofs.Ythdlomgjmbldfaa.uns
  split
  · exact FB.zero p
  · exact h

theorem FB.abs {x p : Nat} (h : FB x p) : FB (fabs x) p := by
  obtain ⟨v, h1, h2⟩ := h
  exact ⟨_, FV_abs h1, by rw [Int.natAbs_natCast]; exact h2⟩

/-- A total of k numbers of at most 2 ^ p. -/
structure TBd (s : Nat × Nat) (k p : Nat) : Prop where
  all : ∃ v, FV s.1 v ∧ v.natAbs ≤ k * 2 ^ (XP + p)
  lost : ∃ v, FV s.2 v ∧ v.natAbs ≤ k * (k + 1) * 2 ^ (XP + p)

theorem TBd.zero (p : Nat) : TBd (0, 0) 0 p := ⟨⟨0, FV_zero, by simp⟩, ⟨0, FV_zero, by simp⟩⟩

theorem TBd.mono {s : Nat × Nat} {k j p : Nat} (h : TBd s k p) (hk : k ≤ j) : TBd s j p := by
  obtain ⟨⟨v, h1, h2⟩, ⟨u, h3, h4⟩⟩ := h
  exact ⟨⟨v, h1, Nat.le_trans h2 (Nat.mul_le_mul_right _ hk)⟩, ⟨u, h3, Nat.le_trans h4 (Nat.mul_le_mul_right _ (Nat.mul_le_mul hk (by omega)))⟩⟩

/-- Bounds that are so many times the same. -/
theorem add_many {x y k j p : Nat} (hx : ∃ v, FV x v ∧ v.natAbs ≤ k * 2 ^ (XP + p)) (hy : ∃ v, FV y v ∧ v.natAbs ≤ j * 2 ^ (XP + p)) (hk : k + j ≤ 9007199254740992) (hp : p ≤ 800) : FOk .add x y ∧ ∃ v, FV (fop .add x y) v ∧ v.natAbs ≤ (k + j) * 2 ^ (XP + p) := by
  obtain ⟨a, h1, h2⟩ := hx
  obtain ⟨b, h3, h4⟩ := hy
  obtain ⟨r, v, h5, h6, h7⟩ := add_le h1 h3 h2 h4 (by rw [← Nat.add_mul]; exact Rp_many _ p hk (by omega))
  obtain ⟨k1, k2⟩ := FOk.of (op := .add) (x := x) (y := y) h5
  exact ⟨k1, v, by rw [k2]; exact h6, by rw [Nat.add_mul]; exact h7⟩

theorem sub_many {x y k j p : Nat} (hx : ∃ v, FV x v ∧ v.natAbs ≤ k * 2 ^ (XP + p)) (hy : ∃ v, FV y v ∧ v.natAbs ≤ j * 2 ^ (XP + p)) (hk : k + j ≤ 9007199254740992) (hp : p ≤ 800) : FOk .sub x y ∧ ∃ v, FV (fop .sub x y) v ∧ v.natAbs ≤ (k + j) * 2 ^ (XP + p) := by
  obtain ⟨a, h1, h2⟩ := hx
  obtain ⟨b, h3, h4⟩ := hy
  obtain ⟨r, v, h5, h6, h7⟩ := sub_le h1 h3 h2 h4 (by rw [← Nat.add_mul]; exact Rp_many _ p hk (by omega))
  obtain ⟨k1, k2⟩ := FOk.of (op := .sub) (x := x) (y := y) h5
  exact ⟨k1, v, by rw [k2]; exact h6, by rw [Nat.add_mul]; exact h7⟩

theorem TBd.add {s : Nat × Nat} {k p x : Nat} (h : TBd s k p) (hx : FB x p) (hk : k ≤ 10000) (hp : p ≤ 800) : TOk s x ∧ TBd (tad s x) (k + 1) p := by
  have hx1 : ∃ v, FV x v ∧ v.natAbs ≤ 1 * 2 ^ (XP + p) := by obtain ⟨v, h1, h2⟩ := hx; exact ⟨v, h1, by rw [Nat.one_mul]; exact h2⟩
  have hkk : k * (k + 1) ≤ 10000 * 10001 := Nat.mul_le_mul hk (by omega)
  have e : (k + 1) * (k + 1 + 1) = k * (k + 1) + (2 * k + 2) := by
    simp only [Nat.mul_add, Nat.add_mul]; omega
  obtain ⟨k1, v1⟩ := add_many h.all hx1 (by omega) hp
  obtain ⟨k2, v2⟩ := sub_many h.all v1 (by omega) hp
  obtain ⟨k3, v3⟩ := add_many v2 hx1 (by omega) hp
  obtain ⟨k4, v4⟩ := add_many h.lost v3 (by omega) hp
  obtain ⟨k5, v5⟩ := sub_many hx1 v1 (by omega) hp
  obtain ⟨k6, v6⟩ := add_many v5 h.all (by omega) hp
  obtain ⟨k7, v7⟩ := add_many h.lost v6 (by omega) hp
  have hla : s.1 < 18446744073709551616 := by obtain ⟨v, h, _⟩ := h.all; exact FV.lt h
  refine ⟨⟨hla, hx.lt, k1, fun _ => ⟨k2, k3, k4⟩, fun _ => ⟨k5, k6, k7⟩⟩, ⟨v1, ?_⟩⟩
  rw [e]
  have e1 : k * (k + 1) + (k + (k + 1) + 1) = k * (k + 1) + (2 * k + 2) := by omega
  have e2 : k * (k + 1) + (1 + (k + 1) + k) = k * (k + 1) + (2 * k + 2) := by omega
  rw [e1] at v4
  rw [e2] at v7
  unfold tad
  dsimp only
  split
  · exact v4
  · exact v7

theorem TBd.sm {s : Nat × Nat} {k p : Nat} (h : TBd s k p) (hk : k ≤ 500) (hp : p ≤ 700) : FOk .add s.1 s.2 ∧ FB (sm s) (p + 18) := by
  have hkk : k * (k + 1) ≤ 500 * 501 := Nat.mul_le_mul hk (by omega)
  obtain ⟨k1, v, h1, h2⟩ := add_many h.all h.lost (by omega) (by omega)
  refine ⟨k1, v, h1, Nat.le_trans h2 ?_⟩
  rw [show XP + (p + 18) = 18 + (XP + p) from by omega, Nat.pow_add 2 18, show (2 : Nat) ^ 18 = 262144 from by decide]
  exact Nat.mul_le_mul_right _ (by omega)

end Go.Proofs.Ythdlomgjmbldfaa

/- Floats that are whole numbers; blows that are in time, plain. -/
namespace Go.Proofs.Ythdlomgjmbldfaa
open Go.RowKit
set_option maxRecDepth 20000
set_option linter.unusedVariables false

/-- x is this whole number. -/
def FI (x : Nat) (a : Int) : Prop := FV x (a * (UU : Int))

theorem natAbs_mul_UU (a : Int) : (a * (UU : Int)).natAbs = a.natAbs * UU := by rw [Int.natAbs_mul, Int.natAbs_natCast]

theorem FI.add {x y : Nat} {a b : Int} (hx : FI x a) (hy : FI y b) (h : (a + b).natAbs ≤ 9007199254740992) : FOk .add x y ∧ FI (fop .add x y) (a + b) := by
  have e : a * (UU : Int) + b * (UU : Int) = (a + b) * (UU : Int) := (Int.add_mul _ _ _).symm
  obtain ⟨r, h1, h2⟩ := add_eq hx hy (by rw [e, natAbs_mul_UU]; exact Rp_int _ h)
  obtain ⟨k1, k2⟩ := FOk.of (op := .add) (x := x) (y := y) h1
  rw [e] at h2
  exact ⟨k1, by rw [k2]; exact h2⟩

theorem FI.sub {x y : Nat} {a b : Int} (hx : FI x a) (hy : FI y b) (h : (a - b).natAbs ≤ 9007199254740992) : FOk .sub x y ∧ FI (fop .sub x y) (a - b) := by
  have e : a * (UU : Int) - b * (UU : Int) = (a - b) * (UU : Int) := (Int.sub_mul _ _ _).symm
  obtain ⟨r, h1, h2⟩ := sub_eq hx hy (by rw [e, natAbs_mul_UU]; exact Rp_int _ h)
  obtain ⟨k1, k2⟩ := FOk.of (op := .sub) (x := x) (y := y) h1
  rw [e] at h2
  exact ⟨k1, by rw [k2]; exact h2⟩

theorem FI.mul {x y : Nat} {a b : Int} (hx : FI x a) (hy : FI y b) (h : (a * b).natAbs ≤ 9007199254740992) : FOk .mul x y ∧ FI (fop .mul x y) (a * b) := by
  have e : a * (UU : Int) * (b * (UU : Int)) = a * b * (UU : Int) * (UU : Int) := by simp only [Int.mul_assoc, Int.mul_left_comm]
  obtain ⟨r, h1, h2⟩ := mul_eq hx hy e (by rw [natAbs_mul_UU]; exact Rp_int _ h)
  obtain ⟨k1, k2⟩ := FOk.of (op := .mul) (x := x) (y := y) h1
  exact ⟨k1, by rw [k2]; exact h2⟩

theorem FI.quo {x y : Nat} {c d : Int} (hx : FI x (c * d)) (hy : FI y d) (hd : d ≠ 0) (h : c.natAbs < 9007199254740992) : FOk .quo x y ∧ FI (fop .quo x y) c := by
  obtain ⟨r, h1, h2⟩ := div_eq hx hy hd h
  obtain ⟨k1, k2⟩ := FOk.of (op := .quo) (x := x) (y := y) h1
  exact ⟨k1, by rw [k2]; exact h2⟩

theorem FI.fi (n : Int) (h : n.natAbs ≤ 9007199254740992) : FI (fi n) n := FV_ofInt n h

theorem FI.zero : FI 0 0 := by unfold FI; rw [Int.zero_mul]; exact FV_zero

theorem FI.uns {x : Nat} {a : Int} (h : FI x a) : FI (uns x) a := by
  unfold Go.Proofs.Ythdlomgjmbldfaa.uns
  split
  · rename_i h0
    have h1 := order_fv h FI.zero
    have h2 : FloatKind.f64.format.order x 0 = some (compare (a * (UU : Int)) (0 * (UU : Int))) := h1
    rw [h2, Int.zero_mul] at h0
    have h3 : compare (a * (UU : Int)) 0 = .eq := by simpa using h0
    have h4 := Int.compare_eq_eq.1 h3
    have hU := UU_pos
    have : a = 0 := by
      rcases Int.mul_eq_zero.1 h4 with h | h
      · exact h
      · omega
    subst this
    exact FI.zero
  · exact h

theorem FI.abs {x : Nat} {a : Int} (h : FI x a) : FI (fabs x) (a.natAbs : Int) := by
  have := FV_abs h
  rw [natAbs_mul_UU] at this
  unfold FI
  rw [← Int.natCast_mul]
  exact this

theorem FI.order {x y : Nat} {a : Int} (hx : FI x a) (hy : FI y a) : FloatKind.f64.format.order x y = some .eq := by
  have h : FloatKind.f64.format.order x y = some (compare (a * (UU : Int)) (a * (UU : Int))) := order_fv hx hy
  rw [h]
  congr 1
  exact Int.compare_eq_eq.2 rfl

/-- A total of whole numbers: nothing is lost. -/
structure TI (s : Nat × Nat) (a : Int) : Prop where
  all : FI s.1 a
  lost : FI s.2 0

theorem TI.zero : TI (0, 0) 0 := ⟨FI.zero, FI.zero⟩

theorem TI.add {s : Nat × Nat} {x : Nat} {a b : Int} (hs : TI s a) (hx : FI x b) (ha : a.natAbs ≤ 1000000000000000) (hb : b.natAbs ≤ 1000000000000000) : TOk s x ∧ TI (tad s x) (a + b) := by
  obtain ⟨k1, v1⟩ := hs.all.add hx (by omega)
  obtain ⟨k2, v2⟩ := hs.all.sub v1 (by omega)
  obtain ⟨k3, v3⟩ := v2.add hx (by omega)
  obtain ⟨k4, v4⟩ := hs.lost.add v3 (by omega)
  obtain ⟨k5, v5⟩ := hx.sub v1 (by omega)
  obtain ⟨k6, v6⟩ := v5.add hs.all (by omega)
  obtain ⟨k7, v7⟩ := hs.lost.add v6 (by omega)
  refine ⟨⟨FV.lt hs.all, FV.lt hx, k1, fun _ => ⟨k2, k3, k4⟩, fun _ => ⟨k5, k6, k7⟩⟩, ⟨v1, ?_⟩⟩
  have e1 : 0 + (a - (a + b) + b) = 0 := by omega
  have e2 : 0 + (b - (a + b) + a) = 0 := by omega
  rw [e1] at v4
  rw [e2] at v7
  unfold tad
  dsimp only
  split
  · exact v4
  · exact v7

theorem TI.sm {s : Nat × Nat} {a : Int} (hs : TI s a) (ha : a.natAbs ≤ 1000000000000000) : FOk .add s.1 s.2 ∧ FI (sm s) a := by
  obtain ⟨k1, v1⟩ := hs.all.add hs.lost (by omega)
  rw [Int.add_zero] at v1
  exact ⟨k1, v1⟩

/-- The sum of squares of how far the beats are from some number. -/
theorem sq_nonneg (n k : Nat) (c : Int) : 0 ≤ (Qn n k : Int) - 2 * c * (Xn n k : Int) + (k : Int) * (c * c) := by
  induction k with
  | zero => simp [Qn, Xn]
  | succ k ih =>
    simp only [Qn, Xn, Int.natCast_add, Int.natCast_mul]
    generalize (beatN n k : Int) = b
    generalize (Qn n k : Int) = q at *
    generalize (Xn n k : Int) = x at *
    generalize (k : Int) = kk at *
    have h : (q + b * b) - 2 * c * (x + b) + (kk + 1) * (c * c) = (q - 2 * c * x + kk * (c * c)) + (b - c) * (b - c) := by
      grind
    have h2 : 0 ≤ (b - c) * (b - c) := by
      rcases Int.le_total 0 (b - c) with h | h
      · exact Int.mul_nonneg h h
      · exact Int.mul_nonneg_of_nonpos_of_nonpos h h
    have h3 : ((1 : Nat) : Int) = 1 := rfl
    rw [h3, h]
    omega

/-- The divisor of the line. -/
def Dn (n k : Nat) : Int := (k : Int) * (Qn n k : Int) - (Xn n k : Int) * (Xn n k : Int)

theorem Dn_succ (n k : Nat) : Dn n k ≤ Dn n (k + 1) := by
  have h := sq_nonneg n k (beatN n k : Int)
  unfold Dn
  simp only [Qn, Xn, Int.natCast_add, Int.natCast_mul]
  generalize (beatN n k : Int) = b at *
  generalize (Qn n k : Int) = q at *
  generalize (Xn n k : Int) = x at *
  generalize (k : Int) = kk at *
  have h3 : ((1 : Nat) : Int) = 1 := rfl
  rw [h3]
  have e : (kk + 1) * (q + b * b) - (x + b) * (x + b) = kk * q - x * x + (q - 2 * b * x + kk * (b * b)) := by
    grind
  rw [e]
  omega

theorem Dn_pos (n k : Nat) (hn : 1 ≤ n) (hk : 2 ≤ k) : 1 ≤ Dn n k := by
  induction k with
  | zero => omega
  | succ k ih =>
    rcases Nat.lt_or_ge k 2 with h | h
    · obtain rfl : k = 1 := by omega
      have h1 : 1 / (2 * n) = 0 := Nat.div_eq_of_lt (by omega)
      simp [Dn, Qn, Xn, beatN, h1]
    · have := ih h
      have := Dn_succ n k
      omega

/-- Blows in time. -/
def inTime (n : Nat) (s g : Int) (m : Nat) : List (Int × Nat) := (List.range m).map (fun k => (((k % n : Nat) : Int), fi (s + g * (beatN n k : Int))))

theorem inTime_length (n : Nat) (s g : Int) (m : Nat) : (inTime n s g m).length = m := by simp [inTime]

theorem inTime_at {n : Nat} {s g : Int} {m k : Nat} (h : k < m) : (inTime n s g m).getD k (0, 0) = (((k % n : Nat) : Int), fi (s + g * (beatN n k : Int))) := by
  simp [inTime, List.getD, h]

theorem inTime_snoc (n : Nat) (s g : Int) (m : Nat) : inTime n s g (m + 1) = inTime n s g m ++ [(((m % n : Nat) : Int), fi (s + g * (beatN n m : Int)))] := by
  simp [inTime, List.range_succ]

theorem mul_le_of {a b : Int} {A B : Nat} (ha : a.natAbs ≤ A) (hb : b.natAbs ≤ B) : (a * b).natAbs ≤ A * B := by
  rw [Int.natAbs_mul]; exact Nat.mul_le_mul ha hb

/-- What is asked of the numbers. -/
structure InT (n : Nat) (s g : Int) (m : Nat) : Prop where
  n1 : 1 ≤ n
  n12 : n ≤ 12
  g0 : 0 ≤ g
  s : s.natAbs ≤ 100000
  g : g.natAbs ≤ 1000
  m2 : 2 ≤ m
  m3 : m ≤ 302

section
variable {n : Nat} {s g : Int} {m : Nat} (h : InT n s g m)
include h

theorem InT.beat {k : Nat} (hk : k < m) : beatN n k ≤ 604 := by
  have := beatN_le n k h.n1
  have := h.m3
  omega

theorem InT.X {k : Nat} (hk : k ≤ m) : Xn n k ≤ k * 604 := by
  induction k with
  | zero => simp [Xn]
  | succ k ih => have := ih (by omega); have := h.beat (k := k) (by omega); simp only [Xn]; omega

theorem InT.Q {k : Nat} (hk : k ≤ m) : Qn n k ≤ k * 364816 := by
  induction k with
  | zero => simp [Qn]
  | succ k ih =>
    have := ih (by omega)
    have h2 := h.beat (k := k) (by omega)
    have : beatN n k * beatN n k ≤ 604 * 604 := Nat.mul_le_mul h2 h2
    simp only [Qn]
    omega

theorem InT.timeB {k : Nat} (hk : k < m) : (s + g * (beatN n k : Int)).natAbs ≤ 704000 := by
  have h1 : (g * (beatN n k : Int)).natAbs ≤ 1000 * 604 := mul_le_of h.g (by have := h.beat hk; omega)
  have := h.s
  omega

theorem InT.time {k : Nat} (hk : k < m) : FI (timeAt (inTime n s g m) k) (s + g * (beatN n k : Int)) := by
  unfold timeAt
  rw [inTime_at hk]
  exact FI.fi _ (by have := h.timeB hk; omega)

theorem InT.prod {k : Nat} (hk : k < m) : FOk .mul (fi (beatN n k : Int)) (timeAt (inTime n s g m) k) ∧ FI (prodAt n (inTime n s g m) k) ((beatN n k : Int) * (s + g * (beatN n k : Int))) := by
  have hb := h.beat hk
  exact (FI.fi (beatN n k : Int) (by omega)).mul (h.time hk) (by have := mul_le_of (a := (beatN n k : Int)) (A := 604) (by omega) (h.timeB hk); omega)

theorem InT.tT {k : Nat} (hk : k ≤ m) : TI (tT (inTime n s g m) k) ((k : Int) * s + g * (Xn n k : Int)) ∧ ((k : Int) * s + g * (Xn n k : Int)).natAbs ≤ k * 704000 := by
  induction k with
  | zero => simp [Xn]; exact TI.zero
  | succ k ih =>
    obtain ⟨h1, h2⟩ := ih (by omega)
    have h3 := h.timeB (k := k) (by omega)
    have h4 := h.m3
    have e : ((k + 1 : Nat) : Int) * s + g * (Xn n (k + 1) : Int) = ((k : Int) * s + g * (Xn n k : Int)) + (s + g * (beatN n k : Int)) := by
      simp only [Xn, Int.natCast_add, Int.mul_add, Int.add_mul]
      rw [show ((1 : Nat) : Int) = 1 from rfl, Int.one_mul]
      omega
    rw [e]
    exact ⟨(h1.add (h.time (k := k) (by omega)) (by omega) (by omega)).2, by omega⟩

theorem InT.tU {k : Nat} (hk : k ≤ m) : TI (tU n (inTime n s g m) k) (s * (Xn n k : Int) + g * (Qn n k : Int)) ∧ (s * (Xn n k : Int) + g * (Qn n k : Int)).natAbs ≤ k * 425216000 := by
  induction k with
  | zero => simp [Xn, Qn]; exact TI.zero
  | succ k ih =>
    obtain ⟨h1, h2⟩ := ih (by omega)
    have h3 : ((beatN n k : Int) * (s + g * (beatN n k : Int))).natAbs ≤ 604 * 704000 := mul_le_of (by have := h.beat (k := k) (by omega); omega) (h.timeB (k := k) (by omega))
    have h4 := h.m3
    have e : s * (Xn n (k + 1) : Int) + g * (Qn n (k + 1) : Int) = (s * (Xn n k : Int) + g * (Qn n k : Int)) + ((beatN n k : Int) * (s + g * (beatN n k : Int))) := by
      simp only [Xn, Qn, Int.natCast_add, Int.natCast_mul, Int.mul_add]
      rw [Int.mul_comm (beatN n k : Int) s, Int.mul_left_comm (beatN n k : Int) g]
      omega
    rw [e]
    exact ⟨(h1.add (h.prod (k := k) (by omega)).2 (by omega) (by omega)).2, by omega⟩

/-- All of the line. -/
theorem InT.line : NOk n (inTime n s g m) ∧ FI (gapOf n (inTime n s g m)) g ∧ FI (startOf n (inTime n s g m)) s := by
  have hm := h.m3
  have hm2 := h.m2
  obtain ⟨t1, t2⟩ := h.tT (Nat.le_refl m)
  obtain ⟨u1, u2⟩ := h.tU (Nat.le_refl m)
  have hX := h.X (Nat.le_refl m)
  have hQ := h.Q (Nat.le_refl m)
  have ht2 : ((m : Int) * s + g * (Xn n m : Int)).natAbs ≤ 212608000 := by omega
  have hu2 : (s * (Xn n m : Int) + g * (Qn n m : Int)).natAbs ≤ 128415232000 := by omega
  clear t2 u2
  obtain ⟨kt, vt⟩ := t1.sm (by omega)
  obtain ⟨ku, vu⟩ := u1.sm (by omega)
  obtain ⟨ka, va⟩ := (FI.fi (m : Int) (by omega)).mul vu (by have := mul_le_of (a := (m : Int)) (A := 302) (by omega) hu2; omega)
  obtain ⟨kb, vb⟩ := (FI.fi (Xn n m : Int) (by omega)).mul vt (by have := mul_le_of (a := (Xn n m : Int)) (A := 182408) (by omega) ht2; omega)
  have hgs := h.g
  have hss := h.s
  have hD := Dn_pos n m h.n1 hm2
  have hDle : (Dn n m).natAbs ≤ 33272678464 := by
    have e1 : (m : Int) * (Qn n m : Int) ≤ 33272678464 := by
      have : m * Qn n m ≤ 302 * 110174432 := Nat.mul_le_mul hm (by omega)
      rw [← Int.natCast_mul]; omega
    have e2 : 0 ≤ (Xn n m : Int) * (Xn n m : Int) := by rw [← Int.natCast_mul]; omega
    unfold Dn at hD ⊢
    omega
  have eD : (m : Int) * (s * (Xn n m : Int) + g * (Qn n m : Int)) - (Xn n m : Int) * ((m : Int) * s + g * (Xn n m : Int)) = g * Dn n m := by
    unfold Dn
    generalize (Xn n m : Int) = X
    generalize (Qn n m : Int) = Q
    generalize (m : Int) = N
    grind
  obtain ⟨kc, vc⟩ := va.sub vb (by rw [eD]; have := mul_le_of hgs hDle; omega)
  rw [eD] at vc
  obtain ⟨kg, vg⟩ := vc.quo (FI.fi (Dn n m) (by omega)) (by omega) (by omega)
  have vG := vg.uns
  obtain ⟨kd, vd⟩ := vG.mul (FI.fi (Xn n m : Int) (by omega)) (by have := mul_le_of hgs (show (Xn n m : Int).natAbs ≤ 182408 by omega); omega)
  have eS : (m : Int) * s + g * (Xn n m : Int) - g * (Xn n m : Int) = s * (m : Int) := by rw [Int.mul_comm s]; omega
  have hsm : (s * (m : Int)).natAbs ≤ 100000 * 302 := mul_le_of hss (by omega)
  obtain ⟨ke, ve⟩ := vt.sub vd (by rw [eS]; omega)
  rw [eS] at ve
  obtain ⟨kf, vf⟩ := ve.quo (FI.fi (m : Int) (by omega)) (by omega) (by omega)
  have vS := vf.uns
  have hlen := inTime_length n s g m
  have eG : gapOf n (inTime n s g m) = uns (fop .quo (fop .sub (fop .mul (fi (m : Int)) (sm (Go.Proofs.Ythdlomgjmbldfaa.tU n (inTime n s g m) m))) (fop .mul (fi (Xn n m : Int)) (sm (Go.Proofs.Ythdlomgjmbldfaa.tT (inTime n s g m) m)))) (fi (Dn n m))) := by
    unfold gapOf gap0 Dn; rw [hlen]
  refine ⟨⟨?_, ?_, ?_, ?_, ?_, ?_, ?_, ?_, ?_, ?_, ?_, ?_⟩, ?_, ?_⟩
  · intro k hk
    rw [hlen] at hk
    obtain ⟨h1, h2⟩ := h.tT (Nat.le_of_lt hk)
    exact (h1.add (h.time hk) (by omega) (by have := h.timeB hk; omega)).1
  · intro k hk
    rw [hlen] at hk
    exact (h.prod hk).1
  · intro k hk
    rw [hlen] at hk
    obtain ⟨h1, h2⟩ := h.tU (Nat.le_of_lt hk)
    exact (h1.add (h.prod hk).2 (by omega) (by have := mul_le_of (a := (beatN n k : Int)) (A := 604) (by have := h.beat hk; omega) (h.timeB hk); omega)).1
  · rw [hlen]; exact kt
  · rw [hlen]; exact ku
  · rw [hlen]; exact ka
  · rw [hlen]; exact kb
  · rw [hlen]; exact kc
  · rw [hlen]; exact kg
  · rw [hlen, eG]; exact kd
  · rw [hlen, eG]; exact ke
  · rw [hlen, eG]; exact kf
  · rw [eG]; exact vG
  · have : startOf n (inTime n s g m) = uns (fop .quo (fop .sub (sm (Go.Proofs.Ythdlomgjmbldfaa.tT (inTime n s g m) m)) (fop .mul (gapOf n (inTime n s g m)) (fi (Xn n m : Int)))) (fi (m : Int))) := by
      unfold startOf start0; rw [hlen]
    rw [this, eG]
    exact vS

end
end Go.Proofs.Ythdlomgjmbldfaa
