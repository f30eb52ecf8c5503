/- Joined: XtA, CpC, CpD, BrC, BrD, BrE, FRx. -/
import Derived.Test.YtffnfchekbafmaaGreatDoorJ0
import Derived.Test.YtffnfchekbafmaaGreatDoorJ6
import Derived.BigQuiet
import Derived.Stop.FmtQuoteTie
import Derived.Laws.BytesArg
import Derived.Test.YtffnfchekbafmaaGreatDoorJ4
import Derived.Test.YtffnfchekbafmaaGreatDoorJ5
/- Plain: ways through all rows, one after another, in the order of lists; how many unlike numbers there are below a bound. -/
namespace Go.Proofs.YtffnfchekbafmaaGreatDoor
open Go.RowKit

/-- A way that goes on from a number, which has met these: each number once, and then 0. -/
def Good (nx : Nat → Nat → Nat) (K all : Nat) : List Nat → Nat → List Nat → Prop
  | _, _, [] => False
  | ks, at_, k :: t => k < K ∧ ((t = [] ∧ nx k at_ = 0 ∧ ks.length = all) ∨ (nx k at_ ∉ ks ∧ Good nx K all (nx k at_ :: ks) (nx k at_) t))

/-- The order of lists. -/
def Ltl : List Nat → List Nat → Prop
  | [], [] => False
  | [], _ :: _ => True
  | _ :: _, [] => False
  | a :: x, b :: y => a < b ∨ (a = b ∧ Ltl x y)

theorem nodup_leX : ∀ (n : Nat) (l : List Nat), l.Nodup → (∀ x, x ∈ l → x < n) → l.length ≤ n
  | 0, l, _, h => by
    cases l with
    | nil => simp
    | cons x t => exact absurd (h x (by simp)) (by omega)
  | n + 1, l, hn, h => by
    by_cases hm : n ∈ l
    · have h1 := nodup_leX n (l.erase n) (hn.erase n) (fun x hx => by
        have hx2 := (List.Nodup.mem_erase_iff hn).1 hx
        have := h x hx2.2
        have := hx2.1
        omega)
      have h2 := List.length_erase_of_mem hm
      have h3 : 0 < l.length := List.length_pos_of_mem hm
      omega
    · have h1 := nodup_leX n l hn (fun x hx => by
        have := h x hx
        have : x ≠ n := fun e => hm (e ▸ hx)
        omega)
      omega

/-- The numbers that are tried stand for all: each once, in order. -/
structure Tried (nx : Nat → Nat → Nat) (K : Nat) (tr : List Nat) : Prop where
  low : ∀ k, k ∈ tr → k < K
  sorted : tr.Pairwise (· < ·)
  all : ∀ k, k < K → ∃ k', k' ∈ tr ∧ k' ≤ k ∧ ∀ a, nx k' a = nx k a

theorem Good.same {nx : Nat → Nat → Nat} {K all : Nat} {ks : List Nat} {a k k' : Nat} {t : List Nat} (h : Good nx K all ks a (k :: t)) (hk : k' < K) (e : nx k' a = nx k a) : Good nx K all ks a (k' :: t) := by
  unfold Good at h ⊢
  rw [e]
  exact ⟨hk, h.2⟩

theorem sorted_before {tr : List Nat} (h : tr.Pairwise (· < ·)) {i : Nat} (hi : i < tr.length) {k : Nat} (hk : k ∈ tr) (hlt : k < tr.getD i 0) : ∃ j, j < i ∧ tr.getD j 0 = k := by
  obtain ⟨j, hj, e⟩ := List.getElem_of_mem hk
  have ei : tr.getD i 0 = tr[i] := by simp [List.getD, hi]
  refine ⟨j, ?_, by simp [List.getD, hj, e]⟩
  rcases Nat.lt_trichotomy j i with h1 | h1 | h1
  · exact h1
  · subst h1; omega
  · have := List.pairwise_iff_getElem.1 h i j hi hj h1
    omega

/-- What is found first is the least. -/
theorem least_found {nx : Nat → Nat → Nat} {K all : Nat} {tr ks : List Nat} {a i : Nat} {q : List Nat} (hT : Tried nx K tr) (hi : i < tr.length) (hno : ∀ j, j < i → ∀ t, ¬ Good nx K all ks a (tr.getD j 0 :: t))
    (hq : ∀ t, Good nx K all ks a (tr.getD i 0 :: t) → ¬ Ltl t q) : ∀ t, Good nx K all ks a t → ¬ Ltl t (tr.getD i 0 :: q) := by
  intro t ht hl
  cases t with
  | nil => exact ht
  | cons k t =>
    have hk : k < K := by unfold Good at ht; exact ht.1
    rcases (show k < tr.getD i 0 ∨ (k = tr.getD i 0 ∧ Ltl t q) from hl) with h | ⟨rfl, h⟩
    · obtain ⟨k', hm, hle, he⟩ := hT.all k hk
      obtain ⟨j, hj, e⟩ := sorted_before hT.sorted hi hm (by omega)
      refine hno j hj t ?_
      rw [e]
      exact ht.same (hT.low k' hm) (he a)
    · exact hq t ht h

theorem none_found {nx : Nat → Nat → Nat} {K all : Nat} {tr ks : List Nat} {a : Nat} (hT : Tried nx K tr) (hno : ∀ j, j < tr.length → ∀ t, ¬ Good nx K all ks a (tr.getD j 0 :: t)) : ∀ t, ¬ Good nx K all ks a t := by
  intro t ht
  cases t with
  | nil => exact ht
  | cons k t =>
    have hk : k < K := by unfold Good at ht; exact ht.1
    obtain ⟨k', hm, hle, he⟩ := hT.all k hk
    obtain ⟨j, hj, e⟩ := List.getElem_of_mem hm
    refine hno j hj t ?_
    rw [show tr.getD j 0 = k' from by simp [List.getD, hj, e]]
    exact ht.same (hT.low k' hm) (he a)

/-- A step that is barred. -/
theorem good_barred {nx : Nat → Nat → Nat} {K all : Nat} {ks : List Nat} {a k : Nat} (h1 : nx k a ∈ ks) (h2 : ¬ (nx k a = 0 ∧ ks.length = all)) : ∀ t, ¬ Good nx K all ks a (k :: t) := by
  intro t ht
  unfold Good at ht
  rcases ht.2 with ⟨_, h3, h4⟩ | ⟨h3, _⟩
  · exact h2 ⟨h3, h4⟩
  · exact h3 h1

/-- Home. -/
theorem good_home {nx : Nat → Nat → Nat} {K all : Nat} {ks : List Nat} {a k : Nat} (hk : k < K) (h1 : nx k a = 0) (h2 : ks.length = all) : Good nx K all ks a [k] ∧ ∀ t, Good nx K all ks a (k :: t) → ¬ Ltl t [] := by
  refine ⟨⟨hk, Or.inl ⟨rfl, h1, h2⟩⟩, fun t _ hl => ?_⟩
  cases t with
  | nil => exact hl
  | cons _ _ => exact hl

theorem good_on {nx : Nat → Nat → Nat} {K all : Nat} {ks : List Nat} {a k : Nat} (h2 : ¬ (nx k a = 0 ∧ ks.length = all)) (t : List Nat) : Good nx K all ks a (k :: t) → Good nx K all (nx k a :: ks) (nx k a) t := by
  intro ht
  unfold Good at ht
  rcases ht.2 with ⟨_, h3, h4⟩ | ⟨_, h3⟩
  · exact absurd ⟨h3, h4⟩ h2
  · exact h3

def nI (l : List Nat) : List Int := l.map (fun (k : Nat) => (k : Int))

theorem nI_len (l : List Nat) : (nI l).length = l.length := by simp [nI]

theorem nI_get (l : List Nat) {i : Nat} (h : i < l.length) : (nI l).getD i 0 = ((l.getD i 0 : Nat) : Int) := by simp [nI, List.getD, h]

end Go.Proofs.YtffnfchekbafmaaGreatDoor

/- Contracts: call.runOf, call.Print. -/
namespace Go.Proofs.YtffnfchekbafmaaGreatDoor
open Go.RowKit Go.Shelf
set_option maxRecDepth 20000
set_option linter.unusedVariables false

/-- The k-th cell of leads in memory. -/
theorem lead_cell {w : World} {v : Value} {t : List Nat} (h : Ints w v (nI t)) (h1 : 1 ≤ t.length) : ∃ b off cap, v = .slice (some ⟨b, off, none⟩) t.length cap ∧ t.length ≤ cap ∧ cap ≤ 9223372036854775807 ∧ b < w.heap.size ∧ ∀ k, k < t.length → w.cell? ⟨b, off + k, none⟩ = some (.int .i64 ((t.getD k 0 : Nat) : Int)) := by
  rcases h with ⟨e, _⟩ | ⟨b, off, cap, e, h0, h2, h3, h4, hc⟩
  · exfalso
    have : t = [] := by simpa [nI] using e
    rw [this] at h1
    simp at h1
  · rw [nI_len] at e h2
    refine ⟨b, off, cap, e, h2, h3, h4, fun k hk => ?_⟩
    rw [hc k (by rw [nI_len]; exact hk), nI_get t hk]

/-- The bytes of a call's sign. -/
def sgB (cs : List Cl) (c : Nat) : List UInt8 := Lib.encodeRune (cs.getD c (0, [])).1

theorem sgB_length (cs : List Cl) (c : Nat) : (sgB cs c).length ≤ 4 := by
  unfold sgB
  have := (Lib.runeCells_le (cs.getD c (0, [])).1).2
  rwa [Lib.runeCells_length] at this

/-- What Print tells of leads: their text, or nothing. -/
def prT (cs : List Cl) (ls : List Int) : List UInt8 := if lErr cs.length ls = 0 then pF (sgB cs) 0 (ls.map Int.toNat) else []

def sLen : Value → Nat
  | .slice _ n _ => n
  | _ => 0

/-- What the loop of Print knows. -/
structure PRel (cs : List Cl) (L : List UInt8) (B : Nat) (w wr : World) (lv : Value) (t : List Nat) (acc : List UInt8) : Prop where
  lat : Ints w lv (nI t)
  bld : Bld B B acc wr
  eq : L = acc ++ pF (sgB cs) 0 t
  few : acc.length + 6 * t.length ≤ 6 * 400
  below : Below B w wr

theorem Ints.drop9 {w : World} {b off cap n k : Nat} {t : List Nat} (h : Ints w (.slice (some ⟨b, off, none⟩) n cap) (nI t)) (hn : t.length = n) (hk : k ≤ n) : Ints w (.slice (some ⟨b, off + k, none⟩) (n - k) (cap - k)) (nI (t.drop k)) := by
  rcases Nat.eq_or_lt_of_le hk with e | e
  · subst e
    refine Or.inl ⟨?_, some ⟨b, off + k, none⟩, cap - k, ?_⟩
    · rw [List.drop_eq_nil_of_le (by omega)]; rfl
    · rw [Nat.sub_self]
  · obtain ⟨b', off', cap', e1, h2, h3, h4, hc⟩ := lead_cell h (by omega)
    rw [hn] at e1 h2 hc
    simp only [Value.slice.injEq, Option.some.injEq, Addr.mk.injEq, and_true] at e1
    obtain ⟨⟨rfl, rfl⟩, _, rfl⟩ := e1
    have hl : (nI (t.drop k)).length = n - k := by rw [nI_len, List.length_drop, hn]
    refine Or.inr ⟨b, off + k, cap - k, by rw [hl], by rw [hl]; omega, by rw [hl]; omega, by omega, h4, fun j hj => ?_⟩
    rw [hl] at hj
    rw [Nat.add_assoc, hc (k + j) (by omega), nI_get _ (by rw [List.length_drop]; omega)]
    simp [List.getD]

end Go.Proofs.YtffnfchekbafmaaGreatDoor

/- Contracts: the answer's Dec of small numbers, PrintTouch. -/
namespace Go.Proofs.YtffnfchekbafmaaGreatDoor
open Go.RowKit Go.Shelf
set_option maxRecDepth 20000
set_option linter.unusedVariables false

theorem str_app (a b : List UInt8) : (⟨a.toArray⟩ : ByteArray) ++ ⟨b.toArray⟩ = ⟨(a ++ b).toArray⟩ := by
  apply ByteArray.ext
  simp

theorem str_size (a : List UInt8) : (⟨a.toArray⟩ : ByteArray).size = a.length := by
  show a.toArray.size = _
  simp

theorem byte_str (n b : Nat) (W : World) (hk : W.cell? ⟨b, 0, none⟩ = some (.int .u8 (48 + (n : Int)))) : (convert 22 9 (.slice (some ⟨b, 0, none⟩) 1 1)).run Tryz.prog W = .ok (.string ⟨[UInt8.ofNat (48 + n)].toArray⟩) W := by
  have h := run_convert_bytes_arg (P := Tryz.prog) (w := W) 22 5 Tryz.underlying22 Tryz.underlying5 b 0 1 1 [48 + (n : Int)] rfl (fun i hi => by
    obtain rfl : i = 0 := by omega
    simpa using hk) 9 Tryz.underlying9
  rw [h]
  congr 3

set_option maxHeartbeats 2000000 in
theorem decS_one (n : Nat) (h : n < 10) (w : World) : Calls Tryz.prog 38 #[.int .i64 n] w fun e w' => e = .returned (.string ⟨[UInt8.ofNat (48 + n)].toArray⟩) ∧ Below w.heap.size w w' := by
  have h1 : ¬ (n : Int) < -9 := by omega
  have h2 : ¬ (n : Int) < 0 := by omega
  have h3 : (n : Int) < 10 := by omega
  have hcv := byte_str n w.heap.size (w.alloc (.cells #[.int .u8 (48 + (n : Int))] 5)) (by simp)
  have HB := hide ((Below.refl w.heap.size w).alloc (Nat.le_refl _) (.cells #[.int .u8 (48 + (n : Int))] 5))
  go_enter Tryz.func38, Tryz.ntmps38
  go_wp2
  go_ret
  exact ⟨rfl, HB.out⟩

set_option maxHeartbeats 4000000 in
theorem decS_two (n : Nat) (h0 : 10 ≤ n) (h : n < 100) (w : World) : Calls Tryz.prog 38 #[.int .i64 n] w fun e w' => e = .returned (.string ⟨(decB n).toArray⟩) ∧ Below w.heap.size w w' := by
  have h1 : ¬ (n : Int) < -9 := by omega
  have h2 : ¬ (n : Int) < 0 := by omega
  have h3 : ¬ (n : Int) < 10 := by omega
  obtain ⟨q, hq⟩ : ∃ q, Hid (n / 10 = q) := ⟨_, rfl⟩
  obtain ⟨m, hm⟩ : ∃ m, Hid (n % 10 = m) := ⟨_, rfl⟩
  have hq1 := hq.out
  have hm1 := hm.out
  have hq10 : q < 10 := by omega
  have hm10 : m < 10 := by omega
  have hdv : (n : Int).tdiv 10 = (q : Int) := by rw [show (10 : Int) = ((10 : Nat) : Int) from rfl, ← Int.ofNat_tdiv, hq1]
  have hmd : (n : Int).tmod 10 = (m : Int) := by rw [show (10 : Int) = ((10 : Nat) : Int) from rfl, ← Int.ofNat_tmod, hm1]
  have HD := hide (fun W => decS_one q hq10 W)
  have HBS := hide (fun b W hk => byte_str m b W hk)
  obtain ⟨sq, hsq⟩ : ∃ sq, Hid ((⟨[UInt8.ofNat (48 + q)].toArray⟩ : ByteArray) = sq) := ⟨_, rfl⟩
  obtain ⟨sm, hsm⟩ : ∃ sm, Hid ((⟨[UInt8.ofNat (48 + m)].toArray⟩ : ByteArray) = sm) := ⟨_, rfl⟩
  rw [hsq.out] at HD
  rw [hsm.out] at HBS
  have hadd := fun W => run_string_add_sum (P := Tryz.prog) (w := W) sq sm (by rw [← hsq.out, ← hsm.out, str_size, str_size]; simp)
  have HFIN : Hid ((⟨(decB n).toArray⟩ : ByteArray) = sq ++ sm) := by
    show _ = _
    rw [← hsq.out, ← hsm.out, str_app]
    unfold decB
    rw [if_neg (by omega), hq1, hm1]
    rfl
  clear hq1 hm1
  go_enter Tryz.func38, Tryz.ntmps38
  go_upto_region 7 with fail
  refine wp_region_held_drew (S := fun W' => Below w.heap.size w W') (by kernel_rfl) (Below.refl w.heap.size w).drew (fun hS => ?_)
  refine wpAnyH_take (i := 0) (v := .int .i64 n) rfl (by kernel_rfl) (by kernel_rfl) (by kernel_rfl) (fun _ _ _ h => h) (Or.inl ⟨by kernel_rfl, fun w' hS' => by clear hS'; go_simp⟩) hS ?_
  refine wpAnyH_take (i := 1) (v := .int .i64 q) rfl (by kernel_rfl) (by kernel_rfl) (by kernel_rfl) (fun _ _ _ h => h) (Or.inl ⟨by kernel_rfl, fun w' hS' => by clear hS'; go_simp; (try (rw [IntKind.wrap_i64]; omega))⟩) hS ?_
  refine wpAnyH_take (i := 3) (v := .int .i64 n) rfl (by kernel_rfl) (by kernel_rfl) (by kernel_rfl) (fun _ _ _ h => h) (Or.inl ⟨by kernel_rfl, fun w' hS' => by clear hS'; go_simp⟩) hS ?_
  refine wpAnyH_take (i := 4) (v := .int .i64 m) rfl (by kernel_rfl) (by kernel_rfl) (by kernel_rfl) (fun _ _ _ h => h) (Or.inl ⟨by kernel_rfl, fun w' hS' => by clear hS'; go_simp; (try (rw [IntKind.wrap_i64]; omega))⟩) hS ?_
  refine wpAnyH_take (i := 5) (v := .int .i64 (48 + (m : Int))) rfl (by kernel_rfl) (by kernel_rfl) (by kernel_rfl) (fun _ _ _ h => h) (Or.inl ⟨by kernel_rfl, fun w' hS' => by clear hS'; go_simp; (try (rw [IntKind.wrap_i64]; omega))⟩) hS ?_
  refine wpAnyH_take (i := 6) (v := .int .u8 (48 + (m : Int))) rfl (by kernel_rfl) (by kernel_rfl) (by kernel_rfl) (fun _ _ _ h => h) (Or.inl ⟨by kernel_rfl, fun w' hS' => by clear hS'; go_simp; (try (rw [IntKind.wrap_u8]; omega))⟩) hS ?_
  refine wpAnyH_ready (rs := [2, 7]) (by kernel_rfl) (by simp) ?_
  refine (AllReadyH.cons rfl (fun K9 hK9 => ?_) (AllReadyH.cons rfl (fun K9 hK9 => ?_) AllReadyH.nil))
  · go_simp
    refine (HD.out _).mono ?_
    rintro e w1 ⟨rfl, hb1⟩
    have hB1 : Below w.heap.size w w1 := (Below.refl w.heap.size w).drew.trans hb1
    refine hK9.out _ _ hB1 (fun hS => ?_)
    clear hK9
    refine wpAnyH_ready (rs := [7]) (by kernel_rfl) (by simp) ?_
    refine (AllReadyH.cons rfl (fun K9 hK9 => ?_) AllReadyH.nil)
    go_simp
    have hB2 : Below w.heap.size w (w1.alloc (.cells #[.int .u8 (48 + (m : Int))] 5)) := hB1.alloc hB1.size _
    have hcv := HBS.out w1.heap.size (w1.alloc (.cells #[.int .u8 (48 + (m : Int))] 5)) (by simp)
    refine hK9.out _ _ hB2 (fun hS => ?_)
    clear hK9
    refine wpAnyH_ready (rs := [8]) (by kernel_rfl) (by simp) ?_
    refine (AllReadyH.cons rfl (fun K9 hK9 => ?_) AllReadyH.nil)
    go_simp
    refine hK9.out _ _ hB2 (fun hS => ?_)
    clear hK9 hcv
    refine wpAnyH_take (i := 9) (v := .string (sq ++ sm)) rfl (by kernel_rfl) (by kernel_rfl) (by kernel_rfl) (fun _ _ _ h => h) (Or.inl ⟨by kernel_rfl, fun w' hS' => by clear hS'; go_simp⟩) hS ?_
    refine wpAnyH_take (i := 10) (v := .string (sq ++ sm)) rfl (by kernel_rfl) (by kernel_rfl) (by kernel_rfl) (fun _ _ _ h => h) (Or.inl ⟨by kernel_rfl, fun w' hS' => by clear hS'; go_simp⟩) hS ?_
    refine wpAnyH_done (by kernel_rfl) ?_ _
    have HBF := hide hB2
    clear hS
    go_wp2
    go_ret
    exact ⟨by rw [HFIN.out]; rfl, HBF.out⟩
  · go_simp
    have hBA : Below w.heap.size w (w.alloc (.cells #[.int .u8 (48 + (m : Int))] 5)).drew := ((Below.refl w.heap.size w).alloc (Nat.le_refl _) _).drew
    have hcv := HBS.out w.heap.size (w.alloc (.cells #[.int .u8 (48 + (m : Int))] 5)).drew (by show (w.alloc (.cells #[.int .u8 (48 + (m : Int))] 5)).cell? _ = _; simp)
    refine hK9.out _ _ hBA (fun hS => ?_)
    clear hK9
    refine wpAnyH_ready (rs := [2, 8]) (by kernel_rfl) (by simp) ?_
    refine (AllReadyH.cons rfl (fun K9 hK9 => ?_) (AllReadyH.cons rfl (fun K9 hK9 => ?_) AllReadyH.nil))
    · go_simp
      refine (HD.out _).mono ?_
      rintro e w1 ⟨rfl, hb1⟩
      have hB1 : Below w.heap.size w w1 := hBA.trans (hb1.mono hBA.size)
      have hk : w1.cell? ⟨w.heap.size, 0, none⟩ = some (.int .u8 (48 + (m : Int))) := (hb1.cell (p := ⟨w.heap.size, 0, none⟩) (by show w.heap.size < (w.alloc (.cells #[.int .u8 (48 + (m : Int))] 5)).heap.size; simp)).trans (by show (w.alloc (.cells #[.int .u8 (48 + (m : Int))] 5)).cell? _ = _; simp)
      have hcv2 := HBS.out w.heap.size w1 hk
      refine hK9.out _ _ hB1 (fun hS => ?_)
      clear hK9
      refine wpAnyH_ready (rs := [8]) (by kernel_rfl) (by simp) ?_
      refine (AllReadyH.cons rfl (fun K9 hK9 => ?_) AllReadyH.nil)
      go_simp
      refine hK9.out _ _ hB1 (fun hS => ?_)
      clear hK9 hcv2
      refine wpAnyH_take (i := 9) (v := .string (sq ++ sm)) rfl (by kernel_rfl) (by kernel_rfl) (by kernel_rfl) (fun _ _ _ h => h) (Or.inl ⟨by kernel_rfl, fun w' hS' => by clear hS'; go_simp⟩) hS ?_
      refine wpAnyH_take (i := 10) (v := .string (sq ++ sm)) rfl (by kernel_rfl) (by kernel_rfl) (by kernel_rfl) (fun _ _ _ h => h) (Or.inl ⟨by kernel_rfl, fun w' hS' => by clear hS'; go_simp⟩) hS ?_
      refine wpAnyH_done (by kernel_rfl) ?_ _
      have HBF := hide hB1
      clear hS
      go_wp2
      go_ret
      exact ⟨by rw [HFIN.out]; rfl, HBF.out⟩
    · go_simp
      refine hK9.out _ _ hBA (fun hS => ?_)
      clear hK9 hcv
      refine wpAnyH_ready (rs := [2]) (by kernel_rfl) (by simp) ?_
      refine (AllReadyH.cons rfl (fun K9 hK9 => ?_) AllReadyH.nil)
      go_simp
      refine (HD.out _).mono ?_
      rintro e w1 ⟨rfl, hb1⟩
      have hB1 : Below w.heap.size w w1 := hBA.trans (hb1.mono hBA.size)
      refine hK9.out _ _ hB1 (fun hS => ?_)
      clear hK9
      refine wpAnyH_take (i := 9) (v := .string (sq ++ sm)) rfl (by kernel_rfl) (by kernel_rfl) (by kernel_rfl) (fun _ _ _ h => h) (Or.inl ⟨by kernel_rfl, fun w' hS' => by clear hS'; go_simp⟩) hS ?_
      refine wpAnyH_take (i := 10) (v := .string (sq ++ sm)) rfl (by kernel_rfl) (by kernel_rfl) (by kernel_rfl) (fun _ _ _ h => h) (Or.inl ⟨by kernel_rfl, fun w' hS' => by clear hS'; go_simp⟩) hS ?_
      refine wpAnyH_done (by kernel_rfl) ?_ _
      have HBF := hide hB1
      clear hS
      go_wp2
      go_ret
      exact ⟨by rw [HFIN.out]; rfl, HBF.out⟩

theorem enc_rune (r : Int) : Utf8.encode r = ⟨(Lib.encodeRune r).toArray⟩ := by
  have key : (Utf8.encode r).data.toList = Lib.encodeRune r := by
    unfold Lib.encodeRune
    by_cases h0 : r < 0
    · have v : Utf8.valid r = false := by simp [Utf8.valid]; omega
      rw [Lib.encodeRuneZ_bad (by omega)]
      simp [Utf8.encode, v, Utf8.runeError]
    · obtain ⟨n, rfl⟩ : ∃ n : Nat, r = (n : Int) := ⟨r.toNat, by omega⟩
      rw [← Go.Extern.FmtText.encode_eq n]
      unfold Go.Extern.FmtText.nums
      rw [List.map_map]
      exact ((List.map_congr_left (fun b _ => by simp)).trans (List.map_id _)).symm
  apply ByteArray.ext
  rw [← key]

end Go.Proofs.YtffnfchekbafmaaGreatDoor

/- Contract: the answer's Dec, of numbers below ten thousand million. -/
namespace Go.Proofs.YtffnfchekbafmaaGreatDoor
open Go.RowKit Go.Lib
set_option maxRecDepth 20000
set_option linter.unusedVariables false

set_option maxHeartbeats 4000000 in
theorem decN_big (n : Nat) (h0 : 10 ≤ n) (h : n < 10000000000) (HR : ∀ q, q = n / 10 → ∀ W : World, Calls Tryz.prog 38 #[.int .i64 q] W fun e w' => e = .returned (.string ⟨(decDigits q).toArray⟩) ∧ Below W.heap.size W w') (w : World) : Calls Tryz.prog 38 #[.int .i64 n] w fun e w' => e = .returned (.string ⟨(decDigits n).toArray⟩) ∧ Below w.heap.size w w' := by
  have h1 : ¬ (n : Int) < -9 := by omega
  have h2 : ¬ (n : Int) < 0 := by omega
  have h3 : ¬ (n : Int) < 10 := by omega
  obtain ⟨q, hq⟩ : ∃ q, Hid (n / 10 = q) := ⟨_, rfl⟩
  obtain ⟨m, hm⟩ : ∃ m, Hid (n % 10 = m) := ⟨_, rfl⟩
  have hq1 := hq.out
  have hm1 := hm.out
  have hqN : q < 1000000000 := by omega
  have hm10 : m < 10 := by omega
  have hdv : (n : Int).tdiv 10 = (q : Int) := by rw [show (10 : Int) = ((10 : Nat) : Int) from rfl, ← Int.ofNat_tdiv, hq1]
  have hmd : (n : Int).tmod 10 = (m : Int) := by rw [show (10 : Int) = ((10 : Nat) : Int) from rfl, ← Int.ofNat_tmod, hm1]
  have HD := hide (fun W => HR q hq1.symm W)
  have HSZ : Hid ((⟨(decDigits q).toArray⟩ : ByteArray).size ≤ 20) := dec_len (by omega)
  have HBS := hide (fun b W hk => byte_str m b W hk)
  obtain ⟨sq, hsq⟩ : ∃ sq, Hid ((⟨(decDigits q).toArray⟩ : ByteArray) = sq) := ⟨_, rfl⟩
  obtain ⟨sm, hsm⟩ : ∃ sm, Hid ((⟨[UInt8.ofNat (48 + m)].toArray⟩ : ByteArray) = sm) := ⟨_, rfl⟩
  rw [hsq.out] at HD
  rw [hsm.out] at HBS
  have hadd := fun W => run_string_add_sum (P := Tryz.prog) (w := W) sq sm (by rw [← hsm.out, str_size]; have := HSZ.out; rw [hsq.out] at this; show sq.size + 1 ≤ _; omega)
  have HFIN : Hid ((⟨(decDigits n).toArray⟩ : ByteArray) = sq ++ sm) := by
    show _ = _
    rw [← hsq.out, ← hsm.out, str_app]
    rw [decDigits, dif_neg (show ¬ n < 10 by omega), hq1, hm1]
  clear hq1 hm1 HSZ HR
  go_enter Tryz.func38, Tryz.ntmps38
  go_upto_region 7 with fail
  refine wp_region_held_drew (S := fun W' => Below w.heap.size w W') (by kernel_rfl) (Below.refl w.heap.size w).drew (fun hS => ?_)
  refine wpAnyH_take (i := 0) (v := .int .i64 n) rfl (by kernel_rfl) (by kernel_rfl) (by kernel_rfl) (fun _ _ _ h => h) (Or.inl ⟨by kernel_rfl, fun w' hS' => by clear hS'; go_simp⟩) hS ?_
  refine wpAnyH_take (i := 1) (v := .int .i64 q) rfl (by kernel_rfl) (by kernel_rfl) (by kernel_rfl) (fun _ _ _ h => h) (Or.inl ⟨by kernel_rfl, fun w' hS' => by clear hS'; go_simp; (try (rw [IntKind.wrap_i64]; omega))⟩) hS ?_
  refine wpAnyH_take (i := 3) (v := .int .i64 n) rfl (by kernel_rfl) (by kernel_rfl) (by kernel_rfl) (fun _ _ _ h => h) (Or.inl ⟨by kernel_rfl, fun w' hS' => by clear hS'; go_simp⟩) hS ?_
  refine wpAnyH_take (i := 4) (v := .int .i64 m) rfl (by kernel_rfl) (by kernel_rfl) (by kernel_rfl) (fun _ _ _ h => h) (Or.inl ⟨by kernel_rfl, fun w' hS' => by clear hS'; go_simp; (try (rw [IntKind.wrap_i64]; omega))⟩) hS ?_
  refine wpAnyH_take (i := 5) (v := .int .i64 (48 + (m : Int))) rfl (by kernel_rfl) (by kernel_rfl) (by kernel_rfl) (fun _ _ _ h => h) (Or.inl ⟨by kernel_rfl, fun w' hS' => by clear hS'; go_simp; (try (rw [IntKind.wrap_i64]; omega))⟩) hS ?_
  refine wpAnyH_take (i := 6) (v := .int .u8 (48 + (m : Int))) rfl (by kernel_rfl) (by kernel_rfl) (by kernel_rfl) (fun _ _ _ h => h) (Or.inl ⟨by kernel_rfl, fun w' hS' => by clear hS'; go_simp; (try (rw [IntKind.wrap_u8]; omega))⟩) hS ?_
  refine wpAnyH_ready (rs := [2, 7]) (by kernel_rfl) (by simp) ?_
  refine (AllReadyH.cons rfl (fun K9 hK9 => ?_) (AllReadyH.cons rfl (fun K9 hK9 => ?_) AllReadyH.nil))
  · go_simp
    refine (HD.out _).mono ?_
    rintro e w1 ⟨rfl, hb1⟩
    have hB1 : Below w.heap.size w w1 := (Below.refl w.heap.size w).drew.trans hb1
    refine hK9.out _ _ hB1 (fun hS => ?_)
    clear hK9
    refine wpAnyH_ready (rs := [7]) (by kernel_rfl) (by simp) ?_
    refine (AllReadyH.cons rfl (fun K9 hK9 => ?_) AllReadyH.nil)
    go_simp
    have hB2 : Below w.heap.size w (w1.alloc (.cells #[.int .u8 (48 + (m : Int))] 5)) := hB1.alloc hB1.size _
    have hcv := HBS.out w1.heap.size (w1.alloc (.cells #[.int .u8 (48 + (m : Int))] 5)) (by simp)
    refine hK9.out _ _ hB2 (fun hS => ?_)
    clear hK9
    refine wpAnyH_ready (rs := [8]) (by kernel_rfl) (by simp) ?_
    refine (AllReadyH.cons rfl (fun K9 hK9 => ?_) AllReadyH.nil)
    go_simp
    refine hK9.out _ _ hB2 (fun hS => ?_)
    clear hK9 hcv
    refine wpAnyH_take (i := 9) (v := .string (sq ++ sm)) rfl (by kernel_rfl) (by kernel_rfl) (by kernel_rfl) (fun _ _ _ h => h) (Or.inl ⟨by kernel_rfl, fun w' hS' => by clear hS'; go_simp⟩) hS ?_
    refine wpAnyH_take (i := 10) (v := .string (sq ++ sm)) rfl (by kernel_rfl) (by kernel_rfl) (by kernel_rfl) (fun _ _ _ h => h) (Or.inl ⟨by kernel_rfl, fun w' hS' => by clear hS'; go_simp⟩) hS ?_
    refine wpAnyH_done (by kernel_rfl) ?_ _
    have HBF := hide hB2
    clear hS
    go_wp2
    go_ret
    exact ⟨by rw [HFIN.out]; rfl, HBF.out⟩
  · go_simp
    have hBA : Below w.heap.size w (w.alloc (.cells #[.int .u8 (48 + (m : Int))] 5)).drew := ((Below.refl w.heap.size w).alloc (Nat.le_refl _) _).drew
    have hcv := HBS.out w.heap.size (w.alloc (.cells #[.int .u8 (48 + (m : Int))] 5)).drew (by show (w.alloc (.cells #[.int .u8 (48 + (m : Int))] 5)).cell? _ = _; simp)
    refine hK9.out _ _ hBA (fun hS => ?_)
    clear hK9
    refine wpAnyH_ready (rs := [2, 8]) (by kernel_rfl) (by simp) ?_
    refine (AllReadyH.cons rfl (fun K9 hK9 => ?_) (AllReadyH.cons rfl (fun K9 hK9 => ?_) AllReadyH.nil))
    · go_simp
      refine (HD.out _).mono ?_
      rintro e w1 ⟨rfl, hb1⟩
      have hB1 : Below w.heap.size w w1 := hBA.trans (hb1.mono hBA.size)
      have hk : w1.cell? ⟨w.heap.size, 0, none⟩ = some (.int .u8 (48 + (m : Int))) := (hb1.cell (p := ⟨w.heap.size, 0, none⟩) (by show w.heap.size < (w.alloc (.cells #[.int .u8 (48 + (m : Int))] 5)).heap.size; simp)).trans (by show (w.alloc (.cells #[.int .u8 (48 + (m : Int))] 5)).cell? _ = _; simp)
      have hcv2 := HBS.out w.heap.size w1 hk
      refine hK9.out _ _ hB1 (fun hS => ?_)
      clear hK9
      refine wpAnyH_ready (rs := [8]) (by kernel_rfl) (by simp) ?_
      refine (AllReadyH.cons rfl (fun K9 hK9 => ?_) AllReadyH.nil)
      go_simp
      refine hK9.out _ _ hB1 (fun hS => ?_)
      clear hK9 hcv2
      refine wpAnyH_take (i := 9) (v := .string (sq ++ sm)) rfl (by kernel_rfl) (by kernel_rfl) (by kernel_rfl) (fun _ _ _ h => h) (Or.inl ⟨by kernel_rfl, fun w' hS' => by clear hS'; go_simp⟩) hS ?_
      refine wpAnyH_take (i := 10) (v := .string (sq ++ sm)) rfl (by kernel_rfl) (by kernel_rfl) (by kernel_rfl) (fun _ _ _ h => h) (Or.inl ⟨by kernel_rfl, fun w' hS' => by clear hS'; go_simp⟩) hS ?_
      refine wpAnyH_done (by kernel_rfl) ?_ _
      have HBF := hide hB1
      clear hS
      go_wp2
      go_ret
      exact ⟨by rw [HFIN.out]; rfl, HBF.out⟩
    · go_simp
      refine hK9.out _ _ hBA (fun hS => ?_)
      clear hK9 hcv
      refine wpAnyH_ready (rs := [2]) (by kernel_rfl) (by simp) ?_
      refine (AllReadyH.cons rfl (fun K9 hK9 => ?_) AllReadyH.nil)
      go_simp
      refine (HD.out _).mono ?_
      rintro e w1 ⟨rfl, hb1⟩
      have hB1 : Below w.heap.size w w1 := hBA.trans (hb1.mono hBA.size)
      refine hK9.out _ _ hB1 (fun hS => ?_)
      clear hK9
      refine wpAnyH_take (i := 9) (v := .string (sq ++ sm)) rfl (by kernel_rfl) (by kernel_rfl) (by kernel_rfl) (fun _ _ _ h => h) (Or.inl ⟨by kernel_rfl, fun w' hS' => by clear hS'; go_simp⟩) hS ?_
      refine wpAnyH_take (i := 10) (v := .string (sq ++ sm)) rfl (by kernel_rfl) (by kernel_rfl) (by kernel_rfl) (fun _ _ _ h => h) (Or.inl ⟨by kernel_rfl, fun w' hS' => by clear hS'; go_simp⟩) hS ?_
      refine wpAnyH_done (by kernel_rfl) ?_ _
      have HBF := hide hB1
      clear hS
      go_wp2
      go_ret
      exact ⟨by rw [HFIN.out]; rfl, HBF.out⟩

theorem decN_ok (n : Nat) : n < 10000000000 → ∀ w : World, Calls Tryz.prog 38 #[.int .i64 n] w fun e w' => e = .returned (.string ⟨(decDigits n).toArray⟩) ∧ Below w.heap.size w w' := by
  induction n using Nat.strongRecOn with
  | ind n ih =>
    intro h w
    by_cases h0 : n < 10
    · have e : decDigits n = [UInt8.ofNat (48 + n)] := by rw [decDigits, dif_pos h0]
      rw [e]
      exact decS_one n h0 w
    · exact decN_big n (by omega) h (fun q hq W => by subst hq; exact ih (n / 10) (by omega) (by omega) W) w

end Go.Proofs.YtffnfchekbafmaaGreatDoor

/- Contract: the answer's RecordMay. -/
namespace Go.Proofs.YtffnfchekbafmaaGreatDoor
open Go.RowKit
set_option maxRecDepth 100000
set_option linter.unusedVariables false

set_option maxHeartbeats 8000000 in
theorem recMay_ok (d c : Int) (m : ByteArray) (v : Value) (ring : List ByteArray) (w : World) (hv : RgAt w v ring) (hm : m.size ≤ 1000000) (hr : ∀ x, x ∈ ring → x.size ≤ 1000000) (h1 : 1 ≤ ring.length) :
    Calls Tryz.prog 24 #[.agg #[.int .i64 d, .int .i64 c, .string m, v]] w fun e w' => (∃ k : Int, e = .returned (.int .i64 k) ∧ (k = 0 ↔ MayR d c m ring)) ∧ Below w.heap.size w w' := by
  obtain ⟨g, o, cap, ev, hg, hc1, hc2, hcell⟩ := hv.mem
  subst ev
  obtain ⟨W, hW⟩ : ∃ W, W = w.alloc (.cells #[.int .i64 d, .int .i64 c, .string m, .slice (some ⟨g, o, none⟩) ring.length cap] 44) := ⟨_, rfl⟩
  have hbW : Below w.heap.size w W := by rw [hW]; exact (Below.refl _ _).alloc (Nat.le_refl _) _
  have hh : W.heap[w.heap.size]? = some (.cells #[.int .i64 d, .int .i64 c, .string m, .slice (some ⟨g, o, none⟩) ring.length cap] 44) := by rw [hW]; exact heap_alloc_new w _
  have hsW : w.heap.size < W.heap.size := (Array.getElem?_eq_some_iff.1 hh).1
  have HV : Hid (∀ V, Below W.heap.size W V → V.cell? ⟨w.heap.size, 3, none⟩ = some (.slice (some ⟨g, o, none⟩) ring.length cap) ∧ StC9 V g o ring ∧ Below w.heap.size w V) := fun V hV =>
    ⟨(hV.cell (p := ⟨w.heap.size, 3, none⟩) hsW).trans (by simp [World.cell?, hh]), fun k x hk => (hV.cell (p := ⟨g, o + k, none⟩) (show g < W.heap.size by omega)).trans ((hbW.cell (p := ⟨g, o + k, none⟩) hg).trans (hcell k x hk)), hbW.trans (hV.mono hbW.size)⟩
  have HNm : Hid (∀ V, Calls Tryz.prog 37 #[.string m] V fun e w' => e = .returned (.bool (nm m)) ∧ Below V.heap.size V w') := fun V => by
    have h := isName_any m V (by omega)
    rw [nm_isN] at h
    exact h
  have HW := hide hW
  clear hh hcell hv
  by_cases hdc : 0 ≤ d ∧ d ≤ 1000000 ∧ 1 ≤ c ∧ c ≤ 1000000
  · obtain ⟨b1, b2, b3, b4⟩ := hdc
    have a1 : ¬ d < 0 := by omega
    have a2 : ¬ 1000000 < d := by omega
    have a3 : ¬ c < 1 := by omega
    have a4 : ¬ 1000000 < c := by omega
    by_cases hn : nm m = true
    · rw [hn] at HNm
      by_cases hl : ring.length ≤ 12
      · have HX : Hid (∀ k, k < ring.length → ∃ x, ring[k]? = some x ∧ x.size ≤ 1000000) := fun k hk => ⟨_, List.getElem?_eq_getElem hk, hr _ (List.getElem_mem hk)⟩
        have HOk : Hid ((∀ x, x ∈ ring.take ring.length → nm x = true) ∧ (ring.take ring.length).Nodup → MayR d c m ring) := fun h => by rw [List.take_length] at h; exact ⟨b1, b2, b3, b4, hn, h1, hl, h.1, h.2⟩
        have HMR : Hid (MayR d c m ring → (∀ x, x ∈ ring → nm x = true) ∧ ring.Nodup) := fun h => ⟨h.names, h.apart⟩
        generalize hPM : MayR d c m ring = PM at *
        generalize hL : ring.length = L at *
        have c1 : ¬ ((L : Int) < 1) := by omega
        have c2 : ¬ ((12 : Int) < (L : Int)) := by omega
        have HBW := hide hbW
        clear hr hPM hL hW hbW hn
        go_enter Tryz.func24, Tryz.ntmps24
        go_wp2_with fail
        refine (HNm.out _).mono ?_
        rintro e W1 ⟨rfl, hb⟩
        have HB1 : Hid (Below W.heap.size W W1) := by show Below _ _ _; rw [HW.out]; exact hb
        clear hb HNm HW
        obtain ⟨q3, hst, hbel⟩ := HV.out W1 HB1.out
        clear hst hbel
        go_wp2
        go_loopw [4] (fun i wr => ∃ k : Nat, k ≤ L ∧ i = .int .i64 (k : Int) ∧ Hid (Below W.heap.size W wr) ∧ Hid ((∀ x, x ∈ ring.take k → nm x = true) ∧ (ring.take k).Nodup)) (fun i _ => L - (intOf i).toNat)
        case atStart => exact ⟨0, Nat.zero_le _, rfl, HB1, by show _ ∧ _; rw [List.take_zero]; exact ⟨fun x hx => absurd hx List.not_mem_nil, List.nodup_nil⟩⟩
        case round =>
          obtain ⟨k, hk, rfl, HBr, hA⟩ := hrel
          obtain ⟨r3, hst, hbel⟩ := HV.out wr HBr.out
          by_cases hlt : k < L
          · obtain ⟨x, hxe, hxs⟩ := HX.out k hlt
            have p1 := hst k x hxe
            have HNx : Hid (∀ V, Calls Tryz.prog 37 #[.string x] V fun e w' => e = .returned (.bool (nm x)) ∧ Below V.heap.size V w') := fun V => by
              have h := isName_any x V (by omega)
              rw [nm_isN] at h
              exact h
            have HXm : Hid (x ∈ ring) := List.mem_of_getElem? hxe
            have HXn : Hid (x ∈ ring.take k → ¬ ring.Nodup) := fun h => not_nodup hxe h
            have HTs : Hid (ring.take (k + 1) = ring.take k ++ [x]) := by show _ = _; rw [List.take_add_one, hxe]; rfl
            have HXE := hide hxe
            have HA := hide hA.out
            have hkc : k ≤ cap := by omega
            clear hst hbel hxe hxs hA
            by_cases hnx : nm x = true
            · rw [hnx] at HNx
              have HNX := hide hnx
              clear hnx
              go_wp2_with fail
              refine (HNx.out _).mono ?_
              rintro e W2 ⟨rfl, hb⟩
              have HB2 := hide (HBr.out.trans (hb.mono HBr.out.size))
              clear hb HNx r3 p1
              go_wp2
              go_loopw [6] (fun j wq => ∃ q : Nat, q ≤ k ∧ j = .int .i64 (q : Int) ∧ Hid (Below W.heap.size W wq) ∧ Hid (x ∉ ring.take q)) (fun j _ => k - (intOf j).toNat)
              case atStart => exact ⟨0, Nat.zero_le _, rfl, HB2, by show _ ∉ _; simp⟩
              case round =>
                obtain ⟨q, hq, rfl, HBq, hQ⟩ := hrel
                by_cases hql : q < k
                · obtain ⟨y, hye, hys⟩ := HX.out q (by omega)
                  obtain ⟨s3, hst, hbel⟩ := HV.out wr HBq.out
                  have p1 := hst q y hye
                  have p2 := hst k x HXE.out
                  have hi1 : (q : Int) < (k : Int) := by omega
                  have hi2 : (q : Int) < (L : Int) := by omega
                  have hi3 : (k : Int) < (L : Int) := by omega
                  have HYq : Hid (ring.take (q + 1) = ring.take q ++ [y]) := by show _ = _; rw [List.take_add_one, hye]; rfl
                  by_cases hxy : y = x
                  · have he := eqs_t hxy
                    have HIn : Hid (x ∈ ring.take k) := by
                      show _ ∈ _
                      apply List.mem_of_getElem? (i := q)
                      rw [List.getElem?_take, if_pos hql, hye, hxy]
                    have HF : Hid ((8 : Int) = 0 ↔ PM) := ⟨fun h => absurd h (by decide), fun h => absurd (HMR.out h).2 (HXn.out HIn.out)⟩
                    have HFB := hide hbel
                    clear hxy hst hbel hye hys HXn HXm HTs HOk HMR HX hQ HXE HIn HYq
                    go_wp2_with fail
                    go_quiet (fail)
                    go_wp2
                    go_ret
                    exact ⟨⟨_, rfl, HF.out⟩, below_drewN HFB.out _⟩
                  · have he := eqs_f hxy
                    have HN : Hid (x ∉ ring.take (q + 1)) := by
                      show ¬ _
                      rw [HYq.out]
                      intro h
                      rcases List.mem_append.1 h with h | h
                      · exact hQ.out h
                      · simp at h; exact hxy h.symm
                    clear hxy hst hbel hye hys HYq hQ
                    go_wp2_with fail
                    go_quiet (fail)
                    go_wp2
                    go_roundw
                    case rel => exact ⟨q + 1, hql, by go_num, below_drewN HBq.out _, HN⟩
                    case measure => simp [intOf]; omega
                · obtain rfl : q = k := by omega
                  have HN : Hid ((∀ x, x ∈ ring.take (q + 1) → nm x = true) ∧ (ring.take (q + 1)).Nodup) := by
                    show _ ∧ _
                    rw [HTs.out]
                    refine ⟨fun y hy => ?_, nodup_snoc HA.out.2 hQ.out⟩
                    rcases List.mem_append.1 hy with h | h
                    · exact HA.out.1 y h
                    · simp at h; rw [h]; exact HNX.out
                  clear HXn HXm HTs hQ HXE
                  go_wp2
                  go_roundw
                  case rel => exact ⟨q + 1, hlt, by go_num, HBq, HN⟩
                  case measure => simp [intOf]; omega
            · have hnf : nm x = false := by simpa using hnx
              rw [hnf] at HNx
              have HF : Hid ((7 : Int) = 0 ↔ PM) := ⟨fun h => absurd h (by decide), fun h => absurd ((HMR.out h).1 x HXm.out) hnx⟩
              clear hnx hnf HXn HXm HTs HOk HMR HX HXE
              go_wp2_with fail
              refine (HNx.out _).mono ?_
              rintro e W2 ⟨rfl, hb⟩
              have HB2 := hide (HBr.out.trans (hb.mono HBr.out.size))
              have HFB := hide (HV.out W2 HB2.out).2.2
              clear hb HNx r3 p1
              go_wp2
              go_ret
              exact ⟨⟨_, rfl, HF.out⟩, HFB.out⟩
          · obtain rfl : k = L := by omega
            have HF : Hid PM := HOk.out hA.out
            have HFB := hide hbel
            clear hst hbel hA
            go_wp2
            go_ret
            exact ⟨⟨_, rfl, ⟨fun _ => HF.out, fun _ => rfl⟩⟩, HFB.out⟩
      · have HF : Hid ((1 : Int) = 0 ↔ MayR d c m ring) := ⟨fun h => absurd h (by decide), fun h => absurd h.few hl⟩
        generalize hPM : MayR d c m ring = PM at *
        generalize ring.length = L at *
        have c1 : ¬ ((L : Int) < 1) := by omega
        have c2 : ((12 : Int) < (L : Int)) := by omega
        clear hr hPM hW hbW hn hl
        go_enter Tryz.func24, Tryz.ntmps24
        go_wp2_with fail
        refine (HNm.out _).mono ?_
        rintro e W1 ⟨rfl, hb⟩
        have HB1 : Hid (Below W.heap.size W W1) := by show Below _ _ _; rw [HW.out]; exact hb
        clear hb HNm HW
        obtain ⟨q3, hst, hbel⟩ := HV.out W1 HB1.out
        have HFB := hide hbel
        clear hst hbel
        go_wp2
        go_ret
        exact ⟨⟨_, rfl, HF.out⟩, HFB.out⟩
    · have hnf : nm m = false := by simpa using hn
      rw [hnf] at HNm
      have HF : Hid ((7 : Int) = 0 ↔ MayR d c m ring) := ⟨fun h => absurd h (by decide), fun h => absurd h.name hn⟩
      generalize hPM : MayR d c m ring = PM at *
      generalize ring.length = L at *
      clear hr hPM hW hbW hn hnf
      go_enter Tryz.func24, Tryz.ntmps24
      go_wp2_with fail
      refine (HNm.out _).mono ?_
      rintro e W1 ⟨rfl, hb⟩
      have HB1 : Hid (Below W.heap.size W W1) := by show Below _ _ _; rw [HW.out]; exact hb
      clear hb HNm HW
      have HFB := hide (HV.out W1 HB1.out).2.2
      go_wp2
      go_ret
      exact ⟨⟨_, rfl, HF.out⟩, HFB.out⟩
  · have HF : Hid ((12 : Int) = 0 ↔ MayR d c m ring) := ⟨fun h => absurd h (by decide), fun h => absurd ⟨h.d0, h.d1, h.c1, h.c2⟩ hdc⟩
    have HB : Hid (Below w.heap.size w (w.alloc (.cells #[.int .i64 d, .int .i64 c, .string m, .slice (some ⟨g, o, none⟩) ring.length cap] 44))) := by rw [hW] at hbW; exact hbW
    generalize hPM : MayR d c m ring = PM at *
    generalize ring.length = L at *
    clear hbW hr hW HW HV HNm hPM
    by_cases a1 : d < 0
    · go_enter Tryz.func24, Tryz.ntmps24
      go_wp2
      go_ret
      exact ⟨⟨_, rfl, HF.out⟩, HB.out⟩
    · by_cases a2 : 1000000 < d
      · go_enter Tryz.func24, Tryz.ntmps24
        go_wp2
        go_ret
        exact ⟨⟨_, rfl, HF.out⟩, HB.out⟩
      · by_cases a3 : c < 1
        · go_enter Tryz.func24, Tryz.ntmps24
          go_wp2
          go_ret
          exact ⟨⟨_, rfl, HF.out⟩, HB.out⟩
        · have a4 : 1000000 < c := by omega
          go_enter Tryz.func24, Tryz.ntmps24
          go_wp2
          go_ret
          exact ⟨⟨_, rfl, HF.out⟩, HB.out⟩

end Go.Proofs.YtffnfchekbafmaaGreatDoor

/- Contract: the answer's RecordLine, of a record that may be. -/
namespace Go.Proofs.YtffnfchekbafmaaGreatDoor
open Go.RowKit Go.Lib
set_option maxRecDepth 100000
set_option linter.unusedVariables false

theorem jnB_one (x : ByteArray) : jnB 44 [x] = x := rfl

theorem jnB_snoc (l : List ByteArray) (x : ByteArray) (h : 1 ≤ l.length) : jnB 44 (l ++ [x]) = (jnB 44 l ++ ⟨#[44]⟩) ++ x := by
  match l, h with
  | a :: r, _ =>
    apply ByteArray.ext
    apply Array.ext'
    show (jnT 44 a.data.toList ((r ++ [x]).map (fun x => x.data.toList))).toArray.toList = _
    rw [List.map_append, List.map_cons, List.map_nil, jnT_snoc]
    simp only [ByteArray.data_append, Array.toList_append]
    rfl

theorem txB_eq (d c : Nat) (m : ByteArray) (ring : List ByteArray) : txB d c m ring = ((((((⟨(decDigits d).toArray⟩ : ByteArray) ++ ⟨#[124]⟩) ++ ⟨(decDigits c).toArray⟩) ++ ⟨#[124]⟩) ++ m) ++ ⟨#[124]⟩) ++ jnB 44 ring := by
  apply ByteArray.ext
  apply Array.ext'
  unfold txB
  show (jnT 124 (decDigits d) [decDigits c, m.data.toList, (jnB 44 ring).data.toList]).toArray.toList = _
  simp only [ByteArray.data_append, Array.toList_append, jnT, List.foldl_cons, List.foldl_nil]

theorem str_add (a b s : ByteArray) (h : a ++ b = s) (hs : s.size ≤ 1000000) : ∀ W : World, (Op.stringOp .add a b).run Tryz.prog W = .ok (.string s) W := fun W => by
  subst h
  exact run_string_add_sum (P := Tryz.prog) (w := W) a b (by rw [ByteArray.size_append] at hs; omega)

/-- How far the ringers' names are told. -/
structure RingT (pre : ByteArray) (ring : List ByteArray) (k : Nat) (t : ByteArray) : Prop where
  eq : t = pre ++ jnB 44 (ring.take k)
  le : t.size ≤ 4000 + k * 1001

theorem RingT.next {pre t : ByteArray} {ring : List ByteArray} {k : Nat} {x : ByteArray} (h : RingT pre ring k t) (hk : 1 ≤ k) (hx : ring[k]? = some x) (hs : x.size ≤ 1000) : RingT pre ring (k + 1) ((t ++ ⟨#[44]⟩) ++ x) := by
  have hkl := (List.getElem?_eq_some_iff.1 hx).1
  refine ⟨?_, ?_⟩
  · rw [List.take_add_one, hx]
    show _ = pre ++ jnB 44 (ring.take k ++ [x])
    rw [jnB_snoc _ _ (by rw [List.length_take]; omega), h.eq]
    simp [ByteArray.append_assoc]
  · have h1 := h.le
    rw [ByteArray.size_append, ByteArray.size_append]
    have : (⟨#[44]⟩ : ByteArray).size = 1 := rfl
    rw [Nat.add_mul]
    omega

theorem RingT.first {pre t : ByteArray} {ring : List ByteArray} {x : ByteArray} (h : RingT pre ring 0 t) (hx : ring[0]? = some x) (hs : x.size ≤ 1000) : RingT pre ring 1 (t ++ x) := by
  refine ⟨?_, ?_⟩
  · rw [List.take_add_one, hx, h.eq]
    show (pre ++ jnB 44 []) ++ x = pre ++ jnB 44 ([] ++ [x])
    rw [show jnB 44 [] = ByteArray.empty from rfl, ByteArray.append_empty]
    rfl
  · have h1 := h.le
    rw [ByteArray.size_append]
    omega

set_option maxHeartbeats 8000000 in
theorem recLine_ok (d c : Nat) (m : ByteArray) (v : Value) (ring : List ByteArray) (w : World) (hv : RgAt w v ring) (hM : MayR (d : Int) (c : Int) m ring) :
    Calls Tryz.prog 25 #[.agg #[.int .i64 (d : Int), .int .i64 (c : Int), .string m, v]] w fun e w' => e = .returned (.string (lnB (txB d c m ring))) ∧ Below w.heap.size w w' := by
  have hd : d ≤ 1000000 := by have := hM.d1; omega
  have hc : c ≤ 1000000 := by have := hM.c2; omega
  have hm : m.size ≤ 1000 := by have := nm_size hM.name; omega
  have hr : ∀ x, x ∈ ring → x.size ≤ 1000 := fun x hx => by have := nm_size (hM.names x hx); omega
  have hl := hM.few
  obtain ⟨g, o, cap, ev, hg, hc1, hc2, hcell⟩ := hv.mem
  subst ev
  obtain ⟨W, hW⟩ : ∃ W, W = w.alloc (.cells #[.int .i64 (d : Int), .int .i64 (c : Int), .string m, .slice (some ⟨g, o, none⟩) ring.length cap] 44) := ⟨_, rfl⟩
  have hbW : Below w.heap.size w W := by rw [hW]; exact (Below.refl _ _).alloc (Nat.le_refl _) _
  have hh : W.heap[w.heap.size]? = some (.cells #[.int .i64 (d : Int), .int .i64 (c : Int), .string m, .slice (some ⟨g, o, none⟩) ring.length cap] 44) := by rw [hW]; exact heap_alloc_new w _
  have hsW : w.heap.size < W.heap.size := (Array.getElem?_eq_some_iff.1 hh).1
  have HV : Hid (∀ V, Below W.heap.size W V → (V.cell? ⟨w.heap.size, 0, none⟩ = some (.int .i64 (d : Int)) ∧ V.cell? ⟨w.heap.size, 1, none⟩ = some (.int .i64 (c : Int)) ∧ V.cell? ⟨w.heap.size, 2, none⟩ = some (.string m)) ∧ V.cell? ⟨w.heap.size, 3, none⟩ = some (.slice (some ⟨g, o, none⟩) ring.length cap) ∧ StC9 V g o ring ∧ Below w.heap.size w V) := fun V hV =>
    ⟨⟨(hV.cell (p := ⟨w.heap.size, 0, none⟩) hsW).trans (by simp [World.cell?, hh]), (hV.cell (p := ⟨w.heap.size, 1, none⟩) hsW).trans (by simp [World.cell?, hh]), (hV.cell (p := ⟨w.heap.size, 2, none⟩) hsW).trans (by simp [World.cell?, hh])⟩, (hV.cell (p := ⟨w.heap.size, 3, none⟩) hsW).trans (by simp [World.cell?, hh]), fun k x hk => (hV.cell (p := ⟨g, o + k, none⟩) (show g < W.heap.size by have := hbW.size; omega)).trans ((hbW.cell (p := ⟨g, o + k, none⟩) hg).trans (hcell k x hk)), hbW.trans (hV.mono hbW.size)⟩
  have HX : Hid (∀ k, k < ring.length → ∃ x, ring[k]? = some x ∧ x.size ≤ 1000) := fun k hk => ⟨_, List.getElem?_eq_getElem hk, hr _ (List.getElem_mem hk)⟩
  have HD1 := hide (fun V : World => decN_ok d (by omega) V)
  have HD2 := hide (fun V : World => decN_ok c (by omega) V)
  have l1 := dec_len (u := d) (by omega)
  have l2 := dec_len (u := c) (by omega)
  have HTX : Hid (txB d c m ring = ((((((⟨(decDigits d).toArray⟩ : ByteArray) ++ ⟨#[124]⟩) ++ ⟨(decDigits c).toArray⟩) ++ ⟨#[124]⟩) ++ m) ++ ⟨#[124]⟩) ++ jnB 44 (ring.take ring.length)) := by show _ = _; rw [List.take_length]; exact txB_eq d c m ring
  have HLN := hide (lnB_cat (txB d c m ring))
  have HD3 := hide (fun V : World => decN_ok (chkN (txB d c m ring).data.toList) (by have := chkN_lt (txB d c m ring).data.toList; omega) V)
  have hck := chkN_lt (txB d c m ring).data.toList
  have l3 := dec_len (u := chkN (txB d c m ring).data.toList) (by omega)
  have HCk : Hid (chkN (txB d c m ring).data.toList = chkN ((txB d c m ring).data.toList.take (txB d c m ring).size)) := by show _ = _; rw [List.take_of_length_le (by rw [Array.length_toList]; exact Nat.le_refl _)]
  generalize hTXe : txB d c m ring = TX at *
  clear hTXe
  generalize (⟨(decDigits d).toArray⟩ : ByteArray) = D1 at *
  generalize (⟨(decDigits c).toArray⟩ : ByteArray) = D2 at *
  have n1 : (⟨#[124]⟩ : ByteArray).size = 1 := rfl
  obtain ⟨s1, hs1⟩ : ∃ s, D1 ++ (⟨#[124]⟩ : ByteArray) = s := ⟨_, rfl⟩
  obtain ⟨s2, hs2⟩ : ∃ s, s1 ++ D2 = s := ⟨_, rfl⟩
  obtain ⟨s3, hs3⟩ : ∃ s, s2 ++ (⟨#[124]⟩ : ByteArray) = s := ⟨_, rfl⟩
  obtain ⟨s4, hs4⟩ : ∃ s, s3 ++ m = s := ⟨_, rfl⟩
  obtain ⟨s5, hs5⟩ : ∃ s, s4 ++ (⟨#[124]⟩ : ByteArray) = s := ⟨_, rfl⟩
  rw [hs1, hs2, hs3, hs4, hs5] at HTX
  have z1 : s1.size = D1.size + 1 := by rw [← hs1, ByteArray.size_append]; rfl
  have z2 : s2.size = s1.size + D2.size := by rw [← hs2, ByteArray.size_append]
  have z3 : s3.size = s2.size + 1 := by rw [← hs3, ByteArray.size_append]; rfl
  have z4 : s4.size = s3.size + m.size := by rw [← hs4, ByteArray.size_append]
  have z5 : s5.size = s4.size + 1 := by rw [← hs5, ByteArray.size_append]; rfl
  have ha1 := str_add _ _ _ hs1 (by omega)
  have ha2 := str_add _ _ _ hs2 (by omega)
  have ha3 := str_add _ _ _ hs3 (by omega)
  have ha4 := str_add _ _ _ hs4 (by omega)
  have ha5 := str_add _ _ _ hs5 (by omega)
  have HS0 : Hid (RingT s5 ring 0 s5) := ⟨by rw [List.take_zero, show jnB 44 [] = ByteArray.empty from rfl, ByteArray.append_empty], by omega⟩
  have HZs : Hid (ring.length ≤ 12) := hl
  generalize hL : ring.length = L at *
  have hL12 : L ≤ 12 := hl
  have HW := hide hW
  have HBW := hide hbW
  clear hs1 hs2 hs3 hs4 hs5 z1 z2 z3 z4 z5 l1 l2 hm hr hl hcell hv hh n1 hL hbW HZs hM
  go_enter Tryz.func25, Tryz.ntmps25
  go_wp2
  change Code.wp _ _ _ _ (w.alloc (.cells #[.int .i64 (d : Int), .int .i64 (c : Int), .string m, .slice (some ⟨g, o, none⟩) L cap] 44))
  rw [← HW.out]
  clear HW hW
  have hk0 := (HV.out W (Below.refl _ _)).1
  refine wp_region_held_drew (S := fun W' => W'.cell? ⟨w.heap.size, 0, none⟩ = some (.int .i64 (d : Int)) ∧ W'.cell? ⟨w.heap.size, 1, none⟩ = some (.int .i64 (c : Int)) ∧ W'.cell? ⟨w.heap.size, 2, none⟩ = some (.string m)) (by kernel_rfl) hk0 (fun hS => ?_)
  refine wpAnyH_take (i := 0) (v := .pointer (some ⟨w.heap.size, 0, none⟩)) rfl (by kernel_rfl) (by kernel_rfl) (by kernel_rfl) (fun _ _ _ h => h) (Or.inl ⟨by kernel_rfl, fun w' hS' => by clear hS'; go_simp⟩) hS ?_
  refine wpAnyH_take (i := 1) (v := .int .i64 (d : Int)) rfl (by kernel_rfl) (by kernel_rfl) (by kernel_rfl) (fun _ _ _ h => h) (Or.inl ⟨by kernel_rfl, fun w' hS' => by have h2 := hS'.1; clear hS'; go_simp⟩) hS ?_
  refine wpAnyH_take (i := 4) (v := .pointer (some ⟨w.heap.size, 1, none⟩)) rfl (by kernel_rfl) (by kernel_rfl) (by kernel_rfl) (fun _ _ _ h => h) (Or.inl ⟨by kernel_rfl, fun w' hS' => by clear hS'; go_simp⟩) hS ?_
  refine wpAnyH_take (i := 5) (v := .int .i64 (c : Int)) rfl (by kernel_rfl) (by kernel_rfl) (by kernel_rfl) (fun _ _ _ h => h) (Or.inl ⟨by kernel_rfl, fun w' hS' => by have h2 := hS'.2.1; clear hS'; go_simp⟩) hS ?_
  refine wpAnyH_take (i := 9) (v := .pointer (some ⟨w.heap.size, 2, none⟩)) rfl (by kernel_rfl) (by kernel_rfl) (by kernel_rfl) (fun _ _ _ h => h) (Or.inl ⟨by kernel_rfl, fun w' hS' => by clear hS'; go_simp⟩) hS ?_
  refine wpAnyH_take (i := 10) (v := .string m) rfl (by kernel_rfl) (by kernel_rfl) (by kernel_rfl) (fun _ _ _ h => h) (Or.inl ⟨by kernel_rfl, fun w' hS' => by have h2 := hS'.2.2; clear hS'; go_simp⟩) hS ?_
  refine wpAnyH_ready (rs := [2]) (by kernel_rfl) (by simp) ?_
  refine AllReadyH.cons rfl (fun K9 hK9 => ?_) AllReadyH.nil
  go_simp
  refine (HD1.out W.drew).mono ?_
  rintro e V1 ⟨rfl, hb1⟩
  replace hb1 := undrewB hb1
  refine hK9.out _ _ (HV.out V1 hb1).1 (fun hS => ?_)
  clear hK9
  refine wpAnyH_take (i := 3) (v := .string s1) rfl (by kernel_rfl) (by kernel_rfl) (by kernel_rfl) (fun _ _ _ h => h) (Or.inl ⟨by kernel_rfl, fun w' hS' => by clear hS'; go_simp⟩) hS ?_
  refine wpAnyH_ready (rs := [6]) (by kernel_rfl) (by simp) ?_
  refine AllReadyH.cons rfl (fun K9 hK9 => ?_) AllReadyH.nil
  go_simp
  refine (HD2.out V1).mono ?_
  rintro e V2 ⟨rfl, hb2⟩
  have hB2 := hb1.trans (hb2.mono hb1.size)
  refine hK9.out _ _ (HV.out V2 hB2).1 (fun hS => ?_)
  clear hK9 hb2 hb1
  refine wpAnyH_take (i := 7) (v := .string s2) rfl (by kernel_rfl) (by kernel_rfl) (by kernel_rfl) (fun _ _ _ h => h) (Or.inl ⟨by kernel_rfl, fun w' hS' => by clear hS'; go_simp⟩) hS ?_
  refine wpAnyH_take (i := 8) (v := .string s3) rfl (by kernel_rfl) (by kernel_rfl) (by kernel_rfl) (fun _ _ _ h => h) (Or.inl ⟨by kernel_rfl, fun w' hS' => by clear hS'; go_simp⟩) hS ?_
  refine wpAnyH_take (i := 11) (v := .string s4) rfl (by kernel_rfl) (by kernel_rfl) (by kernel_rfl) (fun _ _ _ h => h) (Or.inl ⟨by kernel_rfl, fun w' hS' => by clear hS'; go_simp⟩) hS ?_
  refine wpAnyH_take (i := 12) (v := .string s5) rfl (by kernel_rfl) (by kernel_rfl) (by kernel_rfl) (fun _ _ _ h => h) (Or.inl ⟨by kernel_rfl, fun w' hS' => by clear hS'; go_simp⟩) hS ?_
  refine wpAnyH_take (i := 13) (v := .string s5) rfl (by kernel_rfl) (by kernel_rfl) (by kernel_rfl) (fun _ _ _ h => h) (Or.inl ⟨by kernel_rfl, fun w' hS' => by clear hS'; go_simp⟩) hS ?_
  refine wpAnyH_done (by kernel_rfl) ?_ _
  have HB2 := hide hB2
  clear hS hB2 hk0 ha1 ha2 ha3 ha4 ha5 HD1 HD2
  go_wp2
  go_loopw [3, 4] (fun sv iv wr => ∃ (k : Nat) (t : ByteArray), k ≤ L ∧ sv = .string t ∧ iv = .int .i64 (k : Int) ∧ Hid (RingT s5 ring k t) ∧ Hid (Below W.heap.size W wr)) (fun _ iv _ => L - (RowKit.intOf iv).toNat)
  case atStart => exact ⟨0, s5, Nat.zero_le _, rfl, rfl, HS0, HB2⟩
  case round =>
    obtain ⟨k, t, hk, rfl, rfl, HR, HBr⟩ := hrel
    obtain ⟨-, q3, hst, hbel⟩ := HV.out wr HBr.out
    by_cases hlt : k < L
    · obtain ⟨x, hxe, hxs⟩ := HX.out k hlt
      have p1 := hst k x hxe
      have htl : t.size ≤ 20000 := by have := HR.out.le; have : k * 1001 ≤ 12 * 1001 := Nat.mul_le_mul_right _ (by omega); omega
      have hi1 : (k : Int) < (L : Int) := by omega
      by_cases hk0 : k = 0
      · have HN : Hid (RingT s5 ring (k + 1) (t ++ x)) := by
          have h1 := HR.out
          subst hk0
          exact h1.first hxe hxs
        have hi0 : ¬ ((0 : Int) < (k : Int)) := by omega
        obtain ⟨t2, ht2⟩ : ∃ t2, t ++ x = t2 := ⟨_, rfl⟩
        have ha := str_add t x t2 ht2 (by rw [← ht2, ByteArray.size_append]; omega)
        rw [ht2] at HN
        clear hxe hxs htl ht2 HR hst hbel hk0
        go_wp2
        go_roundw
        case rel => exact ⟨k + 1, t2, hlt, rfl, by go_num, HN, HBr⟩
        case measure => simp [RowKit.intOf]; omega
      · have HN := hide (HR.out.next (by omega) hxe hxs)
        have hi0 : (0 : Int) < (k : Int) := by omega
        obtain ⟨t2, ht2⟩ : ∃ t2, t ++ (⟨#[44]⟩ : ByteArray) = t2 := ⟨_, rfl⟩
        obtain ⟨t3, ht3⟩ : ∃ t3, t2 ++ x = t3 := ⟨_, rfl⟩
        have hz2 : t2.size = t.size + 1 := by rw [← ht2, ByteArray.size_append]; rfl
        have ha := str_add t _ t2 ht2 (by omega)
        have ha2 := str_add t2 x t3 ht3 (by rw [← ht3, ByteArray.size_append]; omega)
        rw [ht2, ht3] at HN
        clear hxe hxs htl ht2 ht3 HR hst hbel hz2 hk0
        go_wp2
        go_roundw
        case rel => exact ⟨k + 1, t3, hlt, rfl, by go_num, HN, HBr⟩
        case measure => simp [RowKit.intOf]; omega
    · obtain rfl : k = L := by omega
      have hTt : t = TX := by rw [HTX.out, HR.out.eq]
      have htl : t.size ≤ 20000 := by have := HR.out.le; have : k * 1001 ≤ 12 * 1001 := Nat.mul_le_mul_right _ (by omega); omega
      subst hTt
      have HBr := hide HBr.out
      clear HTX HR HX hst hbel HS0
      go_wp2
      go_loopw [5, 6] (fun sh si wq => ∃ (j h : Nat), j ≤ t.size ∧ h < 4294967296 ∧ sh = .int .u32 (h : Int) ∧ si = .int .i64 (j : Int) ∧ Hid (h = chkN (t.data.toList.take j)) ∧ Hid (Below W.heap.size W wq)) (fun _ si _ => t.size - (RowKit.intOf si).toNat)
      case atStart => exact ⟨0, 5381, Nat.zero_le _, by decide, rfl, rfl, rfl, HBr⟩
      case round =>
        obtain ⟨j, h, hj, hh, rfl, rfl, hcj, HBq⟩ := hrel
        by_cases hlt : j < t.size
        · obtain ⟨b, hb⟩ : ∃ b, b = t[j] := ⟨_, rfl⟩
          have hbl : t.data.toList[j]? = some b := by rw [hb, Array.getElem?_toList]; exact Array.getElem?_eq_getElem hlt
          have hbt := b.toNat_lt
          have HC : Hid (chkS h b = chkN (t.data.toList.take (j + 1))) := by show _ = _; rw [chkN_take hbl, ← hcj.out]
          have hlt2 := chkS_lt h b
          have HX : Hid (bits BinOp.xor IntKind.u32 ((h : Int) * 33 % 4294967296) ((b.toNat : Int) % 4294967296) = ((chkS h b : Nat) : Int)) := by
            show _ = _
            have e1 : ((h : Int) * 33 % 4294967296) = ((h * 33 % 4294967296 : Nat) : Int) := by omega
            have e2 : ((b.toNat : Int) % 4294967296) = ((b.toNat : Nat) : Int) := by omega
            rw [e1, e2, bits_xor_u32 _ _ (by omega) (by omega)]
            rfl
          have HB := hide hb
          clear hb hbl hcj hbt q3
          go_wp2
          rw [← HB.out, HX.out]
          go_roundw
          case rel => exact ⟨j + 1, chkS h b, hlt, hlt2, rfl, by go_num, HC, HBq⟩
          case measure => simp [RowKit.intOf]; omega
        · obtain rfl : j = t.size := by omega
          obtain rfl : h = chkN t.data.toList := by rw [hcj.out, HCk.out]
          clear hcj HCk q3
          have HFB := hide (HBW.out.trans (HBq.out.mono HBW.out.size))
          generalize chkN t.data.toList = ck at *
          generalize (⟨(decDigits ck).toArray⟩ : ByteArray) = D3 at *
          obtain ⟨t2, ht2⟩ : ∃ t2, t ++ (⟨#[35]⟩ : ByteArray) = t2 := ⟨_, rfl⟩
          obtain ⟨t3, ht3⟩ : ∃ t3, t2 ++ D3 = t3 := ⟨_, rfl⟩
          obtain ⟨t4, ht4⟩ : ∃ t4, t3 ++ (⟨#[10]⟩ : ByteArray) = t4 := ⟨_, rfl⟩
          have hz2 : t2.size = t.size + 1 := by rw [← ht2, ByteArray.size_append]; rfl
          have hz3 : t3.size = t2.size + D3.size := by rw [← ht3, ByteArray.size_append]
          have hz4 : t4.size = t3.size + 1 := by rw [← ht4, ByteArray.size_append]; rfl
          have ha2 := str_add t _ t2 ht2 (by omega)
          have ha3 := str_add t2 D3 t3 ht3 (by omega)
          have ha4 := str_add t3 _ t4 ht4 (by omega)
          rw [ht2, ht3, ht4] at HLN
          have hwr : IntKind.i64.wrap ((ck : Nat) : Int) = ((ck : Nat) : Int) := by rw [IntKind.wrap_i64]; omega
          clear ht2 ht3 ht4 hz2 hz3 hz4 l3 htl
          go_wp2_with fail
          refine (HD3.out wr).mono ?_
          rintro e V5 ⟨rfl, hb5⟩
          have HF := hide (HFB.out.trans (hb5.mono HFB.out.size))
          clear hb5
          go_wp2
          go_ret
          exact ⟨by rw [← HLN.out]; rfl, HF.out⟩

end Go.Proofs.YtffnfchekbafmaaGreatDoor

/- Rows that a call owns: kept, unlike, lower. -/
namespace Go.Proofs.YtffnfchekbafmaaGreatDoor
open Go.RowKit
set_option linter.unusedVariables false

theorem fr_block {w w' : World} {base e n : Nat} {v : Value} {xs : List Value} (h : w.ownsRow base e 1 v n xs) (hb : ∀ g, v.ownBlock = some g → w'.heap[g]? = w.heap[g]?) : w'.ownsRow base e 1 v n xs := by
  obtain ⟨h1, h2⟩ := h
  refine ⟨h1, ?_⟩
  rcases h2 with h2 | ⟨g, cap, cur, hv, hg, hh, r⟩
  · exact Or.inl h2
  · exact Or.inr ⟨g, cap, cur, hv, hg, (hb g (by rw [hv]; rfl)).trans hh, r⟩

/-- Rows of unlike elements are unlike blocks. -/
theorem fr_ty {w : World} {base base' e e' n m : Nat} {u v : Value} {xs ys : List Value} (h1 : w.ownsRow base e 1 u n xs) (h2 : w.ownsRow base' e' 1 v m ys) (he : e ≠ e') : ∀ g, u.ownBlock = some g → v.ownBlock ≠ some g := by
  intro g hu hv
  rcases h1.2 with ⟨rfl, _⟩ | ⟨g1, c1, cur1, rfl, _, hh1, _⟩
  · cases hu
  · rcases h2.2 with ⟨rfl, _⟩ | ⟨g2, c2, cur2, rfl, _, hh2, _⟩
    · cases hv
    · have e1 : g1 = g := by simpa [Value.ownBlock] using hu
      have e2 : g2 = g := by simpa [Value.ownBlock] using hv
      subst e1; subst e2
      rw [hh1] at hh2
      injection hh2 with hh2
      injection hh2 with _ e2 _
      exact he e2

theorem row_low {w : World} {base base' e n : Nat} {v : Value} {xs : List Value} (h : w.ownsRow base e 1 v n xs) (hb : base' ≤ base) : w.ownsRow base' e 1 v n xs := by
  obtain ⟨h1, h2⟩ := h
  refine ⟨h1, ?_⟩
  rcases h2 with h2 | ⟨g, cap, cur, hv, hg, r⟩
  · exact Or.inl h2
  · exact Or.inr ⟨g, cap, cur, hv, Nat.le_trans hb hg, r⟩

theorem row_form {w : World} {base e n : Nat} {v : Value} {xs : List Value} (h : w.ownsRow base e 1 v n xs) : ∃ p c, v = .slice p n c := by
  rcases h.2 with ⟨e, e2⟩ | ⟨g, c, cur, e, _⟩
  · exact ⟨_, _, by rw [e, e2]⟩
  · exact ⟨_, _, e⟩

end Go.Proofs.YtffnfchekbafmaaGreatDoor
