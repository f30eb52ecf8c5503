/- Joined: RpA, InP, InG, MuD. -/
import Derived.Test.YtfnmkbcdchnnnaaJ2
import Derived.Test.YtfnmkbcdchnnnaaJ0
import Derived.Shelf.Spec.SlicesInsert
import Derived.Laws.BitsLemmas
import Derived.Shelf.Spec.SlicesInsertGrow
import Derived.Deep.RegionHeld3
import Derived.Deep.Cut
/- Contracts: math/bits.Mul64, math/bits.Mul at 1 and a few; slices.Repeat of one bell. -/
namespace Go.Proofs.Ytfnmkbcdchnnnaa
open Go.RowKit Go.Lib
set_option maxRecDepth 20000

set_option maxHeartbeats 4000000 in
theorem mul64_few (k : Fin 13) (w : World) : Calls Try.prog 100 #[.int .u64 1, .int .u64 ((k.1 : Nat) : Int)] w fun e w' => e = .returned (.tuple #[.int .u64 0, .int .u64 ((k.1 : Nat) : Int)]) ∧ w' = w := by
  match k with
  | 0 | 1 | 2 | 3 | 4 | 5 | 6 | 7 | 8 | 9 | 10 | 11 | 12 =>
    go_enter Try.func100, Try.ntmps100
    go_wp2
    go_ret2
    exact ⟨rfl, rfl⟩

set_option maxHeartbeats 4000000 in
theorem mul_few (k : Nat) (w : World) (hk : k ≤ 12) : Calls Try.prog 88 #[.int .u64 1, .int .u64 k] w fun e w' => e = .returned (.tuple #[.int .u64 0, .int .u64 k]) ∧ w' = w := by
  have HM := hide (mul64_few ⟨k, by omega⟩ w)
  go_enter Try.func88, Try.ntmps88
  go_wp2_with fail
  refine HM.out.mono ?_
  rintro e w1 ⟨rfl, rfl⟩
  go_wp2
  go_ret2
  exact ⟨rfl, rfl⟩

/-- The first n are no bells. -/
structure RpRel (n k : Nat) (zs : List Int) : Prop where
  len : zs.length = k
  le : n ≤ k
  pos : 1 ≤ n ∨ k = 0
  all : ∀ j, j < n → zs.getD j 0 = -1

theorem RpRel.step {n k : Nat} {zs : List Int} (h : RpRel n k zs) (hlt : n < k) : RpRel (n + min (k - n) n) k (zs.take n ++ List.replicate (min (k - n) n) (-1) ++ zs.drop (n + min (k - n) n)) := by
  have h1 := h.len
  have h2 := h.pos
  refine ⟨by simp; omega, by omega, by omega, fun j hj => ?_⟩
  rcases Nat.lt_or_ge j n with h3 | h3
  · have := h.all j h3
    rw [List.getD_eq_getElem?_getD] at this ⊢
    rw [List.getElem?_append_left (by simp; omega), List.getElem?_append_left (by simp; omega), List.getElem?_take_of_lt h3]
    exact this
  · rw [List.getD_eq_getElem?_getD, List.getElem?_append_left (by simp; omega), List.getElem?_append_right (by simp; omega), List.getElem?_replicate_of_lt (by simp; omega)]
    rfl

theorem RpRel.done {n k : Nat} {zs : List Int} (h : RpRel n k zs) (hlt : ¬ n < k) : zs = List.replicate k (-1) := by
  have h1 := h.len
  have h2 := h.le
  apply List.ext_getElem
  · simp [h1]
  · intro i hi hi2
    have := h.all i (by omega)
    rw [List.getD_eq_getElem?_getD, List.getElem?_eq_getElem hi] at this
    simpa using this

set_option maxHeartbeats 8000000 in
theorem repeat_ok (g k : Nat) (w : World) (hk : k ≤ 12) (hx : w.heap[g]? = some (.cells #[.int .i64 (-1)] 3)) :
    Calls Try.prog 68 #[.slice (some ⟨g, 0, none⟩) 1 1, .int .i64 k] w fun e w' => ∃ v, e = .returned v ∧ w'.ownsRow w.heap.size 3 1 v k ((List.replicate k (-1 : Int)).map (Value.int .i64)) ∧ (∃ b, v = .slice (some ⟨b, 0, none⟩) k k) ∧ Below w.heap.size w w' := by
  obtain ⟨i0, hi, hz0, hz1, hz2⟩ := info_parts Try.info3
  have hsz : (Try.prog.info? 3).map (·.size) = some 1 := by rw [hi]; simp [hz1]
  have mixed : Try.prog.follows Departure.mixedOrders = true := by kernel_rfl
  have hglt : g < w.heap.size := (Array.getElem?_eq_some_iff.1 hx).1
  have HM := hide (mul_few k w hk)
  have hcv : IntKind.u64.wrap (k : Int) = (k : Int) := by rw [IntKind.wrap_u64]; omega
  have hcv2 : IntKind.i64.wrap (k : Int) = (k : Int) := by rw [IntKind.wrap_i64]; omega
  have hng : ¬ ((9223372036854775807 : Int) < (k : Int)) := by omega
  go_enter Try.func68, Try.ntmps68
  go_wp2_with fail
  refine HM.out.mono ?_
  rintro e w1 ⟨rfl, rfl⟩
  clear HM
  go_wp2_with (at_make; refine wpList_make_full _ rfl _ _ 60 rfl w1.heap.size 3 i0 (.int .i64 0) 1 Try.underlying60 hi hz0 hz1 _ _ _ _ k rfl rfl (by omega) (by omega) ?b2 ?b3 (Nat.le_refl _) ?_)
  case b2 => rw [hz2]; omega
  case b3 => unfold maxLen; omega
  intro w0 hown0 hgrow0
  rw [made_ints] at hown0
  have hB0 : Below w1.heap.size w1 w0 := (Below.refl _ _).grown hgrow0 (Nat.le_refl _) (fun k h => by cases h)
  have hx0 : w0.heap[g]? = some (.cells #[.int .i64 (-1)] 3) := by rw [hB0.block g hglt]; exact hx
  clear hgrow0
  have hcp0 := fun ty => run_copy_row (t := 60) (t' := 60) Try.underlying60 (o := 0) (dl := k) (dc := k) (sl := 1) (sc := 1) (cs := List.replicate (min 1 k) (-1)) (a := ⟨g, 0, none⟩) hown0 (fun j hj => by
    have h0 : j = 0 := by simp at hj; omega
    subst h0
    simp at hj
    have : (List.replicate (min 1 k) (-1 : Int)).getD 0 0 = -1 := by rw [List.getD_eq_getElem?_getD, List.getElem?_replicate_of_lt (by omega)]; rfl
    rw [this]
    simp [Addr.add, World.cell?, hx0]) (by simp [Nat.min_def]) (by simp; omega) ty
  have hown1 := owns_setCells_int hown0 (o := 0) (cs := List.replicate (min 1 k) (-1)) (by simp; omega)
  have hB1 : Below w1.heap.size w1 (w0.setCells w1.heap.size 0 ((List.replicate (min 1 k) (-1 : Int)).map (Value.int .i64))) := below_setCells hB0 (Nat.le_refl _) _ _
  have hr1 : RpRel (min 1 k) k ((List.replicate k (0 : Int)).take 0 ++ List.replicate (min 1 k) (-1) ++ (List.replicate k (0 : Int)).drop (0 + (List.replicate (min 1 k) (-1 : Int)).length)) := by
    refine ⟨by simp; omega, by omega, by omega, fun j hj => ?_⟩
    rw [List.getD_eq_getElem?_getD, List.getElem?_append_left (by simp; omega), List.getElem?_append_right (by simp), List.getElem?_replicate_of_lt (by simp; omega)]
    rfl
  generalize (List.replicate k (0 : Int)).take 0 ++ List.replicate (min 1 k) (-1) ++ (List.replicate k (0 : Int)).drop (0 + (List.replicate (min 1 k) (-1 : Int)).length) = z1 at *
  rw [List.length_replicate] at hcp0
  generalize w0.setCells w1.heap.size 0 ((List.replicate (min 1 k) (-1 : Int)).map (Value.int .i64)) = W1 at *
  have hm1 : min 1 k ≤ k := Nat.min_le_right _ _
  generalize min 1 k = n1 at *
  have HR1 := hide hr1
  clear hr1 hown0 hB0 hx0 hx
  unfold goInt at hcp0
  go_wp2_with (at_builtin; refine wpList_copy_runI _ rfl _ _ 60 60 rfl _ _ rfl rfl (hcp0 _) ?_)
  go_loopw [8] (fun i wr => ∃ (n : Nat) (zs : List Int), n ≤ k ∧ i = .int .i64 n ∧ Hid (RpRel n k zs) ∧ wr.ownsRow w1.heap.size 3 1 (.slice (some ⟨w1.heap.size, 0, none⟩) k k) k (zs.map (Value.int .i64)) ∧ Below w1.heap.size w1 wr) (fun i _ => k - (RowKit.intOf i).toNat)
  case atStart => exact ⟨n1, z1, hm1, rfl, HR1, hown1, hB1⟩
  case round =>
    obtain ⟨n, zs, hnk, rfl, hR, hown, hbw⟩ := hrel
    clear hcp0 hown1 hB1 HR1
    by_cases hlt : n < k
    · have hpos : 1 ≤ n := by have := hR.out.pos; omega
      have hmin : min (k - n) n ≤ 12 := by omega
      have hown' : wr.drew.ownsRow w1.heap.size 3 1 (.slice (some ⟨w1.heap.size, 0, none⟩) k k) k (zs.map (Value.int .i64)) := hown
      have hcp := fun ty => run_copy_row (t := 60) (t' := 60) Try.underlying60 (o := n) (dl := k - n) (dc := k - n) (sl := n) (sc := k) (cs := List.replicate (min (k - n) n) (-1)) (a := ⟨w1.heap.size, 0, none⟩) hown' (fun j hj => by
        have hj' : j < n := by simp at hj; omega
        have : (List.replicate (min (k - n) n) (-1 : Int)).getD j 0 = -1 := by rw [List.getD_eq_getElem?_getD, List.getElem?_replicate_of_lt (by simpa using hj)]; rfl
        rw [this, ← hR.out.all j hj', Addr.add_lit, Nat.zero_add]
        exact (owns_cell hown (by omega)).1) (by simp [Nat.min_comm]) (by simp; omega) ty
      have hown2 := owns_setCells_int hown' (o := n) (cs := List.replicate (min (k - n) n) (-1)) (by simp; omega)
      have hB2 : Below w1.heap.size w1 (wr.drew.setCells w1.heap.size n ((List.replicate (min (k - n) n) (-1 : Int)).map (Value.int .i64))) := below_setCells hbw.drew (Nat.le_refl _) _ _
      rw [List.length_replicate] at hcp hown2
      have HR2 := hide (hR.out.step hlt)
      unfold goInt at hcp
      have hkn : ¬ (k = n) := by omega
      generalize wr.drew.setCells w1.heap.size n ((List.replicate (min (k - n) n) (-1 : Int)).map (Value.int .i64)) = W2 at *
      have hmp : 1 ≤ min (k - n) n := by omega
      have hmk : n + min (k - n) n ≤ k := by omega
      generalize hgm : min (k - n) n = mm at *
      have hwp : IntKind.i64.wrap ((n : Int) + (mm : Int)) = (n : Int) + (mm : Int) := by rw [IntKind.wrap_i64]; omega
      clear hown'
      go_wp2
      go_region_law_o (refine step_copy_runI rfl _ _ 60 60 rfl _ _ (by simp [Act.eval, Act.put]) (by simp [Act.eval, Act.put]) (hcp _) ?_)
      all_goals
        go_wp2
        go_roundw
        case rel =>
          have hfin : ∃ (n' : Nat) (zs' : List Int), n' ≤ k ∧ Value.int .i64 ((n : Int) + (mm : Int)) = .int .i64 (n' : Int) ∧ Hid (RpRel n' k zs') ∧ W2.ownsRow w1.heap.size 3 1 (.slice (some ⟨w1.heap.size, 0, none⟩) k k) k (zs'.map (Value.int .i64)) ∧ Below w1.heap.size w1 W2 := ⟨n + mm, _, hmk, by go_num, HR2, hown2, hB2⟩
          first
            | exact hfin
            | ((repeat apply Exists.intro); exact ⟨hfin, rfl⟩)
        case measure => simp [Act.put, RowKit.intOf]; omega
    · have HD := hide (hR.out.done hlt)
      go_wp2
      go_ret
      refine ⟨_, rfl, ?_, ⟨_, rfl⟩, hbw⟩
      rw [← HD.out]
      exact hown

end Go.Proofs.Ytfnmkbcdchnnnaa

/- Contract: slices.Insert into a pattern of the call's own. -/
namespace Go.Proofs.Ytfnmkbcdchnnnaa
open Go.RowKit Go.Lib
set_option maxRecDepth 20000
set_option linter.unusedVariables false

theorem append_types {P : Program} {t tx e : TypeId} {i : TypeInfo} (ht : P.underlying t = some (.slice e)) (hx : P.underlying tx = some (.slice e)) (hi : P.info? e = some i) (ty : TypeId) (p q : Option Addr) (k c m d : Nat) (w : World) :
    (Builtin.append_ #[t, tx] ty #[.slice p k c, .slice q m d]).run P w = (Builtin.append_ #[t, t] ty #[.slice p k c, .slice q m d]).run P w := by
  simp [Builtin.append_, run_underlying ht, run_underlying hx, sizeOf, typeInfo, hi]

/-- What Insert leaves. -/
def InsPost (base : Nat) (pv : Value) (ps vs : List Int) (i : Nat) (w : World) (e : Ending) (w' : World) : Prop :=
  ∃ v, e = .returned v ∧ w'.ownsRow base 3 1 v (ps.length + vs.length) ((ps.take i ++ vs ++ ps.drop i).map (Value.int .i64)) ∧ w.grownBy w' pv.ownBlock

set_option maxHeartbeats 2000000 in
theorem insP_none (base i : Nat) (pv uv : Value) (ps : List Int) (w : World) (ho : w.ownsRow base 3 1 pv ps.length (ps.map (Value.int .i64))) (hl : ps.length ≤ 1000) (hu : ∃ q c, uv = .slice q 0 c) (hi : i ≤ ps.length) :
    Calls Try.prog 67 #[pv, .int .i64 i, uv] w (InsPost base pv ps [] i w) := by
  obtain ⟨q, c, rfl⟩ := hu
  have HF : Hid (InsPost base pv ps [] i w (.returned pv) w) := ⟨_, rfl, by rw [List.append_nil, List.take_append_drop]; exact ho, ⟨rfl, rfl, rfl, Nat.le_refl _, fun _ _ _ => rfl⟩⟩
  rcases ho.2 with ⟨rfl, h0⟩ | ⟨g, cap, cur, rfl, _, _, hnc, hm, _⟩
  · obtain rfl : i = 0 := by omega
    clear ho
    go_enter Try.func67, Try.ntmps67
    go_wp2
    go_ret
    exact HF.out
  · clear ho
    unfold maxLen at hm
    generalize ps.length = k at *
    by_cases hci : cap = i
    · subst hci
      go_enter Try.func67, Try.ntmps67
      go_wp2
      go_ret
      exact HF.out
    · go_enter Try.func67, Try.ntmps67
      go_wp2
      go_ret
      exact HF.out

set_option maxHeartbeats 4000000 in
theorem insP_end (base vb mc : Nat) (pv : Value) (ps vs : List Int) (w : World) (ho : w.ownsRow base 3 1 pv ps.length (ps.map (Value.int .i64))) (hl : ps.length ≤ 1000) (hb : base ≤ w.heap.size)
    (hv : ∀ j, j < vs.length → w.cell? ⟨vb, j, none⟩ = some (.int .i64 (vs.getD j 0))) (hm0 : 1 ≤ vs.length) (hm : vs.length ≤ 1000) :
    Calls Try.prog 67 #[pv, .int .i64 ps.length, .slice (some ⟨vb, 0, none⟩) vs.length mc] w (InsPost base pv ps vs ps.length w) := by
  obtain ⟨i0, hi, hz0, hz1, hz2⟩ := info_parts Try.info3
  obtain ⟨v', w', hr, hown', hgrow, _⟩ := run_append_own (P := Try.prog) w base 60 60 3 i0 (.int .i64 0) 1 8 Try.underlying60 hi hz0 hz1 hz2 rfl (by decide) pv ps.length (ps.map (Value.int .i64)) ho ⟨vb, 0, none⟩ vs.length mc (vs.map (Value.int .i64)) (by simp)
    (fun j u hj => by obtain ⟨h1, rfl⟩ := map_get_some hj; rw [Addr.add_lit, Nat.zero_add]; exact hv j h1) (fun u hu => by obtain ⟨z, _, rfl⟩ := List.mem_map.1 hu; rfl) (by unfold maxLen; omega) (by omega) hb
  have HF : Hid (InsPost base pv ps vs ps.length w (.returned v') w') := ⟨_, rfl, by rw [List.take_length, List.drop_length, List.append_nil, List.map_append]; exact hown', hgrow⟩
  obtain ⟨p, cap, rfl⟩ := owns_slice ho
  rw [← append_types Try.underlying60 Try.underlying24 hi] at hr
  have hcap : ps.length ≤ cap ∧ cap ≤ 9223372036854775807 ∧ (p = none → ps.length = 0 ∧ cap = 0) ∧ ∀ a, p = some a → ∃ g, a = ⟨g, 0, none⟩ := by
    rcases ho.2 with ⟨h2, h0⟩ | ⟨g, c2, cur, h2, _, _, hnc, hm, _⟩
    · injection h2 with e1 _ e3
      subst e1; subst e3
      exact ⟨by omega, by omega, (fun _ => ⟨h0, rfl⟩), (fun a h => by cases h)⟩
    · injection h2 with e1 _ e3
      subst e1; subst e3
      exact ⟨hnc, (by unfold maxLen at hm; omega), (fun h => by cases h), fun a h => ⟨g, (Option.some.inj h).symm⟩⟩
  clear ho hown' hgrow hv
  have hz : ¬ ((vs.length : Int) = 0) := by omega
  generalize vs.length = m at *
  obtain ⟨k1, k2, k3, k4⟩ := hcap
  cases p with
  | none =>
    obtain ⟨k5, rfl⟩ := k3 rfl
    generalize ps.length = k at *
    subst k5
    clear k3 k4
    go_enter Try.func67, Try.ntmps67
    go_wp2_with (at_builtin; refine Lib.wpList_append_run _ rfl _ _ _ _ rfl _ _ rfl rfl _ _ hr ?_)
    go_ret
    exact HF.out
  | some a =>
    obtain ⟨g, rfl⟩ := k4 a rfl
    generalize ps.length = k at *
    clear k3 k4
    by_cases hck : cap = k
    · subst hck
      go_enter Try.func67, Try.ntmps67
      go_wp2_with (at_builtin; refine Lib.wpList_append_run _ rfl _ _ _ _ rfl _ _ rfl rfl _ _ hr ?_)
      go_ret
      exact HF.out
    · go_enter Try.func67, Try.ntmps67
      go_wp2_with (at_builtin; refine Lib.wpList_append_run _ rfl _ _ _ _ rfl _ _ rfl rfl _ _ hr ?_)
      go_ret
      exact HF.out

theorem splice_take {A V D R : List Value} {i m k : Nat} {cur : List Value} (hcur : cur.take k = A ++ D) (hA : A.length = i) (hV : V.length = m) (hD : D.length = k - i) (hik : i ≤ k) (hc : k + m ≤ cur.length) :
    List.take (k + m) (List.take i (List.take (i + m) cur ++ D ++ List.drop (i + m + D.length) cur) ++ V ++ List.drop (i + V.length) (List.take (i + m) cur ++ D ++ List.drop (i + m + D.length) cur)) = A ++ V ++ D := by
  have h1 : List.take i (List.take (i + m) cur ++ D ++ List.drop (i + m + D.length) cur) = A := by
    rw [List.append_assoc, List.take_append_of_le_length (by simp; omega), List.take_take, Nat.min_eq_left (by omega)]
    have := congrArg (List.take i) hcur
    rw [List.take_take, Nat.min_eq_left hik, List.take_left' hA] at this
    exact this
  have h2 : List.drop (i + V.length) (List.take (i + m) cur ++ D ++ List.drop (i + m + D.length) cur) = D ++ List.drop (i + m + D.length) cur := by
    rw [List.append_assoc, hV, List.drop_left' (by simp; omega)]
  rw [h1, h2, ← List.append_assoc, List.take_left' (by simp; omega)]

set_option maxHeartbeats 8000000 in
theorem insP_shift (base g vb mc cap i : Nat) (ps vs : List Int) (w : World) (ho : w.ownsRow base 3 1 (.slice (some ⟨g, 0, none⟩) ps.length cap) ps.length (ps.map (Value.int .i64))) (hl : ps.length ≤ 1000)
    (hvb : w.heap[vb]? = some (.cells (vs.map (Value.int .i64)).toArray 3)) (hne : vb ≠ g) (hm0 : 1 ≤ vs.length) (hm : vs.length ≤ 1000) (hi : i < ps.length) (hroom : ps.length + vs.length ≤ cap) :
    Calls Try.prog 67 #[.slice (some ⟨g, 0, none⟩) ps.length cap, .int .i64 i, .slice (some ⟨vb, 0, none⟩) vs.length mc] w (InsPost base (.slice (some ⟨g, 0, none⟩) ps.length cap) ps vs i w) := by
  obtain ⟨i0, hi0, hz0, hz1, hz2⟩ := info_parts Try.info3
  have hsz : (Try.prog.info? 3).map (·.size) = some 1 := by rw [hi0]; simp [hz1]
  have hsize : ∀ w, (Go.sizeOf 3).run Try.prog w = .ok 1 w := fun w => by kernel_rfl
  have mixed : Try.prog.follows Departure.mixedOrders = true := by kernel_rfl
  rcases ho.2 with ⟨h2, _⟩ | ⟨g', cap', cur, hve, hbg, hh, hnc, hcm, hs, ht⟩
  · cases h2
  injection hve with e1 _ e3
  injection e1 with e1
  injection e1 with e1
  subst e1; subst e3
  have hs' : cur.size = cap := by rw [hs]; omega
  have hov : ∀ lb cb, (callFunc 86 #[.slice (some ⟨vb, 0, none⟩) vs.length mc, .slice (some ⟨g, 0 + (i + vs.length), none⟩) lb cb]).run Try.prog w = .ok (.value (.bool false)) w := fun lb cb => by
    rw [run_callFunc_extern Try.func86 (by kernel_rfl) (by kernel_rfl) (by kernel_rfl) (e := Extern.SlicesOverlaps.overlaps #[24, 24] #[4]) (by kernel_rfl),
      Lib.run_overlaps_apart w 24 4 3 Try.underlying24 1 hsize ⟨vb, 0, none⟩ ⟨g, 0 + (i + vs.length), none⟩ vs.length mc lb cb hne 3 3 vs.length cap (by simp [World.shape?, hvb]) (by simp [World.shape?, hh, hs']) (by omega) (by simp [World.frozen?, hvb]) (by simp [World.frozen?, hvb])]
    rfl
  have hcs : ∀ j v, (ps.map (Value.int .i64))[j]? = some v → w.cell? ⟨g, j, none⟩ = some v := by
    intro j v hj
    obtain ⟨hj', rfl⟩ := map_get_some hj
    exact (owns_cell ho hj').1
  have hsp : ∀ j, j < cap → (w.cell? ⟨g, j, none⟩).isSome = true := fun j hj => by
    have hj' : j < cur.size := by omega
    simp [World.cell?, hh, hj']
  have hfz : ∀ j, w.frozen? ⟨g, j, none⟩ = false := fun j => by simp [World.frozen?, hh]
  have hone : ∀ (l : List Int), ∀ v ∈ l.map (Value.int .i64), v.oneCell' = true := fun l v hv => by obtain ⟨z, _, rfl⟩ := List.mem_map.1 hv; rfl
  have hpl : (ps.map (Value.int .i64)).length = ps.length := List.length_map _
  have hvl : (vs.map (Value.int .i64)).length = vs.length := List.length_map _
  have hdl : ((ps.map (Value.int .i64)).drop i).length = ps.length - i := by rw [List.length_drop, hpl]
  have hvs : ∀ j v, (vs.map (Value.int .i64))[j]? = some v → w.cell? ⟨vb, j, none⟩ = some v := by
    intro j v hj
    simp [World.cell?, hvb]
    simpa using hj
  have hcp1 : ∀ ty dc sc, (Builtin.copy_ #[60, 60] ty #[.slice (some ⟨g, 0 + (i + vs.length), none⟩) (ps.length + vs.length - (i + vs.length)) dc, .slice (some ⟨g, 0 + i, none⟩) (ps.length + vs.length - i) sc]).run Try.prog w.drew = .ok (goInt ((ps.map (Value.int .i64)).drop i).length) (w.drew.setCells g (0 + (i + vs.length)) ((ps.map (Value.int .i64)).drop i)) := fun ty dc sc =>
    run_copy_cells w.drew _ _ ty 3 g (0 + (i + vs.length)) (ps.length + vs.length - (i + vs.length)) dc ⟨g, 0 + i, none⟩ (ps.length + vs.length - i) sc ((ps.map (Value.int .i64)).drop i) Try.underlying60 hsz (by rw [hdl]; simp only [Nat.min_def]; split <;> omega)
      (fun j v hj => by rw [Addr.add_lit, Nat.add_assoc, Nat.zero_add]; exact hcs (i + j) v (by rwa [List.getElem?_drop] at hj))
      (fun j hj => hsp _ (by omega)) (fun j hj => hfz _) (fun v hv => hone _ v (List.mem_of_mem_drop hv))
  obtain ⟨W1, hW1⟩ : ∃ W1, W1 = w.drew.setCells g (0 + (i + vs.length)) ((ps.map (Value.int .i64)).drop i) := ⟨_, rfl⟩
  have k1 : W1.heap[g]? = some (.cells (cur.toList.take (0 + (i + vs.length)) ++ (ps.map (Value.int .i64)).drop i ++ cur.toList.drop (0 + (i + vs.length) + ((ps.map (Value.int .i64)).drop i).length)).toArray 3) := by
    rw [hW1]; exact heap_setCells_row g 3 _ _ w.drew cur hh (by rw [hdl]; omega)
  have hwv : W1.heap[vb]? = some (.cells (vs.map (Value.int .i64)).toArray 3) := by rw [hW1, heap_setCells_off g _ _ _ vb hne]; exact hvb
  have hcp2 : ∀ ty dc, (Builtin.copy_ #[60, 24] ty #[.slice (some ⟨g, 0 + i, none⟩) (ps.length + vs.length - i) dc, .slice (some ⟨vb, 0, none⟩) vs.length mc]).run Try.prog W1 = .ok (goInt (vs.map (Value.int .i64)).length) (W1.setCells g (0 + i) (vs.map (Value.int .i64))) := fun ty dc =>
    run_copy_cells W1 _ _ ty 3 g (0 + i) (ps.length + vs.length - i) dc ⟨vb, 0, none⟩ vs.length mc (vs.map (Value.int .i64)) Try.underlying60 hsz (by rw [hvl]; simp only [Nat.min_def]; split <;> omega)
      (fun j v hj => by rw [Addr.add_lit, Nat.zero_add]; simp [World.cell?, hwv]; simpa using hj)
      (fun j hj => by
        have hj' : 0 + i + j < cur.size := by rw [hvl] at hj; omega
        have h9 : (cur.toList.take (0 + (i + vs.length)) ++ (ps.map (Value.int .i64)).drop i ++ cur.toList.drop (0 + (i + vs.length) + ((ps.map (Value.int .i64)).drop i).length)).length = cur.size := by simp; omega
        simp only [World.cell?, k1, List.getElem?_toArray]
        rw [List.getElem?_eq_getElem (by rw [h9]; exact hj')]
        rfl)
      (fun j hj => by simp [World.frozen?, k1]) (hone _)
  have k2 := heap_setCells_row g 3 (vs.map (Value.int .i64)) (0 + i) W1 _ k1 (by simp; omega)
  have HF : Hid (InsPost base (.slice (some ⟨g, 0, none⟩) ps.length cap) ps vs i w (.returned (.slice (some ⟨g, 0, none⟩) (ps.length + vs.length) cap)) (W1.setCells g (0 + i) (vs.map (Value.int .i64)))) := by
    refine ⟨_, rfl, ⟨by simp; omega, Or.inr ⟨g, cap, _, rfl, hbg, k2, hroom, hcm, by simp; omega, ?_⟩⟩, ?_⟩
    · rw [List.toList_toArray, List.toList_toArray, Nat.mul_one, List.map_append, List.map_append, List.map_take, List.map_drop, Nat.zero_add, Nat.zero_add]
      exact splice_take (A := (ps.map (Value.int .i64)).take i) (R := []) (k := ps.length) (by rw [List.take_append_drop, ← ht, Nat.mul_one]) (by simp; omega) hvl hdl (by omega) (by simp; omega)
    · rw [hW1]
      have r1 := rest_setCells g ((ps.map (Value.int .i64)).drop i) (0 + (i + vs.length)) w.drew
      have r2 := rest_setCells g (vs.map (Value.int .i64)) (0 + i) (w.drew.setCells g (0 + (i + vs.length)) ((ps.map (Value.int .i64)).drop i))
      refine ⟨r2.1.trans r1.1, r2.2.1.trans r1.2.1, r2.2.2.trans r1.2.2, ?_, fun k _ hk => ?_⟩
      · rw [size_setCells', size_setCells']; exact Nat.le_refl _
      · rw [heap_setCells_off g _ _ _ k (fun e => hk (by rw [e]; rfl)), heap_setCells_off g _ _ _ k (fun e => hk (by rw [e]; rfl))]; rfl
  rw [← hW1] at hcp1
  clear hW1 k1 k2 hwv hvs hcs hsp hfz hone hpl hdl hvl hs hs' ht hh hvb ho
  generalize (vs.map (Value.int .i64)) = V at *
  generalize (ps.map (Value.int .i64)).drop i = D at *
  generalize W1.setCells g (0 + i) V = W2 at *
  generalize vs.length = m at *
  generalize ps.length = n at *
  have hz1' : ¬ ((m : Int) = 0) := by omega
  have hz2' : ¬ ((i : Int) = (n : Int)) := by omega
  have hw1 : IntKind.i64.wrap ((i : Int) + (m : Int)) = (i : Int) + (m : Int) := by rw [IntKind.wrap_i64]; omega
  have hb1 : (0 : Int) ≤ (i : Int) + (m : Int) := by omega
  have hin : i ≤ n := by omega
  have htn : ((i : Int) + (m : Int)).toNat = i + m := by omega
  have hb2 : ¬ (cap = i + m) := by omega
  have hb3 : (i : Int) ≤ (n : Int) + (m : Int) := by omega
  have hb4 : ¬ (cap = i) := by omega
  unfold maxLen at hcm
  simp only [Nat.zero_add] at hov hcp1 hcp2
  go_enter Try.func67, Try.ntmps67
  go_wp2_with (simp only [hov])
  go_region_law_o (refine step_copy_runI rfl _ _ 60 60 rfl _ _ (by simp [Act.eval, Act.put]) (by simp [Act.eval, Act.put]) (hcp1 _ _ _) ?_)
  go_wp2_with (at_builtin; refine wpList_copy_runI _ rfl _ _ 60 24 rfl _ _ rfl rfl (hcp2 _ _) ?_)
  go_ret
  exact HF.out

end Go.Proofs.Ytfnmkbcdchnnnaa

/- Contract: slices.Insert into a pattern that has no room. -/
namespace Go.Proofs.Ytfnmkbcdchnnnaa
open Go.RowKit Go.Lib
set_option maxRecDepth 20000
set_option linter.unusedVariables false

theorem grow_take {A V D Z Y : List Value} {i m k C : Nat} (hA : A.length = i) (hV : V.length = m) (hD : D.length = k - i) (hik : i ≤ k) (hZ : Z.length = C - i) (hC : k + m ≤ C) (hY : Y = A ++ Z) :
    List.take (k + m) (List.take (i + m) (List.take i Y ++ V ++ List.drop (i + V.length) Y) ++ D ++ List.drop (i + m + D.length) (List.take i Y ++ V ++ List.drop (i + V.length) Y)) = A ++ V ++ D := by
  have h1 : List.take i Y = A := by rw [hY, List.take_left' hA]
  have h2 : List.take (i + m) (List.take i Y ++ V ++ List.drop (i + V.length) Y) = A ++ V := by
    rw [h1, List.take_left' (by simp; omega)]
  rw [h2, List.take_left' (by simp; omega)]

set_option maxHeartbeats 8000000 in
theorem insP_grow (base g vb mc cap i : Nat) (ps vs : List Int) (w : World) (ho : w.ownsRow base 3 1 (.slice (some ⟨g, 0, none⟩) ps.length cap) ps.length (ps.map (Value.int .i64))) (hl : ps.length ≤ 1000) (hb : base ≤ w.heap.size)
    (hvb : w.heap[vb]? = some (.cells (vs.map (Value.int .i64)).toArray 3)) (hm0 : 1 ≤ vs.length) (hm : vs.length ≤ 1000) (hi : i < ps.length) (hroom : cap < ps.length + vs.length) :
    Calls Try.prog 67 #[.slice (some ⟨g, 0, none⟩) ps.length cap, .int .i64 i, .slice (some ⟨vb, 0, none⟩) vs.length mc] w (InsPost base (.slice (some ⟨g, 0, none⟩) ps.length cap) ps vs i w) := by
  obtain ⟨i0, hi0, hz0, hz1, hz2⟩ := info_parts Try.info3
  have hsz : (Try.prog.info? 3).map (·.size) = some 1 := by rw [hi0]; simp [hz1]
  have mixed : Try.prog.follows Departure.mixedOrders = true := by kernel_rfl
  rcases ho.2 with ⟨h2, _⟩ | ⟨g', cap', cur, hve, hbg, hh, hnc, hcm, hs, ht⟩
  · cases h2
  injection hve with e1 _ e3
  injection e1 with e1
  injection e1 with e1
  subst e1; subst e3
  have hglt : g < w.heap.size := (Array.getElem?_eq_some_iff.1 hh).1
  have hvlt : vb < w.heap.size := (Array.getElem?_eq_some_iff.1 hvb).1
  have hcs : ∀ j v, (ps.map (Value.int .i64))[j]? = some v → w.cell? ⟨g, j, none⟩ = some v := by
    intro j v hj
    obtain ⟨hj', rfl⟩ := map_get_some hj
    exact (owns_cell ho hj').1
  have hone : ∀ (l : List Int), ∀ v ∈ l.map (Value.int .i64), v.oneCell' = true := fun l v hv => by obtain ⟨z, _, rfl⟩ := List.mem_map.1 hv; rfl
  have hpl : (ps.map (Value.int .i64)).length = ps.length := List.length_map _
  have hvl : (vs.map (Value.int .i64)).length = vs.length := List.length_map _
  have hdl : ((ps.map (Value.int .i64)).drop i).length = ps.length - i := by rw [List.length_drop, hpl]
  have hal : ((ps.map (Value.int .i64)).take i).length = i := by rw [List.length_take, hpl]; omega
  have hold : (Builtin.firstCells i0.size i (.slice (some ⟨g, 0, none⟩) i cap)).run Try.prog w.drew = .ok ((ps.map (Value.int .i64)).take i).toArray w.drew := by
    rw [hz1]
    exact run_firstCells_some w.drew 1 i ⟨g, 0, none⟩ i cap ((ps.map (Value.int .i64)).take i) (by omega) (fun j v hj => by
      rw [Addr.add_lit, Nat.zero_add]
      rw [List.getElem?_take] at hj
      split at hj
      · exact hcs j v hj
      · cases hj)
  have hik : i + (ps.length + vs.length - i) = ps.length + vs.length := by omega
  have hkk : (ps.length : Int) + (vs.length : Int) - (i : Int) = ((ps.length + vs.length - i : Nat) : Int) := by omega
  obtain ⟨C, hC⟩ : ∃ C, C = grownCap w (ps.length + vs.length) cap 3 := ⟨_, rfl⟩
  have hCge : ps.length + vs.length ≤ C := by rw [hC]; exact grownCap_ge w _ _ _
  have hCm : C ≤ maxLen := by rw [hC]; exact grownCap_le_maxLen w _ _ _ (by unfold maxLen; omega)
  obtain ⟨Z, hZ⟩ : ∃ Z : Array Value, Z = Builtin.zeroCells (Value.int .i64 0).cells (ps.length + vs.length - i) ++ Builtin.zeroCells (Value.int .i64 0).cells (C - (ps.length + vs.length)) := ⟨_, rfl⟩
  have hZl : Z.toList.length = C - i := by rw [hZ]; simp [Builtin.zeroCells, Value.cells]; omega
  obtain ⟨W1, hW1⟩ : ∃ W1, W1 = w.drew.alloc (.cells (((ps.map (Value.int .i64)).take i).toArray ++ Z) 3) := ⟨_, rfl⟩
  have hrz : ∀ ty, (Builtin.append_ #[60, 3] ty #[.slice (some ⟨g, 0, none⟩) i cap, .int .i64 ((ps.length : Int) + (vs.length : Int) - (i : Int))]).run Try.prog w = .ok (.slice (some ⟨w.heap.size, 0, none⟩) (ps.length + vs.length) C) W1 := fun ty => by
    have h := Lib.run_append_grow_zeros w 60 3 ty 3 i0 _ .i64 .i64 Try.underlying60 Try.underlying3 hi0 hz0 (some ⟨g, 0, none⟩) i cap ((ps.map (Value.int .i64)).take i) hold (ps.length + vs.length - i) (by omega) (by omega) (by omega) (by omega) (by rw [hz2]; omega) (by rw [hz2, hik]; exact growslice_fits hroom (by omega))
    rw [hik, ← hC] at h
    rw [hkk, h, hW1, hZ, Array.append_assoc]
  have hY : (((ps.map (Value.int .i64)).take i).toArray ++ Z).toList = (ps.map (Value.int .i64)).take i ++ Z.toList := by simp
  have k0 : W1.heap[w.heap.size]? = some (.cells (((ps.map (Value.int .i64)).take i).toArray ++ Z) 3) := by rw [hW1]; exact heap_alloc_new w.drew _
  have hYs : (((ps.map (Value.int .i64)).take i).toArray ++ Z).size = C := by
    have : (((ps.map (Value.int .i64)).take i).toArray ++ Z).toList.length = C := by rw [hY, List.length_append, hal, hZl]; omega
    simpa using this
  generalize hYY : (((ps.map (Value.int .i64)).take i).toArray ++ Z) = Y at *
  have hOb : ∀ k, k < w.heap.size → W1.heap[k]? = w.heap[k]? := fun k hk => by rw [hW1]; exact Below.heap_alloc w.drew _ k hk
  have hcpA : ∀ (W : World), W.heap = W1.heap → ∀ ty dc, (Builtin.copy_ #[60, 24] ty #[.slice (some ⟨w.heap.size, i, none⟩) (ps.length + vs.length - i) dc, .slice (some ⟨vb, 0, none⟩) vs.length mc]).run Try.prog W = .ok (goInt (vs.map (Value.int .i64)).length) (W.setCells w.heap.size i (vs.map (Value.int .i64))) := fun W hW ty dc =>
    run_copy_cells W _ _ ty 3 w.heap.size i (ps.length + vs.length - i) dc ⟨vb, 0, none⟩ vs.length mc (vs.map (Value.int .i64)) Try.underlying60 hsz (by rw [hvl]; simp only [Nat.min_def]; split <;> omega)
      (fun j v hj => by rw [Addr.add_lit, Nat.zero_add]; simp [World.cell?, hW, hOb vb hvlt, hvb]; simpa using hj)
      (fun j hj => by
        have hj' : i + j < Y.size := by rw [hvl] at hj; omega
        simp [World.cell?, hW, k0, hj'])
      (fun j hj => by simp [World.frozen?, hW, k0]) (hone _)
  obtain ⟨W2, hW2⟩ : ∃ W2, W2 = W1.setCells w.heap.size i (vs.map (Value.int .i64)) := ⟨_, rfl⟩
  have k1 := heap_setCells_row w.heap.size 3 (vs.map (Value.int .i64)) i W1 Y k0 (by rw [hvl]; omega)
  rw [← hW2] at k1
  have hOc : ∀ k, k < w.heap.size → W2.heap[k]? = w.heap[k]? := fun k hk => by rw [hW2, heap_setCells_off _ _ _ _ k (by omega)]; exact hOb k hk
  have hcpB : ∀ (W : World), W.heap = W2.heap → ∀ ty dc sc, (Builtin.copy_ #[60, 60] ty #[.slice (some ⟨w.heap.size, i + vs.length, none⟩) (ps.length + vs.length - (i + vs.length)) dc, .slice (some ⟨g, i, none⟩) (ps.length - i) sc]).run Try.prog W = .ok (goInt ((ps.map (Value.int .i64)).drop i).length) (W.setCells w.heap.size (i + vs.length) ((ps.map (Value.int .i64)).drop i)) := fun W hW ty dc sc =>
    run_copy_cells W _ _ ty 3 w.heap.size (i + vs.length) (ps.length + vs.length - (i + vs.length)) dc ⟨g, i, none⟩ (ps.length - i) sc ((ps.map (Value.int .i64)).drop i) Try.underlying60 hsz (by rw [hdl]; simp only [Nat.min_def]; split <;> omega)
      (fun j v hj => by
        rw [Addr.add_lit]
        have := hcs (i + j) v (by rwa [List.getElem?_drop] at hj)
        simp only [World.cell?, hW, hOc g hglt] at this ⊢
        exact this)
      (fun j hj => by
        rw [hdl] at hj
        have h9 : (List.take i Y.toList ++ vs.map (Value.int .i64) ++ List.drop (i + (vs.map (Value.int .i64)).length) Y.toList).length = Y.size := by simp; omega
        simp only [World.cell?, hW, k1, List.getElem?_toArray]
        rw [List.getElem?_eq_getElem (by rw [h9, hYs]; omega)]
        rfl)
      (fun j hj => by simp [World.frozen?, hW, k1]) (fun v hv => hone _ v (List.mem_of_mem_drop hv))
  have k2 : ∀ W : World, W.heap = W2.heap → (W.setCells w.heap.size (i + vs.length) ((ps.map (Value.int .i64)).drop i)).heap[w.heap.size]? = _ := fun W hW => heap_setCells_row w.heap.size 3 ((ps.map (Value.int .i64)).drop i) (i + vs.length) W _ (by rw [hW]; exact k1) (by simp; omega)
  have HF : Hid (∀ W : World, W.heap = W2.heap → W.os = w.os → W.tape = w.tape → W.output = w.output → InsPost base (.slice (some ⟨g, 0, none⟩) ps.length cap) ps vs i w (.returned (.slice (some ⟨w.heap.size, 0, none⟩) (ps.length + vs.length) C)) (W.setCells w.heap.size (i + vs.length) ((ps.map (Value.int .i64)).drop i))) := by
    intro W hW o1 o2 o3
    refine ⟨_, rfl, ⟨by simp; omega, Or.inr ⟨w.heap.size, C, _, rfl, hb, k2 W hW, hCge, hCm, by simp; omega, ?_⟩⟩, ?_⟩
    · rw [List.toList_toArray, List.toList_toArray, Nat.mul_one, List.map_append, List.map_append, List.map_take, List.map_drop]
      exact grow_take (A := (ps.map (Value.int .i64)).take i) (Z := Z.toList) (C := C) hal hvl hdl (by omega) hZl hCge hY
    · have r1 := rest_setCells w.heap.size ((ps.map (Value.int .i64)).drop i) (i + vs.length) W
      refine ⟨r1.1.trans o1, r1.2.1.trans o2, r1.2.2.trans o3, ?_, fun k hk _ => ?_⟩
      · rw [size_setCells', hW, hW2, size_setCells', hW1]
        show w.heap.size ≤ (w.drew.alloc _).heap.size
        simp
      · rw [heap_setCells_off _ _ _ _ k (by omega), hW]; exact hOc k hk
  have hw2s : W2.os = w.os ∧ W2.tape = w.tape ∧ W2.output = w.output := by
    have r1 := rest_setCells w.heap.size (vs.map (Value.int .i64)) i W1
    rw [hW2]
    refine ⟨r1.1.trans ?_, r1.2.1.trans ?_, r1.2.2.trans ?_⟩ <;> rw [hW1] <;> rfl
  have HFF := hide (HF.out W2.drew rfl hw2s.1 hw2s.2.1 hw2s.2.2)
  have hA := fun ty dc => hcpA W1 rfl ty dc
  rw [← hW2] at hA
  have hB := fun ty dc sc => hcpB W2.drew rfl ty dc sc
  clear hcpA hcpB HF hw2s hW1 hW2 k0 k1 k2 hOb hOc hold hcs hone hpl hdl hal hs ht hh hvb ho hY hYs hYY hZ hZl hik hC
  generalize (vs.map (Value.int .i64)) = V at *
  generalize (ps.map (Value.int .i64)).drop i = D at *
  generalize W2.drew.setCells w.heap.size (i + vs.length) D = W3 at *
  rw [hkk] at hrz
  generalize vs.length = m at *
  generalize ps.length = n at *
  have hz1' : ¬ ((m : Int) = 0) := by omega
  have hz2' : ¬ ((i : Int) = (n : Int)) := by omega
  have hz3 : (cap : Int) < (n : Int) + (m : Int) := by omega
  have hw1 : IntKind.i64.wrap ((i : Int) + (m : Int)) = (i : Int) + (m : Int) := by rw [IntKind.wrap_i64]; omega
  have hb1 : (0 : Int) ≤ (i : Int) + (m : Int) := by omega
  have hin : i ≤ n := by omega
  have htn : ((i : Int) + (m : Int)).toNat = i + m := by omega
  have hGi : ¬ (C = i) := by omega
  have hGim : ¬ (C = i + m) := by omega
  have hci : ¬ (cap = i) := by omega
  have hb3 : (i : Int) ≤ (n : Int) := by omega
  unfold maxLen at hcm hCm
  go_enter Try.func67, Try.ntmps67
  go_wp2_with (first
    | (at_builtin; refine Lib.wpList_append_run _ rfl _ _ _ _ rfl _ _ rfl rfl _ _ (hrz _) ?_)
    | (at_builtin; refine wpList_copy_runI _ rfl _ _ 60 24 rfl _ _ rfl rfl (hA _ _) ?_))
  go_region_law_o (refine step_copy_runI rfl _ _ 60 60 rfl _ _ (by simp [Act.eval, Act.put]) (by simp [Act.eval, Act.put]) (hB _ _ _) ?_)
  go_wp2
  go_ret
  exact HFF.out

end Go.Proofs.Ytfnmkbcdchnnnaa

/- Contract: the pattern reader's end. -/
namespace Go.Proofs.Ytfnmkbcdchnnnaa
open Go.RowKit
set_option maxRecDepth 20000
set_option linter.unusedVariables false

/-- Insert, whatever room there is: v is a row of the call's own, behind all of the pattern. -/
theorem insP_ok (base D i : Nat) (pv vv : Value) (ps vs : List Int) (w : World) (ho : w.ownsRow base 3 1 pv ps.length (ps.map (Value.int .i64))) (hb : base ≤ w.heap.size) (hpl : ∀ g, pv.ownBlock = some g → g < D)
    (hvo : w.ownsRow D 3 1 vv vs.length (vs.map (Value.int .i64))) (hvf : ∃ b, vv = .slice (some ⟨b, 0, none⟩) vs.length vs.length) (hl : ps.length ≤ 1000) (hm : vs.length ≤ 1000) (hi : i ≤ ps.length) :
    Calls Try.prog 67 #[pv, .int .i64 i, vv] w (InsPost base pv ps vs i w) := by
  obtain ⟨vb, rfl⟩ := hvf
  by_cases h0 : vs.length = 0
  · obtain rfl : vs = [] := List.length_eq_zero_iff.1 h0
    exact insP_none base i pv _ ps w ho hl ⟨_, _, rfl⟩ hi
  · by_cases hie : i = ps.length
    · subst hie
      exact insP_end base vb vs.length pv ps vs w ho hl hb (fun j hj => (owns_cell hvo hj).1) (by omega) hm
    · obtain ⟨g, cap, rfl, hg1, hg2⟩ := owns_form ho (by omega)
      have hvh : w.heap[vb]? = some (.cells (vs.map (Value.int .i64)).toArray 3) ∧ D ≤ vb := by
        rcases hvo.2 with ⟨h2, _⟩ | ⟨g', c', cur, hve, hbg, hh, hnc, hcm, hs, ht⟩
        · cases h2
        · injection hve with e1 _ e3
          injection e1 with e1
          injection e1 with e1
          subst e1; subst e3
          refine ⟨?_, hbg⟩
          rw [hh, ← ht, Nat.mul_one, List.take_of_length_le (by simp; omega)]
      have hne : vb ≠ g := by have := hpl g rfl; omega
      by_cases hroom : ps.length + vs.length ≤ cap
      · exact insP_shift base g vb vs.length cap i ps vs w ho hl hvh.1 hne (by omega) hm (by omega) hroom
      · exact insP_grow base g vb vs.length cap i ps vs w ho hl hb hvh.1 (by omega) hm (by omega) (by omega)

/-- What the end of a text leaves. -/
def PEnd (w : World) (R : Nat) (p : Int × List Int) (e : Ending) (w' : World) : Prop :=
  ∃ v, e = .returned (.tuple #[v, .int .i64 p.1]) ∧ Bel R w w' ∧ w'.ownsRow (R + 1) 3 1 v p.2.length (p.2.map (Value.int .i64))

set_option maxHeartbeats 4000000 in
theorem mend_no (R n : Nat) (pv : Value) (st : MP) (w : World) (h : PrAt w R n pv st) (hn : n ≤ 12) (hx : n < st.places.length ∨ st.places.length < n ∧ st.star = false) :
    Calls Try.prog 51 #[.pointer (some ⟨R, 0, none⟩)] w (PEnd w R (st.end_ n)) := by
  obtain ⟨p, c, rfl⟩ := owns_slice h.own
  have hf := h.fine.few
  have c0 := h.c0
  have c13 := h.c13
  have c14 := h.c14
  have HT : Hid (st.end_ n = (1, [])) := by show _ = _; unfold MP.end_; rw [if_pos hx]
  have hBW : ∀ N, Bel R w (w.drewN N) := fun N => ⟨⟨rfl, rfl, rfl, Nat.le_refl _, fun _ _ => rfl⟩, fun _ _ _ h => h⟩
  have HBW := hide hBW
  clear h hBW
  have HF : Hid (∀ N, PEnd w R (st.end_ n) (.returned (.tuple #[.slice none 0 0, .int .i64 1])) (w.drewN N)) := fun N => by
    rw [HT.out]; exact ⟨_, rfl, HBW.out N, World.ownsRow_nil _ _ _ _⟩
  clear HT HBW
  generalize st.end_ n = r at *
  generalize st.places.length = pl at *
  have hw : IntKind.i64.wrap ((n : Int) - (pl : Int)) = (n : Int) - (pl : Int) := by rw [IntKind.wrap_i64]; omega
  by_cases h1 : n < pl
  · have h1' : (n : Int) - (pl : Int) < 0 := by omega
    have h1d : (n : Int) < (pl : Int) := by omega
    go_enter Try.func51, Try.ntmps51
    go_wp2
    go_quiet (fail)
    go_wp2
    go_ret2
    exact HF.out _
  · have hs : st.star = false ∧ pl < n := hx.elim (fun h => absurd h h1) (fun h => ⟨h.2, h.1⟩)
    rw [hs.1] at c14
    have h1' : ¬ ((n : Int) - (pl : Int) < 0) := by omega
    have h2' : 0 < (n : Int) - (pl : Int) := by omega
    have h1d : ¬ (n : Int) < (pl : Int) := by omega
    have h2d : (pl : Int) < (n : Int) := by omega
    go_enter Try.func51, Try.ntmps51
    go_wp2
    go_quiet (fail)
    go_wp2
    go_ret2
    exact HF.out _

set_option maxHeartbeats 8000000 in
theorem mend_yes (R n : Nat) (pv : Value) (st : MP) (w : World) (h : PrAt w R n pv st) (hn : n ≤ 12) (hx : ¬ (n < st.places.length ∨ st.places.length < n ∧ st.star = false)) :
    Calls Try.prog 51 #[.pointer (some ⟨R, 0, none⟩)] w (PEnd w R (st.end_ n)) := by
  obtain ⟨p, c, rfl⟩ := owns_slice h.own
  have hf := h.fine.few
  have c0 := h.c0
  have c13 := h.c13
  have c14 := h.c14
  have hahl := h.fine.ahd
  have HT : Hid (st.end_ n = (0, st.places.take st.ahead ++ List.replicate (n - st.places.length) (-1) ++ st.places.drop st.ahead)) := by show _ = _; unfold MP.end_; rw [if_neg hx]
  have hBW0 : ∀ N, Bel R w (w.drewN N) := fun N => ⟨⟨rfl, rfl, rfl, Nat.le_refl _, fun _ _ => rfl⟩, fun _ _ _ h => h⟩
  have HBW := hide hBW0
  have H := hide h
  clear h hBW0
  have hpn : st.places.length ≤ n := by omega
  have hstar : st.places.length < n → st.star = true := fun h => by
    cases hs : st.star
    · exact absurd (Or.inr ⟨h, hs⟩) hx
    · rfl
  clear hx
  generalize hah : st.ahead = ah at *
  generalize hgl : st.places.length = pl at *
  generalize hmm : n - pl = m at *
  have hw : IntKind.i64.wrap ((n : Int) - (pl : Int)) = (m : Int) := by rw [IntKind.wrap_i64]; omega
  have hsub : (n : Int) - (pl : Int) = (m : Int) := by omega
  have hm12 : m ≤ 12 := by omega
  have hpm : pl + m = n := by omega
  have HPM := hide hpm
  clear hmm hpm
  rcases Nat.eq_zero_or_pos m with he | hlt
  · subst he
    clear hstar
    go_enter Try.func51, Try.ntmps51
    go_wp2
    go_quiet (fail)
    have hBW := HBW.out nq
    have HW := hide (show PrAt (w.drewN nq) R n (.slice p pl c) st from ⟨H.out.blk, H.out.own, H.out.fine⟩)
    clear HBW H
    have k14 : (w.drewN nq).cell? ⟨R, 14, none⟩ = _ := c14
    clear c0 c13 c14
    generalize w.drewN nq = W at *
    have k13 : W.cell? ⟨R, 13, none⟩ = some (.slice p pl c) := HW.out.c13
    have k15 : W.cell? ⟨R, 15, none⟩ = some (.int .i64 (ah : Int)) := by rw [← hah]; exact HW.out.c15
    have hb9 : Below W.heap.size W (W.drew.alloc (.cells #[.int .i64 (-1)] 3)) := (Below.refl W.heap.size W).drew.alloc (Nat.le_refl _) _
    have a13 : (W.drew.alloc (.cells #[.int .i64 (-1)] 3)).cell? ⟨R, 13, none⟩ = some (.slice p pl c) := (HW.out.later hb9).c13
    have a15 : (W.drew.alloc (.cells #[.int .i64 (-1)] 3)).cell? ⟨R, 15, none⟩ = some (.int .i64 (ah : Int)) := by rw [← hah]; exact (HW.out.later hb9).c15
    have HREP := hide (repeat_ok W.heap.size 0 (W.drew.alloc (.cells #[.int .i64 (-1)] 3)) (by omega) (heap_alloc_new W.drew _))
    go_upto_region 4 with fail
    refine wp_region_held_drew (S := fun W' => W'.cell? ⟨R, 13, none⟩ = some (.slice p pl c) ∧ W'.cell? ⟨R, 15, none⟩ = some (.int .i64 (ah : Int))) (by kernel_rfl) ⟨k13, k15⟩ (fun hS => ?_)
    refine wpAnyH_take (i := 0) (v := .pointer (some ⟨R, 0, none⟩)) rfl (by kernel_rfl) (by kernel_rfl) (by kernel_rfl) (fun _ _ _ h => h) (Or.inl ⟨by kernel_rfl, fun w' hS' => by obtain ⟨q0, q1⟩ := hS'; go_simp⟩) hS ?_
    refine wpAnyH_take (i := 1) (v := .pointer (some ⟨R, 0, none⟩)) rfl (by kernel_rfl) (by kernel_rfl) (by kernel_rfl) (fun _ _ _ h => h) (Or.inl ⟨by kernel_rfl, fun w' hS' => by obtain ⟨q0, q1⟩ := hS'; go_simp⟩) hS ?_
    refine wpAnyH_take (i := 2) (v := .pointer (some ⟨R, 13, none⟩)) rfl (by kernel_rfl) (by kernel_rfl) (by kernel_rfl) (fun _ _ _ h => h) (Or.inl ⟨by kernel_rfl, fun w' hS' => by obtain ⟨q0, q1⟩ := hS'; go_simp⟩) hS ?_
    refine wpAnyH_take (i := 3) (v := .slice p pl c) rfl (by kernel_rfl) (by kernel_rfl) (by kernel_rfl) (fun _ _ _ h => h) (Or.inl ⟨by kernel_rfl, fun w' hS' => by obtain ⟨q0, q1⟩ := hS'; go_simp⟩) hS ?_
    refine wpAnyH_take (i := 4) (v := .pointer (some ⟨R, 0, none⟩)) rfl (by kernel_rfl) (by kernel_rfl) (by kernel_rfl) (fun _ _ _ h => h) (Or.inl ⟨by kernel_rfl, fun w' hS' => by obtain ⟨q0, q1⟩ := hS'; go_simp⟩) hS ?_
    refine wpAnyH_take (i := 5) (v := .pointer (some ⟨R, 0, none⟩)) rfl (by kernel_rfl) (by kernel_rfl) (by kernel_rfl) (fun _ _ _ h => h) (Or.inl ⟨by kernel_rfl, fun w' hS' => by obtain ⟨q0, q1⟩ := hS'; go_simp⟩) hS ?_
    refine wpAnyH_take (i := 6) (v := .pointer (some ⟨R, 15, none⟩)) rfl (by kernel_rfl) (by kernel_rfl) (by kernel_rfl) (fun _ _ _ h => h) (Or.inl ⟨by kernel_rfl, fun w' hS' => by obtain ⟨q0, q1⟩ := hS'; go_simp⟩) hS ?_
    refine wpAnyH_take (i := 7) (v := .int .i64 (ah : Int)) rfl (by kernel_rfl) (by kernel_rfl) (by kernel_rfl) (fun _ _ _ h => h) (Or.inl ⟨by kernel_rfl, fun w' hS' => by obtain ⟨q0, q1⟩ := hS'; go_simp⟩) hS ?_
    refine wpAnyH_take (i := 9) (v := .int .i64 0) rfl (by kernel_rfl) (by kernel_rfl) (by kernel_rfl) (fun _ _ _ h => h) (Or.inl ⟨by kernel_rfl, fun w' hS' => by obtain ⟨q0, q1⟩ := hS'; go_simp⟩) hS ?_
    refine wpAnyH_ready (rs := [8]) (by kernel_rfl) (by simp) ?_
    refine AllReadyH.cons rfl (fun K hK => ?_) AllReadyH.nil
    go_simp
    refine hK.out _ _ ⟨a13, a15⟩ (fun hS => ?_)
    clear hK
    refine wpAnyH_ready (rs := [10]) (by kernel_rfl) (by simp) ?_
    refine AllReadyH.cons rfl (fun K hK => ?_) AllReadyH.nil
    go_simp
    refine HREP.out.mono ?_
    rintro e w2 ⟨v2, rfl, hown2, ⟨vb2, rfl⟩, hb2⟩
    have hb2' := (Below.refl (W.drew.heap.size) W.drew).alloc (Nat.le_refl _) (.cells #[.int .i64 (-1)] 3)
    have hB2 : Below W.heap.size W w2 := ((Below.refl W.heap.size W).drew.alloc (Nat.le_refl _) (.cells #[.int .i64 (-1)] 3)).trans (hb2.mono (by simp))
    have HPR2 := hide (HW.out.later hB2)
    have d13 : w2.cell? ⟨R, 13, none⟩ = some (.slice p pl c) := HPR2.out.c13
    have d15 : w2.cell? ⟨R, 15, none⟩ = some (.int .i64 (ah : Int)) := by rw [← hah]; exact HPR2.out.c15
    refine hK.out _ _ ⟨d13, d15⟩ (fun hS => ?_)
    clear hK
    have HINS := hide (insP_ok (R + 1) W.heap.size ah (.slice p pl c) (.slice (some ⟨vb2, 0, none⟩) 0 0) st.places (List.replicate 0 (-1)) w2 HPR2.out.own HPR2.out.lt (fun g hg => (HW.out.own.lt g hg).2) (by
      rw [List.length_replicate]
      exact owns_base hown2 (by simp)) ⟨vb2, by rw [List.length_replicate]⟩ (by omega) (by rw [List.length_replicate]; omega) (by rw [hgl]; omega))
    refine wpAnyH_ready (rs := [11]) (by kernel_rfl) (by simp) ?_
    refine AllReadyH.cons rfl (fun K hK => ?_) AllReadyH.nil
    go_simp
    refine HINS.out.mono ?_
    rintro e w3 ⟨v3, rfl, hown3, hg3⟩
    have hB3 : Bel R w2 w3 := Bel.grown HPR2.out.own (Nat.le_refl _) (Nat.le_of_lt HPR2.out.lt) hg3
    have hR3 : w3.heap[R]? = w2.heap[R]? := hg3.block R HPR2.out.lt (fun e => by have := (HPR2.out.own.lt R e.symm).1; omega)
    refine hK.out _ _ ⟨?_, ?_⟩ (fun hS => ?_)
    · simp only [World.cell?, hR3] at d13 ⊢; exact d13
    · simp only [World.cell?, hR3] at d15 ⊢; exact d15
    clear hK
    have HFin : Hid (PEnd w R (st.end_ n) (.returned (.tuple #[v3, .int .i64 0])) w3) := by
      rw [HT.out]
      refine ⟨v3, rfl, (hBW.trans (Bel.of hB2 (Nat.le_of_lt HW.out.lt))).trans hB3, ?_⟩
      rw [List.length_replicate, hgl] at hown3
      have hlen : (st.places.take ah ++ List.replicate 0 (-1 : Int) ++ st.places.drop ah).length = pl + 0 := by simp; omega
      rw [hlen]
      exact hown3
    obtain ⟨p3, c3, rfl⟩ := owns_slice hown3
    refine wpAnyH_take (i := 12) (v := .slice p3 (st.places.length + (List.replicate 0 (-1 : Int)).length) c3) rfl (by kernel_rfl) (by kernel_rfl) (by kernel_rfl) (fun _ _ _ h => h) (Or.inl ⟨by kernel_rfl, fun w' hS' => by obtain ⟨q0, q1⟩ := hS'; go_simp⟩) hS ?_
    refine wpAnyH_take (i := 13) (v := .int .i64 0) rfl (by kernel_rfl) (by kernel_rfl) (by kernel_rfl) (fun _ _ _ h => h) (Or.inl ⟨by kernel_rfl, fun w' hS' => by obtain ⟨q0, q1⟩ := hS'; go_simp⟩) hS ?_
    refine wpAnyH_done (by kernel_rfl) ?_ _
    clear HINS HREP hown2 hown3 hg3 hB3 hb2 hb2'
    go_wp2
    go_ret2
    exact HFin.out
  · have h2' : 0 < (m : Int) := by omega
    have h1' : ¬ ((m : Int) < 0) := by omega
    rw [hstar (by have := HPM.out; omega)] at c14
    clear hstar
    go_enter Try.func51, Try.ntmps51
    go_wp2
    go_quiet (fail)
    have hBW := HBW.out nq
    have HW := hide (show PrAt (w.drewN nq) R n (.slice p pl c) st from ⟨H.out.blk, H.out.own, H.out.fine⟩)
    clear HBW H
    have k14 : (w.drewN nq).cell? ⟨R, 14, none⟩ = _ := c14
    clear c0 c13 c14
    generalize w.drewN nq = W at *
    have k13 : W.cell? ⟨R, 13, none⟩ = some (.slice p pl c) := HW.out.c13
    have k15 : W.cell? ⟨R, 15, none⟩ = some (.int .i64 (ah : Int)) := by rw [← hah]; exact HW.out.c15
    have hb9 : Below W.heap.size W (W.drew.alloc (.cells #[.int .i64 (-1)] 3)) := (Below.refl W.heap.size W).drew.alloc (Nat.le_refl _) _
    have a13 : (W.drew.alloc (.cells #[.int .i64 (-1)] 3)).cell? ⟨R, 13, none⟩ = some (.slice p pl c) := (HW.out.later hb9).c13
    have a15 : (W.drew.alloc (.cells #[.int .i64 (-1)] 3)).cell? ⟨R, 15, none⟩ = some (.int .i64 (ah : Int)) := by rw [← hah]; exact (HW.out.later hb9).c15
    have HREP := hide (repeat_ok W.heap.size m (W.drew.alloc (.cells #[.int .i64 (-1)] 3)) (by omega) (heap_alloc_new W.drew _))
    go_upto_region 4 with fail
    refine wp_region_held_drew (S := fun W' => W'.cell? ⟨R, 13, none⟩ = some (.slice p pl c) ∧ W'.cell? ⟨R, 15, none⟩ = some (.int .i64 (ah : Int))) (by kernel_rfl) ⟨k13, k15⟩ (fun hS => ?_)
    refine wpAnyH_take (i := 0) (v := .pointer (some ⟨R, 0, none⟩)) rfl (by kernel_rfl) (by kernel_rfl) (by kernel_rfl) (fun _ _ _ h => h) (Or.inl ⟨by kernel_rfl, fun w' hS' => by obtain ⟨q0, q1⟩ := hS'; go_simp⟩) hS ?_
    refine wpAnyH_take (i := 1) (v := .pointer (some ⟨R, 0, none⟩)) rfl (by kernel_rfl) (by kernel_rfl) (by kernel_rfl) (fun _ _ _ h => h) (Or.inl ⟨by kernel_rfl, fun w' hS' => by obtain ⟨q0, q1⟩ := hS'; go_simp⟩) hS ?_
    refine wpAnyH_take (i := 2) (v := .pointer (some ⟨R, 13, none⟩)) rfl (by kernel_rfl) (by kernel_rfl) (by kernel_rfl) (fun _ _ _ h => h) (Or.inl ⟨by kernel_rfl, fun w' hS' => by obtain ⟨q0, q1⟩ := hS'; go_simp⟩) hS ?_
    refine wpAnyH_take (i := 3) (v := .slice p pl c) rfl (by kernel_rfl) (by kernel_rfl) (by kernel_rfl) (fun _ _ _ h => h) (Or.inl ⟨by kernel_rfl, fun w' hS' => by obtain ⟨q0, q1⟩ := hS'; go_simp⟩) hS ?_
    refine wpAnyH_take (i := 4) (v := .pointer (some ⟨R, 0, none⟩)) rfl (by kernel_rfl) (by kernel_rfl) (by kernel_rfl) (fun _ _ _ h => h) (Or.inl ⟨by kernel_rfl, fun w' hS' => by obtain ⟨q0, q1⟩ := hS'; go_simp⟩) hS ?_
    refine wpAnyH_take (i := 5) (v := .pointer (some ⟨R, 0, none⟩)) rfl (by kernel_rfl) (by kernel_rfl) (by kernel_rfl) (fun _ _ _ h => h) (Or.inl ⟨by kernel_rfl, fun w' hS' => by obtain ⟨q0, q1⟩ := hS'; go_simp⟩) hS ?_
    refine wpAnyH_take (i := 6) (v := .pointer (some ⟨R, 15, none⟩)) rfl (by kernel_rfl) (by kernel_rfl) (by kernel_rfl) (fun _ _ _ h => h) (Or.inl ⟨by kernel_rfl, fun w' hS' => by obtain ⟨q0, q1⟩ := hS'; go_simp⟩) hS ?_
    refine wpAnyH_take (i := 7) (v := .int .i64 (ah : Int)) rfl (by kernel_rfl) (by kernel_rfl) (by kernel_rfl) (fun _ _ _ h => h) (Or.inl ⟨by kernel_rfl, fun w' hS' => by obtain ⟨q0, q1⟩ := hS'; go_simp⟩) hS ?_
    refine wpAnyH_take (i := 9) (v := .int .i64 (m : Int)) rfl (by kernel_rfl) (by kernel_rfl) (by kernel_rfl) (fun _ _ _ h => h) (Or.inl ⟨by kernel_rfl, fun w' hS' => by obtain ⟨q0, q1⟩ := hS'; go_simp⟩) hS ?_
    refine wpAnyH_ready (rs := [8]) (by kernel_rfl) (by simp) ?_
    refine AllReadyH.cons rfl (fun K hK => ?_) AllReadyH.nil
    go_simp
    refine hK.out _ _ ⟨a13, a15⟩ (fun hS => ?_)
    clear hK
    refine wpAnyH_ready (rs := [10]) (by kernel_rfl) (by simp) ?_
    refine AllReadyH.cons rfl (fun K hK => ?_) AllReadyH.nil
    go_simp
    refine HREP.out.mono ?_
    rintro e w2 ⟨v2, rfl, hown2, ⟨vb2, rfl⟩, hb2⟩
    have hb2' := (Below.refl (W.drew.heap.size) W.drew).alloc (Nat.le_refl _) (.cells #[.int .i64 (-1)] 3)
    have hB2 : Below W.heap.size W w2 := ((Below.refl W.heap.size W).drew.alloc (Nat.le_refl _) (.cells #[.int .i64 (-1)] 3)).trans (hb2.mono (by simp))
    have HPR2 := hide (HW.out.later hB2)
    have d13 : w2.cell? ⟨R, 13, none⟩ = some (.slice p pl c) := HPR2.out.c13
    have d15 : w2.cell? ⟨R, 15, none⟩ = some (.int .i64 (ah : Int)) := by rw [← hah]; exact HPR2.out.c15
    refine hK.out _ _ ⟨d13, d15⟩ (fun hS => ?_)
    clear hK
    have HINS := hide (insP_ok (R + 1) W.heap.size ah (.slice p pl c) (.slice (some ⟨vb2, 0, none⟩) m m) st.places (List.replicate m (-1)) w2 HPR2.out.own HPR2.out.lt (fun g hg => (HW.out.own.lt g hg).2) (by
      rw [List.length_replicate]
      exact owns_base hown2 (by simp)) ⟨vb2, by rw [List.length_replicate]⟩ (by omega) (by rw [List.length_replicate]; omega) (by rw [hgl]; omega))
    refine wpAnyH_ready (rs := [11]) (by kernel_rfl) (by simp) ?_
    refine AllReadyH.cons rfl (fun K hK => ?_) AllReadyH.nil
    go_simp
    refine HINS.out.mono ?_
    rintro e w3 ⟨v3, rfl, hown3, hg3⟩
    have hB3 : Bel R w2 w3 := Bel.grown HPR2.out.own (Nat.le_refl _) (Nat.le_of_lt HPR2.out.lt) hg3
    have hR3 : w3.heap[R]? = w2.heap[R]? := hg3.block R HPR2.out.lt (fun e => by have := (HPR2.out.own.lt R e.symm).1; omega)
    refine hK.out _ _ ⟨?_, ?_⟩ (fun hS => ?_)
    · simp only [World.cell?, hR3] at d13 ⊢; exact d13
    · simp only [World.cell?, hR3] at d15 ⊢; exact d15
    clear hK
    have HFin : Hid (PEnd w R (st.end_ n) (.returned (.tuple #[v3, .int .i64 0])) w3) := by
      rw [HT.out]
      refine ⟨v3, rfl, (hBW.trans (Bel.of hB2 (Nat.le_of_lt HW.out.lt))).trans hB3, ?_⟩
      rw [List.length_replicate, hgl] at hown3
      have hlen : (st.places.take ah ++ List.replicate m (-1 : Int) ++ st.places.drop ah).length = pl + m := by simp; omega
      rw [hlen]
      exact hown3
    obtain ⟨p3, c3, rfl⟩ := owns_slice hown3
    refine wpAnyH_take (i := 12) (v := .slice p3 (st.places.length + (List.replicate m (-1 : Int)).length) c3) rfl (by kernel_rfl) (by kernel_rfl) (by kernel_rfl) (fun _ _ _ h => h) (Or.inl ⟨by kernel_rfl, fun w' hS' => by obtain ⟨q0, q1⟩ := hS'; go_simp⟩) hS ?_
    refine wpAnyH_take (i := 13) (v := .int .i64 0) rfl (by kernel_rfl) (by kernel_rfl) (by kernel_rfl) (fun _ _ _ h => h) (Or.inl ⟨by kernel_rfl, fun w' hS' => by obtain ⟨q0, q1⟩ := hS'; go_simp⟩) hS ?_
    refine wpAnyH_done (by kernel_rfl) ?_ _
    clear HINS HREP hown2 hown3 hg3 hB3 hb2 hb2'
    go_wp2
    go_ret2
    exact HFin.out

end Go.Proofs.Ytfnmkbcdchnnnaa
