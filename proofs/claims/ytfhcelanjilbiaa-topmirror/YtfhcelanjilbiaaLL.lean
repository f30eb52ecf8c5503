/- Lists of lists that a call makes, one list behind the other. Contract: ChangesOf. -/
import Derived.Test.YtfhcelanjilbiaaMeth
namespace Go.Proofs.Ytfhcelanjilbiaa
open Go.RowKit

/-- A list of lists that the call owns, all its lists too. -/
structure LL (w : World) (base : Nat) (v : Value) (vs : List Value) (xss : List (List Int)) : Prop where
  row : w.ownsRow base 22 1 v vs.length vs
  all : OwnAll w base vs xss

theorem LL.nil (w : World) (base : Nat) : LL w base (.slice none 0 0) [] [] := ⟨World.ownsRow_nil _ _ _ _, trivial⟩

theorem LL.len {w : World} {base : Nat} {v : Value} {vs : List Value} {xss : List (List Int)} (h : LL w base v vs xss) : vs.length = xss.length := OwnAll.length h.all

theorem LL.ints {w : World} {base : Nat} {v : Value} {vs : List Value} {xss : List (List Int)} (h : LL w base v vs xss) : IntsAll w v xss := IntsAll.own h.row h.all

theorem LL.below {w w' : World} {base : Nat} {v : Value} {vs : List Value} {xss : List (List Int)} (h : LL w base v vs xss) (hb : Below w.heap.size w w') : LL w' base v vs xss :=
  ⟨owns_below h.row hb (Nat.le_refl _), h.all.mono (fun _ _ _ h' => owns_below h' hb (Nat.le_refl _))⟩

theorem LL.low {w : World} {base base' : Nat} {v : Value} {vs : List Value} {xss : List (List Int)} (h : LL w base v vs xss) (hb : base' ≤ base) : LL w base' v vs xss := by
  refine ⟨owns_base h.row hb, ?_⟩
  have ha := h.all
  clear h
  induction vs generalizing xss with
  | nil => cases xss with
    | nil => trivial
    | cons x xs => exact ha.elim
  | cons u us ih => cases xss with
    | nil => exact ha.elim
    | cons x xs => exact ⟨owns_base ha.1 hb, ih ha.2⟩

theorem LL.push {w w4 : World} {base : Nat} {v v' u : Value} {vs : List Value} {xss : List (List Int)} {X : List Int} {o : Obj} (h : LL w base v vs xss) (hu : w.ownsRow base 3 1 u X.length (X.map (Value.int .i64)))
    (hown : w4.ownsRow base 22 1 v' (vs.length + 1) (vs ++ [u])) (hg : (w.alloc o).grownBy w4 v.ownBlock) : LL w4 base v' (vs ++ [u]) (xss ++ [X]) :=
  ⟨by rw [List.length_append]; exact hown, OwnAll.snoc (owns_kept_ty (hu.alloc o) (h.row.alloc o) hg) (h.all.mono (fun _ _ _ h' => owns_kept_ty (h'.alloc o) (h.row.alloc o) hg))⟩

theorem LL.kept {w w4 : World} {base n : Nat} {v u : Value} {vs ys : List Value} {xss : List (List Int)} {o : Obj} (h : LL w base v vs xss) (hu : w.ownsRow base 3 1 u n ys) (hg : (w.alloc o).grownBy w4 v.ownBlock) : w4.ownsRow base 3 1 u n ys :=
  owns_kept_ty (hu.alloc o) (h.row.alloc o) hg

theorem LL.step {w0 w w4 : World} {base B : Nat} {v : Value} {vs : List Value} {xss : List (List Int)} {o : Obj} (h : LL w base v vs xss) (hB : Below B w0 w) (hb : B ≤ base) (hs : B ≤ w.heap.size) (hg : (w.alloc o).grownBy w4 v.ownBlock) : Below B w0 w4 :=
  (hB.alloc hs _).grown hg (by simp; omega) (fun g hg' => Nat.le_trans hb (h.row.lt g hg').1)

/-- The list of one list. -/
theorem LL.one {w : World} {base : Nat} {u : Value} {X : List Int} (hu : w.ownsRow base 3 1 u X.length (X.map (Value.int .i64))) (hb : base ≤ w.heap.size) : LL (w.alloc (.cells #[u] 22)) base (.slice (some ⟨w.heap.size, 0, none⟩) 1 1) [u] [X] :=
  ⟨World.ownsRow_lit w #[u] 1 hb (by unfold maxLen; omega) rfl, ⟨hu.alloc _, trivial⟩⟩

set_option maxRecDepth 20000 in
set_option maxHeartbeats 2000000 in
theorem changesOf_ok (v : Value) (xs : List Int) (f n m : Nat) (w : World) (h : Ints w v xs) (hx : ∀ x, x ∈ xs → I64 x) (hf : f ≤ 1000) (h1 : 1 ≤ n) (h12 : n ≤ 12) (hm : m ≤ 1000) :
    Calls Try.prog 44 #[v, .int .i64 f, .int .i64 n, .int .i64 m] w fun e w' => ∃ (u : Value) (vs : List Value) (ts : List (List Bool)), e = .returned u ∧ ts.length = m ∧ (∀ t, t ∈ ts → tsz t = n) ∧ LL w' w.heap.size u vs (ts.map tpl) ∧ Below w.heap.size w w' := by
  obtain ⟨i0, hi, hz0, hz1, hz2⟩ := info_parts Try.info22
  have HI := hide h
  have HX := hide hx
  clear h hx
  go_enter Try.func44, Try.ntmps44
  go_wp2
  go_loopw [9, 10] (fun u i wr => ∃ (k : Nat) (vs : List Value) (ts : List (List Bool)), k ≤ m ∧ i = .int .i64 k ∧ Hid (ts.length = k) ∧ Hid (vs.length = k) ∧ Hid (∀ t, t ∈ ts → tsz t = n) ∧ Hid (LL wr w.heap.size u vs (ts.map tpl)) ∧ Below w.heap.size w wr) (fun _ i _ => m - (intOf i).toNat)
  case atStart => exact ⟨0, [], [], by omega, rfl, rfl, rfl, (fun t ht => by cases ht), LL.nil _ _, Below.refl _ _⟩
  case round =>
    obtain ⟨k, vs, ts, hk, rfl, hl, hlv, hts, hL, hbw⟩ := hrel
    have hbs := hbw.size
    by_cases hlt : k < m
    · have e1 : (f : Int) + (k : Int) = ((f + k : Nat) : Int) := by omega
      have HRaw1 := hide (raw_any v xs (f + k) wr (HI.out.below hbw) HX.out (by omega))
      rw [← e1] at HRaw1
      clear e1
      go_wp2_with fail
      refine HRaw1.out.mono ?_
      rintro e wa ⟨x1, hx1, rfl, rfl⟩
      go_wp2_with fail
      refine (changeOf_ok x1 n _ hx1 h1 h12).mono ?_
      rintro e w1 ⟨u, t, rfl, ht, ho, hb1⟩
      have hL1 := hL.out.below hb1
      have hrow1 := hL1.row
      have hou := owns_base ho hbs
      obtain ⟨p, c, rfl⟩ := owns_slice ho
      have HOU := hide hou
      have HL1 := hide hL1
      have HT := hide ht
      have hb2 := hbw.trans (hb1.mono hbs)
      have hs1 := hb2.size
      rw [hlv.out] at hrow1
      generalize hpl : (tpl t).length = pl at *
      clear ho hou hL1 hL ht hb1 hbw
      go_wp2_with (at_builtin; refine wpList_append_own _ rfl _ _ 25 rfl w.heap.size 22 i0 (.slice none 0 0) 1 24 Try.underlying25 hi hz0 hz1 hz2 rfl (by decide) _ _ _ rfl (hrow1.alloc _) ⟨w1.heap.size, 0, none⟩ 1 1 [.slice p pl c] rfl rfl ?c1 ?c2 ?c3 ?c4 ?c5 ?_)
      case c1 => exact cell_one_new _ _ _
      case c2 => intro u hu; simp at hu; subst hu; rfl
      case c3 => unfold maxLen; omega
      case c4 => omega
      case c5 => simp; omega
      · intro v' w4 hown4 hgrow _
        have HL4 : Hid (LL w4 w.heap.size v' (vs ++ [.slice p pl c]) ((ts ++ [t]).map tpl)) := by
          show LL _ _ _ _ _
          rw [List.map_append]
          exact HL1.out.push (by rw [hpl]; exact HOU.out) (by rw [hlv.out]; exact hown4) hgrow
        have hB4 := HL1.out.step hb2 (Nat.le_refl _) hs1 hgrow
        have HLE : Hid ((ts ++ [t]).length = k + 1) := by show _ = _; rw [List.length_append, hl.out]; rfl
        have HLV : Hid ((vs ++ [Value.slice p pl c]).length = k + 1) := by show _ = _; rw [List.length_append, hlv.out]; rfl
        have HTS : Hid (∀ t', t' ∈ ts ++ [t] → tsz t' = n) := by
          intro t' ht'
          rcases List.mem_append.1 ht' with h | h
          · exact hts.out t' h
          · rw [List.mem_singleton.1 h]; exact HT.out
        clear hown4 hgrow hrow1 hpl
        go_wp2
        go_roundw
        case rel => exact ⟨k + 1, _, ts ++ [t], by omega, by go_num, HLE, HLV, HTS, HL4, hB4⟩
        case measure => simp [intOf]; omega
    · go_wp2
      go_ret
      exact ⟨_, vs, ts, rfl, by have := hl.out; omega, hts.out, hL.out, hbw⟩

end Go.Proofs.Ytfhcelanjilbiaa
