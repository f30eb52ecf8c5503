/- Contract of the answer's Cycles. -/
import Derived.Test.YtgglbafcocbhbaaRefD
namespace Go.Proofs.Ytgglbafcocbhbaa
open Go.RowKit
set_option maxRecDepth 20000

/-- Is x the least of the first k bells of its cycle? -/
def lst (a : List Int) (x : Nat) : Nat → Bool
  | 0 => true
  | 1 => true
  | k + 2 => lst a x (k + 1) && decide (x < it a (k + 1) x)

theorem lst_succ {a : List Int} {x k : Nat} (h : 1 ≤ k) : lst a x (k + 1) = (lst a x k && decide (x < it a k x)) := by
  match k, h with
  | k + 1, _ => rfl

theorem lst_true {a : List Int} {x k : Nat} : lst a x k = true ↔ ∀ i, 1 ≤ i → i < k → x < it a i x := by
  induction k with
  | zero => exact ⟨fun _ i h1 h2 => by omega, fun _ => rfl⟩
  | succ k ih =>
    by_cases hk : 1 ≤ k
    · rw [lst_succ hk, Bool.and_eq_true, ih, decide_eq_true_iff]
      constructor
      · rintro ⟨h1, h2⟩ i hi hik
        by_cases e : i = k
        · subst e; exact h2
        · exact h1 i hi (by omega)
      · intro h
        exact ⟨fun i hi hik => h i hi (by omega), h k hk (by omega)⟩
    · have e : k = 0 := by omega
      subst e
      exact ⟨fun _ i h1 h2 => by omega, fun _ => rfl⟩

theorem flat_backs {r : List Int} (hr : isRow r) {k x : Nat} (hk : k ≤ r.length) (hx : x < r.length) (i : Nat) (h : ((it r i x : Nat) : Int) ∈ (cycsTo r k).flatten) : (x : Int) ∈ (cycsTo r k).flatten := by
  induction i with
  | zero => exact h
  | succ i ih => exact ih (flat_back hr hk (it_lt hr hx i) h)

theorem lst_flat {a : List Int} (hr : isRow a) {x : Nat} (hx : x < a.length) : lst a x (per a x) = true ↔ ¬ (x : Int) ∈ (cycsTo a x).flatten := by
  rw [lst_true]
  constructor
  · intro h hm
    obtain ⟨c, hc, hm⟩ := List.mem_flatten.1 hm
    obtain ⟨y, hy, rfl⟩ := cyc_form hc
    obtain ⟨i, hi, e⟩ := mem_orb.1 hm
    have e' : x = it a i y := by omega
    obtain ⟨_, _, p3, _⟩ := per_spec hr (show y < a.length by omega)
    obtain ⟨q1, _, q3, _⟩ := per_spec hr hx
    have hj : it a (per a y - i) x = y := by rw [e', ← it_add, show per a y - i + i = per a y from by omega, p3]
    -- y is one of the bells of x's own cycle
    have hmod : ∀ n, it a n x = it a (n % per a x) x := by
      intro n
      have key : ∀ d, it a (per a x * d) x = x := by
        intro d
        induction d with
        | zero => rfl
        | succ d ih => rw [Nat.mul_succ, it_add, q3, ih]
      have : n = n % per a x + per a x * (n / per a x) := by rw [Nat.mod_add_div]
      rw [this, it_add, key, Nat.add_mul_mod_self_left, Nat.mod_mod]
    rw [hmod] at hj
    have hlt := Nat.mod_lt (per a y - i) q1
    by_cases h0 : (per a y - i) % per a x = 0
    · rw [h0] at hj
      have : x = y := hj
      omega
    · have := h _ (by omega) hlt
      omega
  · intro hn i h1 h2
    rcases Nat.lt_trichotomy x (it a i x) with h | h | h
    · exact h
    · exact absurd h.symm ((per_spec hr hx).2.2.2 i h1 h2)
    · exact absurd (flat_backs hr (by omega) hx i (flat_all hr x (by omega) (it a i x) h)) hn

theorem owns_len1 {w : World} {base e n : Nat} {v : Value} {xs : List Value} (h : w.ownsRow base e 1 v n xs) (hn : 1 ≤ n) : ∃ g cap, v = .slice (some ⟨g, 0, none⟩) n cap := by
  obtain ⟨g, cap, e, _⟩ := owns_form h hn
  exact ⟨g, cap, e⟩

set_option maxRecDepth 20000 in
set_option maxHeartbeats 4000000 in
theorem rcycles_ok (v1 : Value) (a : List Int) (w : World) (i1 : Ints w v1 a) (r1 : isRow a) (n1 : 1 ≤ a.length) (n2 : a.length ≤ 12) :
    Calls Try.prog 16 #[v1] w fun e w' => ∃ v, e = .returned v ∧ IntsAll w' v (cycsTo a a.length) ∧ Below w.heap.size w w' := by
  obtain ⟨i0, hi, hz0, hz1, hz2⟩ := info_parts Try.info22
  obtain ⟨j0, hj, hy0, hy1, hy2⟩ := info_parts Try.info3
  have R1 := hide r1
  rcases i1 with ⟨rfl, p, c, rfl⟩ | ⟨b1, o1, cap1, rfl, h01, hcp1, hm1, hb1, hcell1⟩
  · simp at n1
  have HNX : Hid (∀ y, y < a.length → a.getD y 0 = ((nx a y : Nat) : Int)) := fun y hy => by
    have := R1.out.at hy
    unfold nx; omega
  have HC := hide hcell1
  clear r1 hcell1
  go_enter Try.func16, Try.ntmps16
  go_wp2
  go_loopw [3, 4] (fun v si wr => ∃ (x : Nat) (vs : List Value), x ≤ a.length ∧ si = .int .i64 x ∧ wr.ownsRow w.heap.size 22 1 v vs.length vs ∧ OwnAll wr w.heap.size vs (cycsTo a x) ∧ Below w.heap.size w wr) (fun _ si _ => a.length - (intOf si).toNat)
  case atStart => exact ⟨0, [], by omega, rfl, World.ownsRow_nil _ _ _ _, trivial, Below.refl _ _⟩
  case round =>
    obtain ⟨x, vs, hx, rfl, hrow, hall, hbw⟩ := hrel
    have hbs := hbw.size
    by_cases hlt : x < a.length
    · obtain ⟨p1, p2, p3, p4⟩ := per_spec R1.out hlt
      have hlf := lst_flat R1.out hlt
      have hcs := cycsTo_succ a x
      have hcl := cycsTo_length a x
      have hvl := OwnAll.length hall
      generalize hcy : cycsTo a x = xss at *
      generalize hpp : per a x = p at *
      have P3 := hide p3
      have P4 := hide p4
      have HLF := hide hlf
      have HCS := hide hcs
      have HV := hide hvl
      have HCY := hide hcy
      have HALL := hide hall
      have HROW := hide hrow
      clear p3 p4 hlf hcs hvl hcy hpp hall hrow
      obtain ⟨y, hy, hcy⟩ := cellAt HC.out hlt
      have hyx : y = ((it a 1 x : Nat) : Int) := hy.out.symm.trans (HNX.out x hlt)
      rw [hyx] at hcy
      clear hyx hy
      have gcy : ∀ o, (wr.alloc o).cell? ⟨b1, o1 + x, none⟩ = some (.int .i64 ((it a 1 x : Nat) : Int)) := fun o => ((hbw.alloc hbw.size o).cell (by exact hb1)).trans hcy
      obtain ⟨wo, hwo⟩ : ∃ wo : World, wo = wr := ⟨_, rfl⟩
      rw [← hwo] at HALL HROW hbw hbs gcy ⊢
      clear hwo hcy
      go_wp2
      go_loopw [5, 6, 7] (fun c sl sk wr => ∃ (j y : Nat), 1 ≤ j ∧ j ≤ p ∧ Hid (it a j x = y) ∧ y < a.length ∧ sk = .int .i64 (y : Int) ∧ sl = .bool (lst a x j) ∧ wr.ownsRow wo.heap.size 3 1 c j ((orb a x j).map (Value.int .i64)) ∧ Below wo.heap.size wo wr) (fun c _ _ _ => p - sliceLen c)
      case atStart => exact ⟨1, it a 1 x, by omega, p1, rfl, it_lt R1.out hlt 1, rfl, rfl, one_owned wo x, (Below.refl _ _).alloc (Nat.le_refl _) _⟩
      case round =>
        clear gcy
        obtain ⟨j, y, hj1, hj2, hyk, hya, rfl, rfl, hown, hbo⟩ := hrel
        have hbos := hbo.size
        by_cases hjp : j < p
        · have hne : (((y : Nat) : Int) != ((x : Nat) : Int)) = true := by
            have := P4.out j hj1 hjp
            rw [hyk.out] at this
            rw [bne_iff_ne]; omega
          have hsl := hide (owns_len hown)
          have HLS : Hid (lst a x (j + 1) = (lst a x j && decide (x < y))) := by show _ = _; rw [lst_succ hj1, hyk.out]
          have hB : Below w.heap.size w wr := hbw.trans (hbo.mono hbs)
          have gy : wr.cell? ⟨b1, o1 + y, none⟩ = some (.int .i64 ((nx a y : Nat) : Int)) := (hB.cell (by exact hb1)).trans ((HC.out y hya).trans (by rw [HNX.out y hya]))
          generalize lst a x j = ls at *
          cases ls with
          | false =>
            go_wp2_with (at_builtin; refine wpList_append_own _ rfl _ _ 22 rfl wo.heap.size 3 j0 (.int .i64 0) 1 8 Try.underlying22 hj hy0 hy1 hy2 rfl (by decide) _ _ _ rfl (hown.alloc _) ⟨wr.heap.size, 0, none⟩ 1 1 [.int .i64 (y : Int)] rfl rfl ?c1 ?c2 ?c3 ?c4 ?c5 ?_)
            case c1 => exact cell_one_new _ _ _
            case c2 => intro u hu; simp at hu; subst hu; rfl
            case c3 => unfold maxLen; omega
            case c4 => omega
            case c5 => simp; omega
            · intro v' w1 hown' hgrow _
              have hB1 : Below wo.heap.size wo w1 := (hbo.alloc hbo.size _).grown hgrow (by simp; omega) (fun g hg => (hown.lt g hg).1)
              have hB2 : Below w.heap.size w w1 := hbw.trans (hB1.mono hbs)
              have gy1 : w1.cell? ⟨b1, o1 + y, none⟩ = some (.int .i64 ((nx a y : Nat) : Int)) := (hB2.cell (by exact hb1)).trans ((hB.cell (by exact hb1)).symm.trans gy)
              have hsl' := hide (owns_len hown')
              clear gy hB
              go_wp2
              go_roundw
              case rel => exact ⟨j + 1, nx a y, by omega, by omega, by show nx a (it a j x) = _; rw [hyk.out], nx_lt R1.out hya, rfl, by rw [HLS.out]; rfl, by rw [orb_snoc, List.map_append, hyk.out]; exact hown', hB1⟩
              case measure => rw [hsl.out, hsl'.out]; omega
          | true =>
            go_wp2_with (at_builtin; refine wpList_append_own _ rfl _ _ 22 rfl wo.heap.size 3 j0 (.int .i64 0) 1 8 Try.underlying22 hj hy0 hy1 hy2 rfl (by decide) _ _ _ rfl (hown.alloc _) ⟨wr.heap.size, 0, none⟩ 1 1 [.int .i64 (y : Int)] rfl rfl ?c1 ?c2 ?c3 ?c4 ?c5 ?_)
            case c1 => exact cell_one_new _ _ _
            case c2 => intro u hu; simp at hu; subst hu; rfl
            case c3 => unfold maxLen; omega
            case c4 => omega
            case c5 => simp; omega
            · intro v' w1 hown' hgrow _
              have hB1 : Below wo.heap.size wo w1 := (hbo.alloc hbo.size _).grown hgrow (by simp; omega) (fun g hg => (hown.lt g hg).1)
              have hB2 : Below w.heap.size w w1 := hbw.trans (hB1.mono hbs)
              have gy1 : w1.cell? ⟨b1, o1 + y, none⟩ = some (.int .i64 ((nx a y : Nat) : Int)) := (hB2.cell (by exact hb1)).trans ((hB.cell (by exact hb1)).symm.trans gy)
              have hsl' := hide (owns_len hown')
              have hdec : decide (((x : Nat) : Int) < ((y : Nat) : Int)) = decide (x < y) := by by_cases h : x < y <;> simp [h]
              have HDEC := hide hdec
              clear gy hB hdec
              go_wp2
              go_roundw
              case rel => exact ⟨j + 1, nx a y, by omega, by omega, by show nx a (it a j x) = _; rw [hyk.out], nx_lt R1.out hya, rfl, by rw [HLS.out]; simp, by rw [orb_snoc, List.map_append, hyk.out]; exact hown', hB1⟩
              case measure => rw [hsl.out, hsl'.out]; omega
        · obtain rfl : j = p := by omega
          have hne : (((y : Nat) : Int) != ((x : Nat) : Int)) = false := by
            have := P3.out
            rw [hyk.out] at this
            rw [this]; simp
          obtain ⟨g, cap, hv⟩ := owns_len1 hown hj1
          rw [hv] at hown ⊢
          have hB : Below w.heap.size w wr := hbw.trans (hbo.mono hbs)
          have hrow := owns_below HROW.out hbo (Nat.le_refl _)
          have hall := HALL.out.mono (fun _ _ _ h' => owns_below h' hbo (Nat.le_refl _))
          have HB := hide hB
          have hBs := hB.size
          clear hB hv
          generalize hls : lst a x j = ls at *
          have HLS := hide hls
          clear hls
          cases ls with
          | false =>
            have HX : Hid (cycsTo a (x + 1) = xss) := by
              show _ = _
              rw [HCS.out, if_pos]
              apply Classical.byContradiction
              intro hn
              have := HLF.out.2 hn
              cases this
            go_wp2
            go_roundw
            case rel => exact ⟨x + 1, vs, by omega, by go_num, hrow, by rw [HX.out]; exact hall, HB.out⟩
            case measure => simp [intOf]; omega
          | true =>
            have HX : Hid (cycsTo a (x + 1) = xss ++ [orb a x j]) := by
              show _ = _
              rw [HCS.out, if_neg (HLF.out.1 rfl)]
            have hvl : vs.length ≤ 12 := by have := HV.out; omega
            go_wp2_with (at_builtin; refine wpList_append_own _ rfl _ _ 25 rfl w.heap.size 22 i0 (.slice none 0 0) 1 24 Try.underlying25 hi hz0 hz1 hz2 rfl (by decide) _ _ _ rfl (hrow.alloc _) ⟨wr.heap.size, 0, none⟩ 1 1 [.slice (some ⟨g, 0, none⟩) j cap] rfl rfl ?c1 ?c2 ?c3 ?c4 ?c5 ?_)
            try (case c1 => exact cell_one_new _ _ _)
            case c2 => first | (intro u hu; simp at hu; subst hu; rfl) | rfl
            case c3 => first | (unfold maxLen; omega) | omega
            case c4 => omega
            case c5 => first | (simp; omega) | omega
            · intro v' w4 hown4 hgrow _
              have hall4 : OwnAll w4 w.heap.size (vs ++ [.slice (some ⟨g, 0, none⟩) j cap]) (xss ++ [orb a x j]) := by
                refine OwnAll.snoc ?_ (hall.mono (fun _ _ _ h' => owns_kept_ty (h'.alloc _) (hrow.alloc _) hgrow))
                rw [orb_length]
                exact owns_kept_ty ((owns_base hown hbs).alloc _) (hrow.alloc _) hgrow
              have hB4 : Below w.heap.size w w4 := (HB.out.alloc HB.out.size _).grown hgrow (by simp; omega) (fun g' hg' => (hrow.lt g' hg').1)
              have HA4 := hide hall4
              clear hall4
              go_wp2
              go_roundw
              case rel => exact ⟨x + 1, _, by omega, by go_num, by rw [List.length_append]; exact hown4, by rw [HX.out]; exact HA4.out, hB4⟩
              case measure => simp [intOf]; omega
    · obtain rfl : x = a.length := by omega
      go_wp2
      go_ret
      exact ⟨_, rfl, IntsAll.own hrow hall, hbw⟩

end Go.Proofs.Ytgglbafcocbhbaa
