/- Joined: RSay, TgA, IAl, XtD, SbT, XtA, XtQ, ChRow, ChMay, PSa, Mat, SbA, AppV, TtM, TtN, Ark, TrA, TrB, TrC, TrD, TrE, Rno, Name, MMay, Meth, ChOf, LL, RowAt, Lead, TrK, TtD, TtO, SbB. -/
import Derived.Test.YtimfoggjocajiaaJ5
import Derived.Test.YtimfoggjocajiaaJ8
import Derived.Test.YtimfoggjocajiaaJ7
import Derived.Test.YtimfoggjocajiaaJ4
import Derived.BigQuiet
import Derived.Test.YtimfoggjocajiaaJ0
import Derived.Deep.Matrix
import Derived.OpenShut
import Derived.Shelf.Spec.SlicesGrow
import Derived.Deep.WholeRow
import Derived.Deep.MidRow
import Derived.Test.YtimfoggjocajiaaJ1
import Derived.Laws.CopyOwn
import Derived.Deep.CutRange
import Derived.Test.YtimfoggjocajiaaJ3
import Derived.Lib.RuneCount
import Derived.Lib.DecodeN
import Derived.Test.YtimfoggjocajiaaJ2
import Derived.Deep.RegionHeld3
import Derived.Deep.Cut
/- Contract: Say, the answer's own: what a word says. -/
namespace Go.Proofs.Ytimfoggjocajiaa
open Go.RowKit

theorem lett_zero (gs : List Pm) : lett gs 0 = none := by unfold lett; rw [if_neg (by omega), if_neg (by omega)]
theorem lett_high {gs : List Pm} {k : Int} (h : (gs.length : Int) < k) : lett gs k = none := by
  unfold lett; rw [if_pos (by omega), List.getElem?_eq_none (by omega)]
theorem lett_low {gs : List Pm} {k : Int} (h : k < -(gs.length : Int)) : lett gs k = none := by
  unfold lett; rw [if_neg (by omega), if_pos (by omega), List.getElem?_eq_none (by omega)]; rfl
theorem lett_pos {gs : List Pm} {q : Nat} {x : Pm} (h : gs[q]? = some x) : lett gs ((q : Int) + 1) = some x := by
  unfold lett; rw [if_pos (by omega), show ((q : Int) + 1 - 1).toNat = q from by omega]; exact h
theorem lett_neg {gs : List Pm} {q : Nat} {x : Pm} (h : gs[q]? = some x) : lett gs (-((q : Int) + 1)) = some x⁻¹ := by
  unfold lett; rw [if_neg (by omega), if_pos (by omega), show (-(-((q : Int) + 1)) - 1).toNat = q from by omega, h]; rfl

def RSayPost (n : Nat) (gss : List (List Int)) (xs : List Int) (w : World) (e : Ending) (w' : World) : Prop :=
  ((say (gss.map pad) xs 1 = none ∧ e = .returned (.tuple #[.slice none 0 0, .int .i64 12])) ∨ ∃ v p, say (gss.map pad) xs 1 = some p ∧ Fixes (fun b => n ≤ b) p ∧ e = .returned (.tuple #[v, .int .i64 0]) ∧ Ints w' v (cut n p)) ∧ Below w.heap.size w w'

set_option maxRecDepth 20000 in
set_option maxHeartbeats 4000000 in
theorem rsay_ok (n : Nat) (v v2 : Value) (gss : List (List Int)) (xs : List Int) (w : World) (h1 : 1 ≤ n) (h12 : n ≤ 12) (hA : IntsAll w v gss) (hR : RowsN n gss) (h8 : gss.length ≤ 8) (hI : Ints w v2 xs) (hx : ∀ x, x ∈ xs → I64 x) (hl : xs.length ≤ 20000) :
    Calls Try.prog 21 #[.int .i64 n, v, v2] w fun e w' => RSayPost n gss xs w e w' := by
  have HA := hide hA
  have HR := hide hR
  have HI := hide hI
  have HX := hide hx
  obtain ⟨p0, cap0, rfl⟩ : ∃ p c, v = .slice p gss.length c := by
    obtain ⟨vs, hv, hl, _⟩ := hA
    obtain ⟨p, c, e⟩ := hv.form
    exact ⟨p, c, by rw [e, hl]⟩
  obtain ⟨p, c, rfl⟩ := hI.form
  have hl' : ¬ ((xs.length : Int) > 20000) := by omega
  have hg8 : (gss.length : Int) ≤ 8 := by omega
  clear hA hR hI hx
  go_enter Try.func21, Try.ntmps21
  go_wp2_with fail
  refine (rrounds_ok n _ (by omega)).mono ?_
  rintro e w1 ⟨u, rfl, ho, hb1⟩
  have hone : Ints w1 u (cut n 1) := by
    have hcut : cut n 1 = rnd n := by rw [← pad_rnd h12, cut_pad h12 (rnd_length n) (isRow_rnd n)]
    rw [hcut]; exact Ints.own ho
  have HONE := hide hone
  clear ho hone
  go_wp2
  go_loopw [8, 9] (fun u8 u9 wr => ∃ (k : Nat) (r : Pm), k ≤ xs.length ∧ u9 = .int .i64 k ∧ Hid (Ints wr u8 (cut n r)) ∧ Hid (Fixes (fun b => n ≤ b) r) ∧ Hid (say (gss.map pad) (xs.drop k) r = say (gss.map pad) xs 1) ∧ Below w.heap.size w wr) (fun _ u9 _ => xs.length - (intOf u9).toNat)
  case atStart => exact ⟨0, 1, by omega, rfl, HONE, (fixes_sub _).one, rfl, hb1⟩
  case round =>
    clear HONE hb1
    obtain ⟨k, r, hk, rfl, HU, HF, HS, hbw⟩ := hrel
    have hbs := hbw.size
    by_cases hlt : k < xs.length
    · obtain ⟨b, off, hpp, hcell, hcap⟩ : ∃ b off, p = some ⟨b, off, none⟩ ∧ (∀ j, j < xs.length → wr.cell? ⟨b, off + j, none⟩ = some (.int .i64 (xs.getD j 0))) ∧ xs.length ≤ c := by
        rcases HI.out.below hbw with ⟨e, _⟩ | ⟨b, off, cap, hv, _, hc, _, _, hcell⟩
        · rw [e] at hlt; simp at hlt
        · injection hv with e1 e2 e3
          exact ⟨b, off, e1, hcell, by omega⟩
      subst hpp
      obtain ⟨y, hy, hcy⟩ := cellAt hcell hlt
      have hyI : I64 y := HX.out y (by rw [← hy.out, List.getElem?_eq_getElem hlt]; exact List.getElem_mem hlt)
      have HSD := hide (say_drop (gs := gss.map pad) hlt hy.out r)
      rw [HS.out] at HSD
      obtain ⟨yl, yu⟩ := hyI
      have hml : (gss.map pad).length = gss.length := List.length_map ..
      clear hcell hy
      have bad : lett (gss.map pad) y = none → Hid (RSayPost n gss xs w (.returned (.tuple #[.slice none 0 0, .int .i64 12])) wr) := fun hn => ⟨Or.inl ⟨by have := HSD.out; rw [hn] at this; exact this, rfl⟩, hbw⟩
      by_cases h0 : y = 0
      · have HB := bad (by rw [h0]; exact lett_zero _)
        subst h0
        clear bad HSD HS hml
        go_wp2
        go_ret2
        exact HB.out
      · have h0' : (y == 0) = false := by rw [beq_eq_false_iff_ne]; exact h0
        by_cases hhi : y > (gss.length : Int)
        · have HB := bad (lett_high (by rw [hml]; omega))
          clear bad HSD HS hml
          go_wp2
          go_ret2
          exact HB.out
        · by_cases hlo : y < -(gss.length : Int)
          · have HB := bad (lett_low (by rw [hml]; exact hlo))
            clear bad HSD HS hml
            by_cases hmin : y = -9223372036854775808
            · subst hmin
              have hwm : wrap64 9223372036854775808 = -9223372036854775808 := by unfold wrap64; omega
              have hgn : ¬ ((gss.length : Int) < -9223372036854775808) := by omega
              go_wp2
              go_ret2
              exact HB.out
            · have hneg : -y > (gss.length : Int) := by omega
              go_wp2
              go_ret2
              exact HB.out
          · have hneg : ¬ (-y > (gss.length : Int)) := by omega
            have h100 : ¬ (y < -100) := by omega
            by_cases hp : y > 0
            · obtain ⟨q, rfl⟩ : ∃ q : Nat, y = (q : Int) + 1 := ⟨(y - 1).toNat, by omega⟩
              have hq : q < gss.length := by omega
              obtain ⟨X, hX⟩ : ∃ X, gss[q]? = some X := ⟨_, List.getElem?_eq_getElem hq⟩
              have hXr := HR.out X (List.mem_of_getElem? hX)
              have hXF := pad_fixes h12 hXr.2 hXr.1
              have HL := lett_pos (gs := gss.map pad) (q := q) (x := pad X) (by rw [List.getElem?_map, hX]; rfl)
              have HS2 : Hid (say (gss.map pad) (xs.drop (k + 1)) (r * pad X) = say (gss.map pad) xs 1) := by have h := HSD.out; rw [HL] at h; exact h.symm
              obtain ⟨b0, o0, hpp, hb0, hNc, hNN, bx, ox, cx, hcx, hix, _, _, _⟩ := (HA.out.below hbw).nth hX hXr.2 h1
              clear hNN
              subst hpp
              have HBY := hide (rby_own _ (.slice (some ⟨bx, ox, none⟩) n cx) (cut n r) X wr HU.out hix.out (fun j hj => by rw [cut_length h12]; have := hXr.1.at (j := j) hj; rw [hXr.2] at this; exact this) (by rw [cut_length h12]; exact h1) (by rw [hXr.2]; omega))
              rw [by_cut h12 HF.out hXr.1 hXr.2] at HBY
              have HF2 : Hid (Fixes (fun b => n ≤ b) (r * pad X)) := (fixes_sub _).mul HF.out hXF
              have hq1 : (q : Int) + 1 - 1 = (q : Int) := by omega
              clear bad HSD HS hml hX hXr hXF HL hix HU
              go_wp2_with fail
              refine HBY.out.mono ?_
              rintro ex w2 ⟨v3, rfl, ho3, hb3⟩
              have HU3 := hide (Ints.own ho3)
              have hB3 : Below w.heap.size w w2 := hbw.trans (hb3.mono hbw.size)
              clear HBY ho3 hb3
              go_wp2
              go_roundw
              case rel => exact ⟨k + 1, r * pad X, by omega, by go_num, HU3, HF2, HS2, hB3⟩
              case measure => simp [intOf]; omega
            · obtain ⟨q, hyq⟩ : ∃ q : Nat, -y = (q : Int) + 1 := ⟨(-y - 1).toNat, by omega⟩
              have ey : y = -((q : Int) + 1) := by omega
              have hq : q < gss.length := by omega
              obtain ⟨X, hX⟩ : ∃ X, gss[q]? = some X := ⟨_, List.getElem?_eq_getElem hq⟩
              have hXr := HR.out X (List.mem_of_getElem? hX)
              have hXF := pad_fixes h12 hXr.2 hXr.1
              have HL := lett_neg (gs := gss.map pad) (q := q) (x := pad X) (by rw [List.getElem?_map, hX]; rfl)
              have HS2 : Hid (say (gss.map pad) (xs.drop (k + 1)) (r * (pad X)⁻¹) = say (gss.map pad) xs 1) := by have h := HSD.out; rw [ey, HL] at h; exact h.symm
              obtain ⟨b0, o0, hpp, hb0, hNc, hNN, bx, ox, cx, hcx, hix, _, _, _⟩ := (HA.out.below hbw).nth hX hXr.2 h1
              clear hNN
              subst hpp
              have HUD := hide (undo_own (.slice (some ⟨bx, ox, none⟩) n cx) X wr hix.out hXr.1 (by rw [hXr.2]; exact h1) (by rw [hXr.2]; exact h12))
              have HF2 : Hid (Fixes (fun b => n ≤ b) (r * (pad X)⁻¹)) := (fixes_sub _).mul HF.out ((fixes_sub _).inv hXF)
              have HXR := hide hXr
              clear bad HSD HS hml hX hXr hXF HL hix hneg ey
              go_wp2_with fail
              refine HUD.out.mono ?_
              rintro ex w2 ⟨vz, zs, rfl, hoz, hzu, hbz⟩
              have hzr := isRow_undoes HXR.out.1 hzu
              have hzl : zs.length = n := hzu.1.trans HXR.out.2
              have hpz : pad zs = (pad X)⁻¹ := pad_undoes (by rw [HXR.out.2]; exact h12) HXR.out.1 hzu
              have HBY := hide (rby_own _ vz (cut n r) zs w2 (HU.out.below hbz) (Ints.own hoz) (fun j hj => by rw [cut_length h12]; have := hzr.at (j := j) hj; rw [hzl] at this; exact this) (by rw [cut_length h12]; exact h1) (by omega))
              rw [by_cut h12 HF.out hzr hzl, hpz] at HBY
              have hB2 : Below w.heap.size w w2 := hbw.trans (hbz.mono hbw.size)
              clear HUD hoz hzu hbz hzr hzl hpz HU
              go_wp2_with fail
              refine HBY.out.mono ?_
              rintro ex w3 ⟨v3, rfl, ho3, hb3⟩
              have HU3 := hide (Ints.own ho3)
              have hB3 : Below w.heap.size w w3 := hB2.trans (hb3.mono hB2.size)
              clear HBY ho3 hb3
              go_wp2
              go_roundw
              case rel => exact ⟨k + 1, r * (pad X)⁻¹, by omega, by go_num, HU3, HF2, HS2, hB3⟩
              case measure => simp [intOf]; omega
    · have hke : k = xs.length := by omega
      have hs : say (gss.map pad) xs 1 = some r := by have h := HS.out; rw [hke, List.drop_length] at h; exact h.symm
      have HFIN := hide (show RSayPost n gss xs w (.returned (.tuple #[u8, .int .i64 0])) wr from ⟨Or.inr ⟨u8, r, hs, HF.out, rfl, HU.out⟩, hbw⟩)
      clear hke hs HS
      go_wp2
      go_ret2
      exact HFIN.out

end Go.Proofs.Ytimfoggjocajiaa

/- Plain: words that may be said; orbits. -/
namespace Go.Proofs.Ytimfoggjocajiaa

theorem say_some {gs : List Pm} : ∀ (A : List Int) (p : Pm), (∀ z, z ∈ A → ∃ x, lett gs z = some x) → ∃ q, say gs A p = some q
  | [], p, _ => ⟨p, rfl⟩
  | z :: A, p, h => by
    obtain ⟨x, hx⟩ := h z List.mem_cons_self
    obtain ⟨q, hq⟩ := say_some A (p * x) (fun y hy => h y (List.mem_cons_of_mem _ hy))
    exact ⟨q, by show (lett gs z).elim none _ = _; rw [hx]; exact hq⟩

theorem lett_gen {gs : List Pm} {z : Int} {x : Pm} (h : lett gs z = some x) : Gen (fun y => y ∈ gs) x := by
  obtain ⟨l, hl, rfl⟩ := lett_glet h
  exact (glet_gen 0 gs l.2).1 (Gen.of ⟨l, hl, rfl⟩)

theorem say_gen {gs : List Pm} : ∀ (A : List Int) (p q : Pm), Gen (fun y => y ∈ gs) p → say gs A p = some q → Gen (fun y => y ∈ gs) q
  | [], p, q, hp, h => by rw [← Option.some.inj h]; exact hp
  | z :: A, p, q, hp, h => by
    have h' : (lett gs z).elim none (fun x => say gs A (p * x)) = some q := h
    cases hl : lett gs z with
    | none => rw [hl] at h'; cases h'
    | some x =>
      rw [hl] at h'
      exact say_gen A (p * x) q (Gen.mul' hp (lett_gen hl)) h'

theorem lett_up {gs : List Pm} {z : Int} (h1 : 1 ≤ z) (h2 : z ≤ gs.length) : ∃ x, lett gs z = some x := by
  unfold lett
  rw [if_pos h1]
  exact ⟨_, List.getElem?_eq_getElem (by omega)⟩

theorem lett_down {gs : List Pm} {z : Int} (h1 : z ≤ -1) (h2 : -(gs.length : Int) ≤ z) : ∃ x, lett gs z = some x := by
  unfold lett
  rw [if_neg (by omega), if_pos h1, List.getElem?_eq_getElem (show (-z - 1).toNat < gs.length by omega)]
  exact ⟨_, rfl⟩

theorem reach_back {gs : List Pm} {a b : Nat} (h : Reach gs a b) : Reach gs b a := by
  obtain ⟨x, hx, rfl⟩ := h
  exact ⟨x⁻¹, hx.inv, Pm.inv_act x a⟩

theorem reach_trans {gs : List Pm} {a b c : Nat} (h : Reach gs a b) (k : Reach gs b c) : Reach gs a c := by
  obtain ⟨x, hx, rfl⟩ := h
  obtain ⟨y, hy, rfl⟩ := k
  exact ⟨y * x, Gen.mul' hy hx, Pm.act_mul y x a⟩

theorem orbS_eq {gs : List Pm} {n a b : Nat} (h : Reach gs a b) : orbS gs n a = orbS gs n b :=
  sorted_ext _ _ (orbS_sorted gs n a) (orbS_sorted gs n b) (fun x => by
    rw [mem_orbS, mem_orbS]
    exact ⟨fun ⟨h1, h2⟩ => ⟨h1, reach_trans (reach_back h) h2⟩, fun ⟨h1, h2⟩ => ⟨h1, reach_trans h h2⟩⟩)

theorem orbsTo_form {gs : List Pm} {n : Nat} : ∀ (k : Nat) (O : List Nat), O ∈ orbsTo gs n k → ∃ a, a < k ∧ O = orbS gs n a
  | 0, O, h => by cases h
  | k + 1, O, h => by
    by_cases hk : k ∈ (orbsTo gs n k).flatten
    · rw [orbsTo_yes hk] at h
      obtain ⟨a, h1, h2⟩ := orbsTo_form k O h
      exact ⟨a, by omega, h2⟩
    · rw [orbsTo_no hk] at h
      rcases List.mem_append.1 h with h | h
      · obtain ⟨a, h1, h2⟩ := orbsTo_form k O h
        exact ⟨a, by omega, h2⟩
      · exact ⟨k, by omega, List.mem_singleton.1 h⟩

theorem orbsTo_len {gs : List Pm} {n bell : Nat} {O : List Nat} (h : O ∈ orbsTo gs n n) (hb : bell ∈ O) : O.length = (orbS gs n bell).length := by
  obtain ⟨a, _, rfl⟩ := orbsTo_form n O h
  rw [orbS_eq (mem_orbS.1 hb).2]

theorem orbsTo_all {gs : List Pm} {n : Nat} : ∀ (k : Nat), k ≤ n → ∀ b, b < k → b ∈ (orbsTo gs n k).flatten
  | 0, _, b, hb => by omega
  | k + 1, hk, b, hb => by
    by_cases hm : k ∈ (orbsTo gs n k).flatten
    · rw [orbsTo_yes hm]
      by_cases e : b = k
      · rw [e]; exact hm
      · exact orbsTo_all k (by omega) b (by omega)
    · rw [orbsTo_no hm, List.flatten_append, List.mem_append]
      by_cases e : b = k
      · right
        rw [e]
        simp
        exact mem_orbS.2 ⟨by omega, 1, Gen.one, Pm.act_one k⟩
      · left
        exact orbsTo_all k (by omega) b (by omega)

theorem orbS_pos {gs : List Pm} {n bell : Nat} (h : bell < n) : 1 ≤ (orbS gs n bell).length := List.length_pos_of_mem (mem_orbS.2 ⟨h, 1, Gen.one, Pm.act_one bell⟩)

theorem orbS_le (gs : List Pm) (n bell : Nat) : (orbS gs n bell).length ≤ n := nodup_le ((orbS_sorted gs n bell).imp (fun h => Nat.ne_of_lt h)) (fun _ hb => (mem_orbS.1 hb).1)

/-- The size is the orbit's times the stabiliser's. -/
theorem sz_orb {gs hs : List Pm} {n bell : Nat} (h12 : n ≤ 12) (hb : bell < n) (hf : ∀ x, Gen (fun y => y ∈ gs) x → Fixes (fun b => n ≤ b) x) (hs' : ∀ x, Gen (fun y => y ∈ hs) x ↔ Gen (fun y => y ∈ gs) x ∧ x.act bell = bell) :
    sz (Gen (fun y => y ∈ gs)) n = (orbS gs n bell).length * sz (Gen (fun y => y ∈ hs)) n := by
  rw [sz_congr hs' n]
  refine orb_stab (Gen.sub _) h12 hf bell ((orbS_sorted gs n bell).imp (fun h => Nat.ne_of_lt h)) (fun b => ?_)
  rw [mem_orbS]
  constructor
  · exact fun h => h.2
  · rintro ⟨x, hx, rfl⟩
    exact ⟨act_below (hf x hx) hb, x, hx, rfl⟩

/-- What one row and what undoes another make. -/
theorem by_undo {n : Nat} {x y : Pm} {zs : List Int} (h12 : n ≤ 12) (hx : Fixes (fun b => n ≤ b) x) (hy : Fixes (fun b => n ≤ b) y) (hz : Undoes zs (cut n y)) : isRow zs ∧ zs.length = n ∧ by_ (cut n x) zs = cut n (x * y⁻¹) := by
  have hcy := cut_row h12 hy
  have hl : zs.length = n := by rw [hz.1, cut_length h12]
  have hr := isRow_undoes hcy hz
  refine ⟨hr, hl, ?_⟩
  rw [by_cut h12 hx hr hl]
  have hp : pad zs = y⁻¹ := by
    have := pad_undoes (by rw [cut_length h12]; exact h12) hcy hz
    rw [pad_cut h12 hy] at this
    exact this
  rw [hp]

theorem rchk_ok {n : Nat} {xs : List Int} (h1 : 1 ≤ n) (h12 : n ≤ 12) (hr : isRow xs) (hl : xs.length = n) : rchk n xs = 0 := by
  unfold rchk
  rw [if_pos (chk_ok (by omega) (by omega) hr), if_pos hl]

theorem fct_nine {n : Nat} (h : n ≤ 9) : fct n ≤ 362880 := by
  obtain rfl | rfl | rfl | rfl | rfl | rfl | rfl | rfl | rfl | rfl : n = 0 ∨ n = 1 ∨ n = 2 ∨ n = 3 ∨ n = 4 ∨ n = 5 ∨ n = 6 ∨ n = 7 ∨ n = 8 ∨ n = 9 := by omega
  all_goals decide

theorem Run.full {L : List (Int × Pm)} {i j : Nat} {S T : List (Pm × List Int)} (h : Run L i S) (k : Run L j T) (hj : T.length ≤ j) {e : Pm × List Int} (he : e ∈ S) : e ∈ T := by
  rcases Nat.lt_or_ge j i with hlt | hge
  · obtain ⟨S', h', _⟩ := h.pre (j + 1) hlt
    cases h' with
    | step h'' he' =>
      rw [k.det h''] at hj
      have := (List.getElem?_eq_some_iff.1 he').1
      omega
  · obtain ⟨m, e1⟩ := h.more k hge
    rw [e1]
    exact List.mem_append_left _ he

theorem say_lett {gs : List Pm} : ∀ (A : List Int) (p q : Pm), say gs A p = some q → ∀ z, z ∈ A → ∃ x, lett gs z = some x
  | [], _, _, _, z, hz => by cases hz
  | y :: A, p, q, h, z, hz => by
    have h' : (lett gs y).elim none (fun x => say gs A (p * x)) = some q := h
    cases hl : lett gs y with
    | none => rw [hl] at h'; cases h'
    | some x =>
      rw [hl] at h'
      rcases List.mem_cons.1 hz with e | e
      · rw [e]; exact ⟨x, hl⟩
      · exact say_lett A (p * x) q h' z e

theorem lett_bound {gs : List Pm} {z : Int} {x : Pm} (h : lett gs z = some x) : -(gs.length : Int) ≤ z ∧ z ≤ gs.length := by
  rcases Int.lt_or_le (gs.length : Int) z with h1 | h1
  · rw [lett_high h1] at h; cases h
  · rcases Int.lt_or_le z (-(gs.length : Int)) with h2 | h2
    · rw [lett_low h2] at h; cases h
    · exact ⟨h2, h1⟩

/-- What the search's word is. -/
theorem word_is {gs : List Pm} {i : Nat} {S : List (Pm × List Int)} {x : Pm} {wd A : List Int} {X : List Pm} (hX : ∀ x, Gen (fun y => y ∈ gs) x → x ∈ X) (h : Run (glet 0 gs) i S) (hm : (x, wd) ∈ S) (hA : say gs A 1 = some x) : say gs wd 1 = some x ∧ wd.length ≤ A.length ∧ wd.length ≤ X.length := by
  have hX' : ∀ x, Gen (fun x => ∃ l, l ∈ glet 0 gs ∧ l.2 = x) x → x ∈ X := fun x hx => hX x ((glet_gen 0 gs x).1 hx)
  obtain ⟨j, T, hT, hj⟩ := Run.exists hX'
  obtain ⟨wd', h1, h2⟩ := hT.short hj (say_wds A 1 x 0 Wds.nil hA)
  have e := pair_eq hT.ok.nodup (h.full hT hj hm) h1
  have h3 := run_words h _ hm
  have h4 := h.len hX'
  refine ⟨h.said _ hm, by rw [e]; omega, by simp only at h3; omega⟩

/-- How long the orbit of a bell is, as far as it is found. -/
structure Cnted (X : List (List Nat)) (bell ol i j c : Nat) : Prop where
  two : c = ol ∨ c = 0
  ahead : bell ∈ (X.take i).flatten → c = ol
  here : ∀ O, X[i]? = some O → bell ∈ O.take j → c = ol

theorem Cnted.start (X : List (List Nat)) (bell ol : Nat) : Cnted X bell ol 0 0 0 := ⟨Or.inr rfl, fun h => by simp at h, fun O _ h => by simp at h⟩

theorem Cnted.hit (X : List (List Nat)) (bell ol i j : Nat) : Cnted X bell ol i (j + 1) ol := ⟨Or.inl rfl, fun _ => rfl, fun _ _ _ => rfl⟩

theorem Cnted.miss {X : List (List Nat)} {bell ol i j c : Nat} {O : List Nat} {z : Nat} (h : Cnted X bell ol i j c) (hO : X[i]? = some O) (hz : O[j]? = some z) (hne : z ≠ bell) : Cnted X bell ol i (j + 1) c :=
  ⟨h.two, h.ahead, fun O' hO' hb => by
    rw [hO] at hO'
    have e := Option.some.inj hO'
    subst e
    rw [List.take_add_one, hz, List.mem_append] at hb
    rcases hb with hb | hb
    · exact h.here O hO hb
    · simp at hb; exact absurd hb.symm hne⟩

theorem Cnted.next {X : List (List Nat)} {bell ol i c : Nat} {O : List Nat} (h : Cnted X bell ol i O.length c) (hO : X[i]? = some O) : Cnted X bell ol (i + 1) 0 c :=
  ⟨h.two, fun hb => by
    rw [List.take_add_one, hO, List.flatten_append, List.mem_append] at hb
    rcases hb with hb | hb
    · exact h.ahead hb
    · exact h.here O hO (by simpa using hb), fun O _ hb => by simp at hb⟩

theorem Cnted.done {X : List (List Nat)} {bell ol c : Nat} (h : Cnted X bell ol X.length 0 c) (hb : bell ∈ X.flatten) : c = ol := h.ahead (by rw [List.take_length]; exact hb)

end Go.Proofs.Ytimfoggjocajiaa

/- Plain: the length and the lists of a slice of lists. -/
namespace Go.Proofs.Ytimfoggjocajiaa
open Go.RowKit

theorem IntsAll.len {w : World} {v : Value} {xss : List (List Int)} (h : IntsAll w v xss) : ∃ p c, v = .slice p xss.length c := by
  obtain ⟨vs, h1, h2, _⟩ := h
  rw [← h2]; exact h1.form

/-- The k-th list of a slice of lists that is not empty. -/
theorem IntsAll.cell {w : World} {v : Value} {xss : List (List Int)} (h : IntsAll w v xss) (h0 : 1 ≤ xss.length) : ∃ b off cap, v = .slice (some ⟨b, off, none⟩) xss.length cap ∧ b < w.heap.size ∧ xss.length ≤ cap ∧ cap ≤ 9223372036854775807 ∧
    ∀ k, k < xss.length → ∃ p c, w.cell? ⟨b, off + k, none⟩ = some (.slice p (xss.getD k []).length c) ∧ Hid (Ints w (.slice p (xss.getD k []).length c) (xss.getD k [])) := by
  obtain ⟨vs, h1, h2, h3⟩ := h
  rcases h1 with ⟨rfl, _⟩ | ⟨b, off, cap, rfl, h4, h5, h6, h7, h8⟩
  · simp at h2; omega
  · refine ⟨b, off, cap, by rw [h2], h7, by omega, h6, fun k hk => ?_⟩
    exact elAt h8 (by omega) (h3 k hk)

theorem IntsAll.cut {w : World} {b off K cap k : Nat} {X : List (List Int)} (h : IntsAll w (.slice (some ⟨b, off, none⟩) K cap) X) (hl : X.length = K) (hk : k ≤ K) : IntsAll w (.slice (some ⟨b, off, none⟩) k cap) (X.take k) := by
  obtain ⟨vs, h1, h2, h3⟩ := h
  rcases Nat.eq_zero_or_pos k with rfl | h0
  · exact ⟨[], Or.inl ⟨rfl, _, _, rfl⟩, by simp, fun j hj => by simp at hj⟩
  rcases h1 with ⟨rfl, _⟩ | ⟨b', off', cap', e, h4, h5, h6, h7, h8⟩
  · simp at h2; omega
  obtain ⟨⟨rfl, rfl⟩, _, rfl⟩ : (b = b' ∧ off = off') ∧ K = vs.length ∧ cap = cap' := by
    simpa using e
  refine ⟨vs.take k, Or.inr ⟨b, off, cap, ?_, ?_, ?_, h6, h7, fun j hj => ?_⟩, ?_, fun j hj => ?_⟩
  · rw [List.length_take, Nat.min_eq_left (by omega)]
  · rw [List.length_take]; omega
  · rw [List.length_take]; omega
  · rw [List.length_take] at hj
    rw [h8 j (by omega)]
    simp [List.getD, show j < k by omega]
  · rw [List.length_take, List.length_take, h2]
  · rw [List.length_take] at hj
    have e1 : (vs.take k).getD j undef = vs.getD j undef := by simp [List.getD, show j < k by omega]
    have e2 : (X.take k).getD j [] = X.getD j [] := by simp [List.getD, show j < k by omega]
    rw [e1, e2]
    exact h3 j (by omega)

end Go.Proofs.Ytimfoggjocajiaa

/- Contracts: the answer's Below; slices.BinarySearchFunc among rows in order. -/
namespace Go.Proofs.Ytimfoggjocajiaa
open Go.RowKit

/-- Is a list ahead of another? -/
def blw : List Int → List Int → Bool
  | [], [] => false
  | [], _ :: _ => true
  | _ :: _, [] => false
  | a :: x, b :: y => if a = b then blw x y else decide (a < b)

theorem blw_end (xs ys : List Int) (k : Nat) (h : ¬ (k < xs.length ∧ k < ys.length)) (hk : k ≤ xs.length) (hk2 : k ≤ ys.length) : blw (xs.drop k) (ys.drop k) = decide (xs.length < ys.length) := by
  by_cases h1 : k < xs.length
  · have h2 : ¬ k < ys.length := fun h2 => h ⟨h1, h2⟩
    rw [List.drop_eq_nil_of_le (show ys.length ≤ k by omega), drop_cons xs h1]
    symm
    rw [show blw (xs[k]?.getD 0 :: xs.drop (k + 1)) [] = false from rfl]
    simp; omega
  · rw [List.drop_eq_nil_of_le (show xs.length ≤ k by omega)]
    by_cases h2 : k < ys.length
    · rw [drop_cons ys h2]
      symm
      rw [show blw [] (ys[k]?.getD 0 :: ys.drop (k + 1)) = true from rfl]
      simp; omega
    · rw [List.drop_eq_nil_of_le (show ys.length ≤ k by omega)]
      symm
      rw [show blw [] [] = false from rfl]
      simp; omega

set_option maxRecDepth 20000 in
set_option maxHeartbeats 2000000 in
theorem rbelow_any (v1 v2 : Value) (xs ys : List Int) (w : World) (h1 : Ints w v1 xs) (h2 : Ints w v2 ys) (hl1 : xs.length ≤ 1000000) (hl2 : ys.length ≤ 1000000) :
    Calls Try.prog 93 #[v1, v2] w fun e w' => e = .returned (.bool (blw xs ys)) ∧ Below w.heap.size w w' := by
  obtain ⟨p1, c1, rfl⟩ := h1.form
  obtain ⟨p2, c2, rfl⟩ := h2.form
  have HC1 := hide h1
  have HC2 := hide h2
  clear h1 h2
  go_enter Try.func93, Try.ntmps93
  go_wp2
  go_loopw [5] (fun i wr => ∃ k : Nat, k ≤ xs.length ∧ k ≤ ys.length ∧ i = .int .i64 k ∧ Hid (blw xs ys = blw (xs.drop k) (ys.drop k)) ∧ Below w.heap.size w wr) (fun i _ => xs.length - (intOf i).toNat)
  case atStart => exact ⟨0, by omega, by omega, rfl, rfl, Below.refl _ _⟩
  case round =>
    obtain ⟨k, hk, hk2, rfl, ht, hbw⟩ := hrel
    by_cases hlt : k < xs.length
    · by_cases hlt2 : k < ys.length
      · rcases HC1.out with ⟨rfl, _⟩ | ⟨b, off, cap, hv, h0, hc, hm, hb, hcell⟩
        · simp at hlt
        rcases HC2.out with ⟨rfl, _⟩ | ⟨b2, off2, cap2, hv2, h02, hc2, hm2, hb2, hcell2⟩
        · simp at hlt2
        simp only [Value.slice.injEq] at hv hv2
        obtain ⟨rfl, _, rfl⟩ := hv
        obtain ⟨rfl, _, rfl⟩ := hv2
        obtain ⟨x, hx, hcx⟩ := cellAt hcell hlt
        obtain ⟨y, hy, hcy⟩ := cellAt hcell2 hlt2
        have gx : wr.cell? ⟨b, off + k, none⟩ = some (.int .i64 x) := (hbw.cell (by exact hb)).trans hcx
        have gy : wr.cell? ⟨b2, off2 + k, none⟩ = some (.int .i64 y) := (hbw.cell (by exact hb2)).trans hcy
        have HD : Hid (blw xs ys = if x = y then blw (xs.drop (k + 1)) (ys.drop (k + 1)) else decide (x < y)) := by show _ = _; rw [ht.out, drop_cons xs hlt, drop_cons ys hlt2, hx.out, hy.out]; rfl
        clear hcx hcy hcell hcell2 ht hx hy
        by_cases hxy : x = y
        · subst hxy
          have HD' : Hid (blw xs ys = blw (xs.drop (k + 1)) (ys.drop (k + 1))) := by have := HD.out; rw [if_pos rfl] at this; exact this
          clear HD
          go_wp2
          go_region
          all_goals
            go_wp2
            go_roundw
            case rel => exact ⟨k + 1, by omega, by omega, by go_num, HD', by first | exact hbw | exact hbw.drew | exact hbw.drew.drew⟩
            case measure => simp [intOf]; omega
        · have hne : (x != y) = true := by simpa using hxy
          have HD' : Hid (blw xs ys = decide (x < y)) := by have := HD.out; rw [if_neg hxy] at this; exact this
          clear HD hxy
          go_wp2
          go_region
          all_goals
            go_wp2
            go_region
            all_goals
              go_wp2
              go_ret
              exact ⟨ret_bool HD'.out.symm, by first | exact hbw | exact hbw.drew | exact hbw.drew.drew⟩
      · have HE : Hid (blw xs ys = decide (xs.length < ys.length)) := by show _ = _; rw [ht.out]; exact blw_end xs ys k (fun h => hlt2 h.2) hk hk2
        go_wp2
        go_ret
        exact ⟨ret_bool (by rw [HE.out]), hbw⟩
    · have HE : Hid (blw xs ys = decide (xs.length < ys.length)) := by show _ = _; rw [ht.out]; exact blw_end xs ys k (fun h => hlt h.1) hk hk2
      go_wp2
      go_ret
      exact ⟨ret_bool (by rw [HE.out]), hbw⟩

set_option maxRecDepth 20000 in
set_option maxHeartbeats 2000000 in
theorem bsf_ok (vX vT : Value) (X : List (List Int)) (t : List Int) (j n : Nat) (w : World) (hX : IntsAll w vX X) (hT : Ints w vT t) (hj : j < X.length) (hjt : X.getD j [] = t) (hlen : ∀ a, a < X.length → (X.getD a []).length = n) (h1 : 1 ≤ n) (hb : X.length ≤ 1000)
    (hmono : ∀ a b, a < b → b < X.length → lcmp (X.getD a []) (X.getD b []) < 0) :
    Calls Try.prog 136 #[vX, vT, .func (.func 118) #[] #[]] w fun e w' => e = .returned (.tuple #[.int .i64 j, .bool true]) ∧ w = w' := by
  obtain ⟨b, off, cap, rfl, hbl, hc1, hc2, hcell⟩ := hX.cell (by omega)
  obtain ⟨tp, tc, rfl⟩ := hT.form
  have HC := hide hcell
  have HT := hide hT
  have HM := hide hmono
  have HL := hide hlen
  have HJ := hide hjt
  have htl : t.length = n := by rw [← hjt]; exact hlen j hj
  have HTL := hide htl
  clear hcell hT hmono hlen hX hjt htl
  generalize hXl : X.length = N at *
  go_enter Try.func136, Try.ntmps136
  go_wp2
  go_loop [9, 10] (fun x y => ∃ a c : Nat, a ≤ j ∧ j ≤ c ∧ c ≤ N ∧ x = .int .i64 a ∧ y = .int .i64 c) (fun x y => (intOf y).toNat - (intOf x).toNat)
  case atStart => exact ⟨0, N, by omega, by omega, by omega, rfl, rfl⟩
  case round =>
    obtain ⟨a, c, ha, hc, hcN, rfl, rfl⟩ := hrel
    by_cases hlt : a < c
    · have hh : (a + c) / 2 < N := by omega
      have hq1 : a ≤ (a + c) / 2 := by omega
      have hq2 : (a + c) / 2 < c := by omega
      have hqe : ((a : Int) + (c : Int)) / 2 = (((a + c) / 2 : Nat) : Int) := by omega
      obtain ⟨p, c3, hce, hint⟩ := HC.out ((a + c) / 2) hh
      have hl3 := HL.out _ hh
      have HK := hide (compare_ok _ _ _ t w hint.out HT.out (by rw [hl3]; exact h1) (by rw [hl3]; exact HTL.out))
      generalize (a + c) / 2 = m at *
      clear hint
      by_cases hmj : m < j
      · have hneg : lcmp (X.getD m []) t < 0 := by rw [← HJ.out]; exact HM.out m j hmj hj
        have hneg2 : decide (lcmp (X.getD m []) t < 0) = true := decide_eq_true hneg
        generalize lcmp (X.getD m []) t = z at *
        generalize (X.getD m []).length = xl at *
        clear hl3
        go_wp2_with fail
        refine HK.out.mono ?_
        rintro e w' ⟨rfl, rfl⟩
        go_wp2
        go_round
        case rel => exact ⟨m + 1, c, by omega, by omega, by omega, by go_num, by go_num⟩
        case measure => simp [intOf]; omega
      · have hneg : ¬ lcmp (X.getD m []) t < 0 := by
          rcases Nat.lt_or_ge j m with h | h
          · intro h9
            have h8 := HM.out j m h (by omega)
            rw [HJ.out] at h8
            have := lcmp_trans _ _ _ h8 h9
            rw [lcmp_self] at this
            omega
          · obtain rfl : m = j := by omega
            rw [HJ.out, lcmp_self]; omega
        have hneg2 : decide (lcmp (X.getD m []) t < 0) = false := decide_eq_false hneg
        generalize lcmp (X.getD m []) t = z at *
        generalize (X.getD m []).length = xl at *
        clear hl3
        go_wp2_with fail
        refine HK.out.mono ?_
        rintro e w' ⟨rfl, rfl⟩
        go_wp2
        go_round
        case rel => exact ⟨a, m, by omega, by omega, by omega, by go_num, by go_num⟩
        case measure => simp [intOf]; omega
    · obtain rfl : a = j := by omega
      obtain rfl : c = a := by omega
      obtain ⟨p, c3, hce, hint⟩ := HC.out c hj
      have hl3 := HL.out _ hj
      have HK := hide (compare_ok _ _ _ t w hint.out HT.out (by rw [hl3]; exact h1) (by rw [hl3]; exact HTL.out))
      rw [HJ.out, lcmp_self] at HK
      rw [HJ.out] at hce
      clear hint hl3
      go_wp2_with fail
      refine HK.out.mono ?_
      rintro e w' ⟨rfl, rfl⟩
      go_wp2
      go_ret2
      exact ⟨rfl, rfl⟩

end Go.Proofs.Ytimfoggjocajiaa

/- Plain: lists in order; merging; equal neighbours. -/
namespace Go.Proofs.Ytimfoggjocajiaa
open Go.RowKit

theorem blw_lcmp : ∀ a b : List Int, blw a b = decide (lcmp a b < 0)
  | [], [] => rfl
  | [], _ :: _ => rfl
  | _ :: _, [] => rfl
  | x :: a, y :: b => by
    rw [lcmp_cons]
    show (if x = y then blw a b else decide (x < y)) = _
    by_cases h : x = y
    · subst h
      rw [if_pos rfl, if_neg (by omega), if_neg (by omega)]
      exact blw_lcmp a b
    · rw [if_neg h]
      by_cases h2 : x < y
      · rw [if_pos h2, decide_eq_true h2]; rfl
      · rw [if_neg h2, if_pos (by omega), decide_eq_false h2]; rfl

theorem blw_irr (a : List Int) : blw a a = false := by rw [blw_lcmp, lcmp_self]; rfl

theorem blw_trans {a b c : List Int} (h1 : blw a b = true) (h2 : blw b c = true) : blw a c = true := by
  rw [blw_lcmp] at *
  exact decide_eq_true (lcmp_trans _ _ _ (of_decide_eq_true h1) (of_decide_eq_true h2))

theorem blw_ntrans {a b c : List Int} (h1 : blw a b = false) (h2 : blw b c = false) : blw a c = false := by
  rw [blw_lcmp] at *
  exact decide_eq_false (lcmp_ntrans _ _ _ (of_decide_eq_false h1) (of_decide_eq_false h2))

theorem blw_tri : ∀ {a b : List Int}, blw a b = false → blw b a = false → a = b
  | [], [], _, _ => rfl
  | [], _ :: _, h, _ => by cases h
  | _ :: _, [], _, h => by cases h
  | x :: a, y :: b, h1, h2 => by
    have e1 : (if x = y then blw a b else decide (x < y)) = false := h1
    have e2 : (if y = x then blw b a else decide (y < x)) = false := h2
    by_cases h : x = y
    · subst h
      rw [if_pos rfl] at e1 e2
      rw [blw_tri e1 e2]
    · rw [if_neg h] at e1
      rw [if_neg (fun e => h e.symm)] at e2
      have := of_decide_eq_false e1
      have := of_decide_eq_false e2
      omega

theorem blw_lt {a b : List Int} (h1 : blw b a = false) (h2 : a ≠ b) : blw a b = true := by
  cases h : blw a b with
  | true => rfl
  | false => exact absurd (blw_tri h h1) h2

/-- Lists in order, each once, are told by their members. -/
theorem rising_eq : ∀ {X Y : List (List Int)}, X.Pairwise (fun a b => blw a b = true) → Y.Pairwise (fun a b => blw a b = true) → (∀ x, x ∈ X ↔ x ∈ Y) → X = Y
  | [], [], _, _, _ => rfl
  | [], y :: _, _, _, h => by have := (h y).2 List.mem_cons_self; cases this
  | x :: _, [], _, _, h => by have := (h x).1 List.mem_cons_self; cases this
  | x :: X, y :: Y, hX, hY, h => by
    obtain ⟨a1, a2⟩ := List.pairwise_cons.1 hX
    obtain ⟨b1, b2⟩ := List.pairwise_cons.1 hY
    have e : x = y := by
      rcases List.mem_cons.1 ((h x).1 List.mem_cons_self) with h1 | h1
      · exact h1
      · rcases List.mem_cons.1 ((h y).2 List.mem_cons_self) with h2 | h2
        · exact h2.symm
        · have := blw_trans (a1 y h2) (b1 x h1)
          rw [blw_irr] at this
          cases this
    subst e
    rw [rising_eq a2 b2 (fun z => ?_)]
    constructor
    · intro hz
      rcases List.mem_cons.1 ((h z).1 (List.mem_cons_of_mem _ hz)) with h1 | h1
      · subst h1
        have := a1 z hz
        rw [blw_irr] at this
        cases this
      · exact h1
    · intro hz
      rcases List.mem_cons.1 ((h z).2 (List.mem_cons_of_mem _ hz)) with h1 | h1
      · subst h1
        have := b1 z hz
        rw [blw_irr] at this
        cases this
      · exact h1

/-- In order, one may come twice. -/
abbrev Ris (X : List (List Int)) : Prop := X.Pairwise (fun a b => blw b a = false)

theorem Ris.rising {X : List (List Int)} (h : Ris X) (hn : X.Nodup) : X.Pairwise (fun a b => blw a b = true) :=
  (List.Pairwise.and h hn).imp (fun ⟨h1, h2⟩ => blw_lt h1 h2)

/-- Merging. -/
def mrg : List (Value × List Int) → List (Value × List Int) → List (Value × List Int)
  | [], B => B
  | a :: A, [] => a :: A
  | a :: A, b :: B => if blw b.2 a.2 = true then b :: mrg (a :: A) B else a :: mrg A (b :: B)
termination_by A B => A.length + B.length

theorem mrg_nil (A : List (Value × List Int)) : mrg A [] = A := by cases A <;> simp [mrg]

theorem mrg_perm : ∀ A B : List (Value × List Int), (mrg A B).Perm (A ++ B)
  | [], B => by rw [mrg]; exact List.Perm.refl _
  | a :: A, [] => by rw [mrg_nil, List.append_nil]
  | a :: A, b :: B => by
    rw [mrg]
    split
    · exact ((mrg_perm (a :: A) B).cons b).trans List.perm_middle.symm
    · exact (mrg_perm A (b :: B)).cons a
termination_by A B => A.length + B.length

theorem mrg_ris : ∀ A B : List (Value × List Int), A.Pairwise (fun a b => blw b.2 a.2 = false) → B.Pairwise (fun a b => blw b.2 a.2 = false) → (mrg A B).Pairwise (fun a b => blw b.2 a.2 = false)
  | [], B, _, h => by rw [mrg]; exact h
  | a :: A, [], h, _ => by rw [mrg_nil]; exact h
  | a :: A, b :: B, hA, hB => by
    obtain ⟨a1, a2⟩ := List.pairwise_cons.1 hA
    obtain ⟨b1, b2⟩ := List.pairwise_cons.1 hB
    rw [mrg]
    split
    · rename_i h
      refine List.pairwise_cons.2 ⟨fun x hx => ?_, mrg_ris (a :: A) B hA b2⟩
      have hba : blw a.2 b.2 = false := by
        cases h9 : blw a.2 b.2 with
        | false => rfl
        | true => have := blw_trans h h9; rw [blw_irr] at this; cases this
      rcases List.mem_append.1 ((mrg_perm (a :: A) B).mem_iff.1 hx) with h1 | h1
      · rcases List.mem_cons.1 h1 with rfl | h1
        · exact hba
        · exact blw_ntrans (a1 x h1) hba
      · exact b1 x h1
    · rename_i h
      have h' : blw b.2 a.2 = false := by simpa using h
      refine List.pairwise_cons.2 ⟨fun x hx => ?_, mrg_ris A (b :: B) a2 hB⟩
      rcases List.mem_append.1 ((mrg_perm A (b :: B)).mem_iff.1 hx) with h1 | h1
      · exact a1 x h1
      · rcases List.mem_cons.1 h1 with rfl | h1
        · exact h'
        · exact blw_ntrans (b1 x h1) h'
termination_by A B => A.length + B.length

theorem drop_at {α : Type} {A : List α} {i : Nat} {x : α} (h : A[i]? = some x) : A.drop i = x :: A.drop (i + 1) := by
  obtain ⟨h1, h2⟩ := List.getElem?_eq_some_iff.1 h
  rw [← h2, List.drop_eq_getElem_cons h1]

theorem mrg_left {A B : List (Value × List Int)} {i k : Nat} {x : Value × List Int} (hx : A[i]? = some x) (h : k = B.length ∨ ∃ y, B[k]? = some y ∧ blw y.2 x.2 = false) : mrg (A.drop i) (B.drop k) = x :: mrg (A.drop (i + 1)) (B.drop k) := by
  rw [drop_at hx]
  rcases h with rfl | ⟨y, hy, h⟩
  · rw [List.drop_length, mrg_nil, mrg_nil]
  · rw [drop_at hy, mrg, if_neg (by rw [h]; decide)]

theorem mrg_right {A B : List (Value × List Int)} {i k : Nat} {y : Value × List Int} (hy : B[k]? = some y) (h : i = A.length ∨ ∃ x, A[i]? = some x ∧ blw y.2 x.2 = true) : mrg (A.drop i) (B.drop k) = y :: mrg (A.drop i) (B.drop (k + 1)) := by
  rw [drop_at hy]
  rcases h with rfl | ⟨x, hx, h⟩
  · rw [List.drop_length, mrg, mrg]
  · rw [drop_at hx, mrg, if_pos h]

/-- Equal neighbours are dropped. -/
def nubTo (L : List (List Int)) : Nat → List (List Int)
  | 0 => []
  | k + 1 => if k = 0 ∨ L.getD k [] ≠ L.getD (k - 1) [] then nubTo L k ++ [L.getD k []] else nubTo L k

theorem take_snocD {L : List (List Int)} {k : Nat} (h : k < L.length) : L.take (k + 1) = L.take k ++ [L.getD k []] := by
  rw [List.take_succ_eq_append_getElem h]; simp [List.getD, h]

theorem nubTo_fact {L : List (List Int)} (hL : Ris L) : ∀ k, k ≤ L.length → (nubTo L k).Pairwise (fun a b => blw a b = true) ∧ ∀ x, x ∈ nubTo L k ↔ x ∈ L.take k
  | 0, _ => ⟨List.Pairwise.nil, fun x => by simp [nubTo]⟩
  | k + 1, hk => by
    obtain ⟨h1, h2⟩ := nubTo_fact hL k (by omega)
    have hg : ∀ i, i < L.length → L[i]? = some (L.getD i []) := fun i hi => by simp [List.getD, hi]
    have hle : ∀ i j, i < j → j < L.length → blw (L.getD j []) (L.getD i []) = false := fun i j hij hj => by
      have := List.pairwise_iff_getElem.1 hL i j (by omega) hj hij
      simpa [List.getD, show i < L.length by omega, hj] using this
    rw [nubTo, take_snocD (by omega)]
    by_cases hc : k = 0 ∨ L.getD k [] ≠ L.getD (k - 1) []
    · rw [if_pos hc]
      refine ⟨?_, fun x => by rw [List.mem_append, List.mem_append, h2]⟩
      refine List.pairwise_append.2 ⟨h1, by simp, fun x hx y hy => ?_⟩
      rw [List.mem_singleton] at hy
      subst hy
      obtain ⟨i, hi, e⟩ := List.getElem_of_mem ((h2 x).1 hx)
      rw [List.length_take] at hi
      have ex : x = L.getD i [] := by rw [← e]; simp [List.getD, show i < L.length by omega]
      have hik : i < k := by omega
      refine blw_lt (by rw [ex]; exact hle i k hik (by omega)) (fun e9 => ?_)
      rcases hc with rfl | hc
      · omega
      · apply hc
        rcases Nat.lt_or_ge i (k - 1) with h9 | h9
        · refine blw_tri ?_ (hle (k - 1) k (by omega) (by omega)) |>.symm
          rw [← e9, ex]
          exact hle i (k - 1) h9 (by omega)
        · have : i = k - 1 := by omega
          rw [← e9, ex, this]
    · rw [if_neg hc]
      refine ⟨h1, fun x => ?_⟩
      rw [List.mem_append, List.mem_singleton, h2]
      constructor
      · exact Or.inl
      · rintro (h | rfl)
        · exact h
        · have hk0 : k ≠ 0 := fun e => hc (Or.inl e)
          have e2 : L.getD k [] = L.getD (k - 1) [] := Classical.byContradiction (fun e => hc (Or.inr e))
          rw [e2]
          have hkl : k - 1 < L.length := by omega
          have : (L.take k)[k - 1]? = some (L.getD (k - 1) []) := by rw [List.getElem?_take]; simp [hkl, show k - 1 < k by omega, List.getD]
          exact List.mem_of_getElem? this

end Go.Proofs.Ytimfoggjocajiaa

/- Plain: ways through all rows, one after another, in the order of lists; how many unlike numbers there are below a bound. -/
namespace Go.Proofs.Ytimfoggjocajiaa
open Go.RowKit

/-- A way that goes on from a number, which has met these: each number once, and then 0. -/
def Good (nx : Nat → Nat → Nat) (K all : Nat) : List Nat → Nat → List Nat → Prop
  | _, _, [] => False
  | ks, at_, k :: t => k < K ∧ ((t = [] ∧ nx k at_ = 0 ∧ ks.length = all) ∨ (nx k at_ ∉ ks ∧ Good nx K all (nx k at_ :: ks) (nx k at_) t))

/-- The order of lists. -/
def Ltl : List Nat → List Nat → Prop
  | [], [] => False
  | [], _ :: _ => True
  | _ :: _, [] => False
  | a :: x, b :: y => a < b ∨ (a = b ∧ Ltl x y)

theorem nodup_leX : ∀ (n : Nat) (l : List Nat), l.Nodup → (∀ x, x ∈ l → x < n) → l.length ≤ n
  | 0, l, _, h => by
    cases l with
    | nil => simp
    | cons x t => exact absurd (h x (by simp)) (by omega)
  | n + 1, l, hn, h => by
    by_cases hm : n ∈ l
    · have h1 := nodup_leX n (l.erase n) (hn.erase n) (fun x hx => by
        have hx2 := (List.Nodup.mem_erase_iff hn).1 hx
        have := h x hx2.2
        have := hx2.1
        omega)
      have h2 := List.length_erase_of_mem hm
      have h3 : 0 < l.length := List.length_pos_of_mem hm
      omega
    · have h1 := nodup_leX n l hn (fun x hx => by
        have := h x hx
        have : x ≠ n := fun e => hm (e ▸ hx)
        omega)
      omega

/-- The numbers that are tried stand for all: each once, in order. -/
structure Tried (nx : Nat → Nat → Nat) (K : Nat) (tr : List Nat) : Prop where
  low : ∀ k, k ∈ tr → k < K
  sorted : tr.Pairwise (· < ·)
  all : ∀ k, k < K → ∃ k', k' ∈ tr ∧ k' ≤ k ∧ ∀ a, nx k' a = nx k a

theorem Good.same {nx : Nat → Nat → Nat} {K all : Nat} {ks : List Nat} {a k k' : Nat} {t : List Nat} (h : Good nx K all ks a (k :: t)) (hk : k' < K) (e : nx k' a = nx k a) : Good nx K all ks a (k' :: t) := by
  unfold Good at h ⊢
  rw [e]
  exact ⟨hk, h.2⟩

theorem sorted_before {tr : List Nat} (h : tr.Pairwise (· < ·)) {i : Nat} (hi : i < tr.length) {k : Nat} (hk : k ∈ tr) (hlt : k < tr.getD i 0) : ∃ j, j < i ∧ tr.getD j 0 = k := by
  obtain ⟨j, hj, e⟩ := List.getElem_of_mem hk
  have ei : tr.getD i 0 = tr[i] := by simp [List.getD, hi]
  refine ⟨j, ?_, by simp [List.getD, hj, e]⟩
  rcases Nat.lt_trichotomy j i with h1 | h1 | h1
  · exact h1
  · subst h1; omega
  · have := List.pairwise_iff_getElem.1 h i j hi hj h1
    omega

/-- What is found first is the least. -/
theorem least_found {nx : Nat → Nat → Nat} {K all : Nat} {tr ks : List Nat} {a i : Nat} {q : List Nat} (hT : Tried nx K tr) (hi : i < tr.length) (hno : ∀ j, j < i → ∀ t, ¬ Good nx K all ks a (tr.getD j 0 :: t))
    (hq : ∀ t, Good nx K all ks a (tr.getD i 0 :: t) → ¬ Ltl t q) : ∀ t, Good nx K all ks a t → ¬ Ltl t (tr.getD i 0 :: q) := by
  intro t ht hl
  cases t with
  | nil => exact ht
  | cons k t =>
    have hk : k < K := by unfold Good at ht; exact ht.1
    rcases (show k < tr.getD i 0 ∨ (k = tr.getD i 0 ∧ Ltl t q) from hl) with h | ⟨rfl, h⟩
    · obtain ⟨k', hm, hle, he⟩ := hT.all k hk
      obtain ⟨j, hj, e⟩ := sorted_before hT.sorted hi hm (by omega)
      refine hno j hj t ?_
      rw [e]
      exact ht.same (hT.low k' hm) (he a)
    · exact hq t ht h

theorem none_found {nx : Nat → Nat → Nat} {K all : Nat} {tr ks : List Nat} {a : Nat} (hT : Tried nx K tr) (hno : ∀ j, j < tr.length → ∀ t, ¬ Good nx K all ks a (tr.getD j 0 :: t)) : ∀ t, ¬ Good nx K all ks a t := by
  intro t ht
  cases t with
  | nil => exact ht
  | cons k t =>
    have hk : k < K := by unfold Good at ht; exact ht.1
    obtain ⟨k', hm, hle, he⟩ := hT.all k hk
    obtain ⟨j, hj, e⟩ := List.getElem_of_mem hm
    refine hno j hj t ?_
    rw [show tr.getD j 0 = k' from by simp [List.getD, hj, e]]
    exact ht.same (hT.low k' hm) (he a)

/-- A step that is barred. -/
theorem good_barred {nx : Nat → Nat → Nat} {K all : Nat} {ks : List Nat} {a k : Nat} (h1 : nx k a ∈ ks) (h2 : ¬ (nx k a = 0 ∧ ks.length = all)) : ∀ t, ¬ Good nx K all ks a (k :: t) := by
  intro t ht
  unfold Good at ht
  rcases ht.2 with ⟨_, h3, h4⟩ | ⟨h3, _⟩
  · exact h2 ⟨h3, h4⟩
  · exact h3 h1

/-- Home. -/
theorem good_home {nx : Nat → Nat → Nat} {K all : Nat} {ks : List Nat} {a k : Nat} (hk : k < K) (h1 : nx k a = 0) (h2 : ks.length = all) : Good nx K all ks a [k] ∧ ∀ t, Good nx K all ks a (k :: t) → ¬ Ltl t [] := by
  refine ⟨⟨hk, Or.inl ⟨rfl, h1, h2⟩⟩, fun t _ hl => ?_⟩
  cases t with
  | nil => exact hl
  | cons _ _ => exact hl

theorem good_on {nx : Nat → Nat → Nat} {K all : Nat} {ks : List Nat} {a k : Nat} (h2 : ¬ (nx k a = 0 ∧ ks.length = all)) (t : List Nat) : Good nx K all ks a (k :: t) → Good nx K all (nx k a :: ks) (nx k a) t := by
  intro ht
  unfold Good at ht
  rcases ht.2 with ⟨_, h3, h4⟩ | ⟨_, h3⟩
  · exact absurd ⟨h3, h4⟩ h2
  · exact h3

def nI (l : List Nat) : List Int := l.map (fun (k : Nat) => (k : Int))

theorem nI_len (l : List Nat) : (nI l).length = l.length := by simp [nI]

theorem nI_get (l : List Nat) {i : Nat} (h : i < l.length) : (nI l).getD i 0 = ((l.getD i 0 : Nat) : Int) := by simp [nI, List.getD, h]

end Go.Proofs.Ytimfoggjocajiaa

/- The answer's Below only reads; lists of numbers as words. -/
namespace Go.Proofs.Ytimfoggjocajiaa
open Go.RowKit

set_option maxRecDepth 20000 in
set_option maxHeartbeats 2000000 in
theorem rbelow_q (v1 v2 : Value) (xs ys : List Int) (w : World) (h1 : Ints w v1 xs) (h2 : Ints w v2 ys) (hl1 : xs.length ≤ 1000000) (hl2 : ys.length ≤ 1000000) :
    Calls Try.prog 93 #[v1, v2] w fun e w' => e = .returned (.bool (blw xs ys)) ∧ ∃ m, w' = w.drewN m := by
  obtain ⟨p1, c1, rfl⟩ := h1.form
  obtain ⟨p2, c2, rfl⟩ := h2.form
  have HC1 := hide h1
  have HC2 := hide h2
  clear h1 h2
  go_enter Try.func93, Try.ntmps93
  go_wp2
  go_loopw [5] (fun i wr => ∃ k : Nat, k ≤ xs.length ∧ k ≤ ys.length ∧ i = .int .i64 k ∧ Hid (blw xs ys = blw (xs.drop k) (ys.drop k)) ∧ ∃ m, wr = w.drewN m) (fun i _ => xs.length - (intOf i).toNat)
  case atStart => exact ⟨0, by omega, by omega, rfl, rfl, 0, rfl⟩
  case round =>
    obtain ⟨k, hk, hk2, rfl, ht, dm, rfl⟩ := hrel
    by_cases hlt : k < xs.length
    · by_cases hlt2 : k < ys.length
      · rcases HC1.out with ⟨rfl, _⟩ | ⟨b, off, cap, hv, h0, hc, hm, hb, hcell⟩
        · simp at hlt
        rcases HC2.out with ⟨rfl, _⟩ | ⟨b2, off2, cap2, hv2, h02, hc2, hm2, hb2, hcell2⟩
        · simp at hlt2
        simp only [Value.slice.injEq] at hv hv2
        obtain ⟨rfl, _, rfl⟩ := hv
        obtain ⟨rfl, _, rfl⟩ := hv2
        obtain ⟨x, hx, hcx⟩ := cellAt hcell hlt
        obtain ⟨y, hy, hcy⟩ := cellAt hcell2 hlt2
        have gx : w.cell? ⟨b, off + k, none⟩ = some (.int .i64 x) := hcx
        have gy : w.cell? ⟨b2, off2 + k, none⟩ = some (.int .i64 y) := hcy
        have HD : Hid (blw xs ys = if x = y then blw (xs.drop (k + 1)) (ys.drop (k + 1)) else decide (x < y)) := by show _ = _; rw [ht.out, drop_cons xs hlt, drop_cons ys hlt2, hx.out, hy.out]; rfl
        clear hcx hcy hcell hcell2 ht hx hy
        by_cases hxy : x = y
        · subst hxy
          have HD' : Hid (blw xs ys = blw (xs.drop (k + 1)) (ys.drop (k + 1))) := by have := HD.out; rw [if_pos rfl] at this; exact this
          clear HD
          go_wp2
          go_region
          all_goals
            go_wp2
            go_roundw
            case rel => exact ⟨k + 1, by omega, by omega, by go_num, HD', by first | exact ⟨_, rfl⟩ | exact ⟨dm + 1, rfl⟩ | exact ⟨dm + 2, rfl⟩⟩
            case measure => simp [intOf]; omega
        · have hne : (x != y) = true := by simpa using hxy
          have HD' : Hid (blw xs ys = decide (x < y)) := by have := HD.out; rw [if_neg hxy] at this; exact this
          clear HD hxy
          go_wp2
          go_region
          all_goals
            go_wp2
            go_region
            all_goals
              go_wp2
              go_ret
              exact ⟨ret_bool HD'.out.symm, by first | exact ⟨_, rfl⟩ | exact ⟨dm + 1, rfl⟩ | exact ⟨dm + 2, rfl⟩⟩
      · have HE : Hid (blw xs ys = decide (xs.length < ys.length)) := by show _ = _; rw [ht.out]; exact blw_end xs ys k (fun h => hlt2 h.2) hk hk2
        go_wp2
        go_ret
        exact ⟨ret_bool (by rw [HE.out]), _, rfl⟩
    · have HE : Hid (blw xs ys = decide (xs.length < ys.length)) := by show _ = _; rw [ht.out]; exact blw_end xs ys k (fun h => hlt h.1) hk hk2
      go_wp2
      go_ret
      exact ⟨ret_bool (by rw [HE.out]), _, rfl⟩

theorem blw_nI : ∀ x y : List Nat, blw (nI x) (nI y) = true ↔ Ltl x y
  | [], [] => by simp [nI, blw, Ltl]
  | [], _ :: _ => by simp [nI, blw, Ltl]
  | _ :: _, [] => by simp [nI, blw, Ltl]
  | a :: x, b :: y => by
    have ih := blw_nI x y
    show (if ((a : Nat) : Int) = ((b : Nat) : Int) then blw (nI x) (nI y) else decide (((a : Nat) : Int) < ((b : Nat) : Int))) = true ↔ (a < b ∨ (a = b ∧ Ltl x y))
    by_cases h : a = b
    · rw [if_pos (by rw [h]), ih]
      constructor
      · exact fun h2 => Or.inr ⟨h, h2⟩
      · rintro (h2 | h2)
        · omega
        · exact h2.2
    · rw [if_neg (by omega), decide_eq_true_iff]
      constructor
      · exact fun h2 => Or.inl (by omega)
      · rintro (h2 | h2)
        · omega
        · exact absurd h2.1 h

end Go.Proofs.Ytimfoggjocajiaa

/- Contracts: place.Row, ChangeOf. -/
namespace Go.Proofs.Ytimfoggjocajiaa
open Go.RowKit

/-- A row that is changed up to a tile. -/
def Upto (n : Nat) (s : List Bool) (zs : List Int) : Prop := zs.length = n ∧ ∀ j, j < n → zs.getD j 0 = if j < tsz s then (trow s).getD j 0 else (j : Int)

theorem upto_start (n : Nat) : Upto n [] (rnd n) := ⟨rnd_length n, fun j hj => by rw [rnd_get hj, if_neg (by simp [tsz])]⟩

theorem upto_end {n : Nat} {t : List Bool} {zs : List Int} (h : Upto n t zs) (ht : tsz t = n) : zs = trow t :=
  ext_getD (by rw [h.1, trow_length, ht]) (fun j hj => by rw [h.2 j (by rw [← h.1]; exact hj), if_pos (by rw [ht, ← h.1]; exact hj)])

theorem trow_get_old {b : Bool} {s : List Bool} {j : Nat} (h : j < tsz s) : (trow (b :: s)).getD j 0 = (trow s).getD j 0 := by
  have hl : j < (trow s).length := by rw [trow_length]; exact h
  cases b <;> simp only [trow, List.getD] <;> rw [List.getElem?_append_left hl]

theorem trow_get_one (s : List Bool) : (trow (true :: s)).getD (tsz s) 0 = (tsz s : Nat) := by
  simp only [trow, List.getD]; rw [List.getElem?_append_right (by rw [trow_length]; omega), trow_length, Nat.sub_self]; rfl

theorem trow_get_fst (s : List Bool) : (trow (false :: s)).getD (tsz s) 0 = ((tsz s + 1 : Nat) : Int) := by
  simp only [trow, List.getD]; rw [List.getElem?_append_right (by rw [trow_length]; omega), trow_length, Nat.sub_self]; rfl

theorem trow_get_snd (s : List Bool) : (trow (false :: s)).getD (tsz s + 1) 0 = (tsz s : Nat) := by
  simp only [trow, List.getD]; rw [List.getElem?_append_right (by rw [trow_length]; omega), trow_length, show tsz s + 1 - tsz s = 1 from by omega]; rfl

theorem upto_one {n : Nat} {s : List Bool} {zs : List Int} (h : Upto n s zs) : Upto n (true :: s) zs := by
  have e : tsz (true :: s) = tsz s + 1 := rfl
  refine ⟨h.1, fun j hj => ?_⟩
  rw [h.2 j hj]
  by_cases h1 : j < tsz s
  · rw [if_pos h1, if_pos (by omega), trow_get_old h1]
  · by_cases h2 : j = tsz s
    · subst h2; rw [if_neg h1, if_pos (by omega), trow_get_one]
    · rw [if_neg h1, if_neg (by omega)]

theorem upto_two {n : Nat} {s : List Bool} {zs : List Int} (h : Upto n s zs) (hn : tsz s + 2 ≤ n) : Upto n (false :: s) ((zs.set (tsz s) ((tsz s + 1 : Nat) : Int)).set (tsz s + 1) (tsz s : Nat)) := by
  have e : tsz (false :: s) = tsz s + 2 := rfl
  refine ⟨by simp [h.1], fun j hj => ?_⟩
  rw [getD_set (by simp [h.1]; omega), getD_set (by rw [h.1]; omega), h.2 j hj]
  by_cases h1 : tsz s + 1 = j
  · subst h1; rw [if_pos rfl, if_pos (by omega), trow_get_snd]
  · rw [if_neg h1]
    by_cases h2 : tsz s = j
    · subst h2; rw [if_pos rfl, if_pos (by omega), trow_get_fst]
    · rw [if_neg h2]
      by_cases h3 : j < tsz s
      · rw [if_pos h3, if_pos (by omega), trow_get_old h3]
      · rw [if_neg h3, if_neg (by omega)]

theorem upto_at {n : Nat} {s : List Bool} {zs : List Int} (h : Upto n s zs) {j : Nat} (hj : j < n) (hs : tsz s ≤ j) : zs[j]?.getD 0 = (j : Int) := by
  have := h.2 j hj
  rw [if_neg (by omega)] at this
  exact this

end Go.Proofs.Ytimfoggjocajiaa

/- Contract: the answer's ChangeMay. -/
namespace Go.Proofs.Ytimfoggjocajiaa
open Go.RowKit

end Go.Proofs.Ytimfoggjocajiaa

/- Contracts: the answer's isIn and ChangeRow; Check, ChangeMay at every number; Row where it refuses. -/
namespace Go.Proofs.Ytimfoggjocajiaa
open Go.RowKit

/-- What Check says at every number of bells. -/
def pc (n : Int) (ps : List Int) : Int := if 1 ≤ n ∧ n ≤ 12 then pck n ps else 1

theorem pc_range (n : Int) (ps : List Int) : pc n ps = 0 ∨ pc n ps = 1 ∨ pc n ps = 6 := by
  unfold pc
  split
  · rcases pck_range n ps with h | h <;> simp [h]
  · simp

theorem cell_two_new (w : World) (x y : Value) (e : TypeId) : ∀ j u, [x, y][j]? = some u → (w.alloc (.cells #[x, y] e)).cell? ((⟨w.heap.size, 0, none⟩ : Addr).add j) = some u := by
  intro j u hj
  have h9 := heap_alloc_new w (.cells #[x, y] e)
  rw [Addr.add_lit]
  match j, hj with
  | 0, hj => simp at hj; subst hj; unfold World.cell?; simp only [h9]; rfl
  | 1, hj => simp at hj; subst hj; unfold World.cell?; simp only [h9]; rfl

def lenOf : Value → Nat
  | .slice _ l _ => l
  | _ => 0

end Go.Proofs.Ytimfoggjocajiaa

/- A slice of lists that came in reads as a list of lists. -/
namespace Go.Proofs.Ytimfoggjocajiaa
open Go.RowKit Go.ChangeShapes Go.WideShapes

theorem ints_row {w : World} {a : Option Addr} {len cap : Nat} {zs : List Int} (hl : len ≤ cap) (hm : cap ≤ maxLen) (hz : zs.length = cap) (hn : a = none → cap = 0)
    (hc : ∀ x, a = some x → ∀ c, c < cap → w.cell? (x.add c) = some (.int .i64 (zs.getD c 0))) : Ints w (.slice a len cap) (zs.take len) := by
  rcases Nat.eq_zero_or_pos len with h0 | h0
  · subst h0
    exact Or.inl ⟨rfl, a, cap, rfl⟩
  · cases a with
    | none => have := hn rfl; omega
    | some x =>
      obtain ⟨b, off, rfl, hcell⟩ := ints_at (zs := zs) (fun i hi => hc x rfl i (by omega)) (by omega)
      have hlen : (zs.take len).length = len := by rw [List.length_take]; omega
      refine Or.inr ⟨b, off, cap, by rw [hlen], by omega, by omega, by unfold maxLen at hm; omega, ?_, fun j hj => ?_⟩
      · exact World.block_lt_of_cell? w _ (hcell 0 (by omega))
      · rw [hlen] at hj
        rw [hcell j (by omega)]
        simp [List.getD, hj]

theorem rows_all {w : World} {base : Nat} {a : Addr} {len cap : Nat} {A : Nat → Option Addr} {L C : Nat → Nat} {Z : Nat → List Int} (hl : len ≤ cap) (hm : cap ≤ maxLen)
    (h : ∀ r, r < cap → w.cell? (a.add r) = some (.slice (A r) (L r) (C r)) ∧ L r ≤ C r ∧ C r ≤ maxLen ∧ (Z r).length = C r ∧ (∀ n ∈ Z r, (Lit.int .i64 n).wf = true) ∧ (A r = none → C r = 0) ∧
        ∀ a', A r = some a' → base ≤ a'.block ∧ ∀ c, c < C r → w.cell? (a'.add c) = some (.int .i64 ((Z r).getD c 0))) :
    ∃ xss, IntsAll w (.slice (some a) len cap) xss := by
  refine ⟨(List.range len).map (fun r => (Z r).take (L r)), (List.range len).map (fun r => .slice (A r) (L r) (C r)), ?_, by simp, fun j hj => ?_⟩
  · rcases Nat.eq_zero_or_pos len with h0 | h0
    · subst h0
      exact Or.inl ⟨rfl, _, _, rfl⟩
    · obtain ⟨b, off, spot⟩ := a
      have hspot : spot = none := by simpa [Addr.add] using World.cell?_spot (h 0 (by omega)).1
      subst hspot
      refine Or.inr ⟨b, off, cap, by simp, by simpa using h0, by simpa using hl, by unfold maxLen at hm; omega, ?_, fun j hj => ?_⟩
      · exact World.block_lt_of_cell? w _ (h 0 (by omega)).1
      · simp at hj
        rw [← Addr.add_lit, (h j (by omega)).1]
        simp [List.getD, hj]
  · simp at hj
    have e1 : ((List.range len).map (fun r => Value.slice (A r) (L r) (C r))).getD j undef = .slice (A j) (L j) (C j) := by simp [List.getD, hj]
    have e2 : ((List.range len).map (fun r => (Z r).take (L r))).getD j [] = (Z j).take (L j) := by simp [List.getD, hj]
    rw [e1, e2]
    obtain ⟨_, a1, a2, a3, _, a5, a6⟩ := h j (by omega)
    exact ints_row a1 a2 a3 a5 (fun x hx => (a6 x hx).2)

end Go.Proofs.Ytimfoggjocajiaa

/- Contract: the answer's From. -/
namespace Go.Proofs.Ytimfoggjocajiaa
open Go.RowKit
set_option maxRecDepth 20000
set_option linter.unusedVariables false

/-- A row, changed by the first k changes. -/
def frW (r : List Int) (ts : List (List Bool)) (k : Nat) : List Int := (ts.take k).foldl (fun r t => by_ r (trow t)) r

/-- All rows from one on. -/
def frL (r : List Int) (ts : List (List Bool)) (k : Nat) : List (List Int) := (List.range (k + 1)).map (fun j => frW r ts j)

theorem frL_succ (r : List Int) (ts : List (List Bool)) (k : Nat) : frL r ts (k + 1) = frL r ts k ++ [frW r ts (k + 1)] := by
  unfold frL
  rw [List.range_succ (n := k + 1), List.map_append]
  rfl

theorem frL_length (r : List Int) (ts : List (List Bool)) (k : Nat) : (frL r ts k).length = k + 1 := by simp [frL]

theorem frW_succ {r : List Int} {ts : List (List Bool)} {k : Nat} (h : k < ts.length) : frW r ts (k + 1) = by_ (frW r ts k) (trow ts[k]) := by
  unfold frW
  rw [List.take_succ_eq_append_getElem h, List.foldl_append]
  rfl

theorem frW_row {r : List Int} {n : Nat} {ts : List (List Bool)} (hr : isRow r) (hn : r.length = n) (hts : ∀ t, t ∈ ts → tsz t = n) (k : Nat) : isRow (frW r ts k) ∧ (frW r ts k).length = n := by
  unfold frW
  have : ∀ (l : List (List Bool)) (x : List Int), isRow x → x.length = n → (∀ t, t ∈ l → tsz t = n) → isRow (l.foldl (fun r t => by_ r (trow t)) x) ∧ (l.foldl (fun r t => by_ r (trow t)) x).length = n := by
    intro l
    induction l with
    | nil => intro x h1 h2 _; exact ⟨h1, h2⟩
    | cons t l ih =>
      intro x h1 h2 h3
      have ht := h3 t (by simp)
      have hl : (trow t).length = n := by rw [trow_length]; exact ht
      exact ih (by_ x (trow t)) (isRow_by h1 (trow_row t) (by rw [hl, h2])) (by rw [by_length, hl]) (fun u hu => h3 u (List.mem_cons_of_mem _ hu))
  exact this _ r hr hn (fun t ht => hts t (List.mem_of_mem_take ht))

end Go.Proofs.Ytimfoggjocajiaa

/- append of what came in. -/
namespace Go.Proofs.Ytimfoggjocajiaa
open Go.RowKit

theorem run_append_none {P : Program} (w : World) (t ty e : TypeId) (i : TypeInfo) (ht : P.underlying t = some (.slice e)) (hi : P.info? e = some i) (a : Addr) (n cap : Nat) (hn : n ≤ cap) (p : Option Addr) (c : Nat) :
    (Builtin.append_ #[t, t] ty #[.slice (some a) n cap, .slice p 0 c]).run P w = .ok (.slice (some a) n cap) w := by
  cases p <;> simp [Builtin.append_, run_underlying ht, sizeOf, typeInfo, hi, Builtin.lenOf, Builtin.firstCells, loadCells, loadCellsFrom, hn, storeCells]

theorem run_append_nil_none {P : Program} (w : World) (t ty e : TypeId) (i : TypeInfo) (ht : P.underlying t = some (.slice e)) (hi : P.info? e = some i) (p : Option Addr) (c : Nat) :
    (Builtin.append_ #[t, t] ty #[.slice none 0 0, .slice p 0 c]).run P w = .ok (.slice none 0 0) w := by
  cases p <;> simp [Builtin.append_, run_underlying ht, sizeOf, typeInfo, hi, Builtin.lenOf, Builtin.firstCells, loadCells, loadCellsFrom]

/-- 'append(a, b...)': a owned, b whatever came in. -/
theorem wpList_append_vals {P : Program} {w : World} {ops : Array Oper} {rest : List Oper} {o : Oper} {a : Act} {Q : Exit → Act → World → Prop} (hgd : o.guard = none) (s x : Operand) (t : TypeId)
    (ho : o.op = .call { callee := .builtin .append, args := #[s, x], argTypes := #[t, t] })
    (base : Nat) (e : TypeId) (i : TypeInfo) (z : Value) (bytes : Nat) (ht : P.underlying t = some (.slice e)) (hi : P.info? e = some i) (hz : i.zero = some z)
    (hsize : i.size = 1) (hby : i.bytes = bytes) (hzs : z.cells.size = 1)
    (v : Value) (n : Nat) (xs : List Value) (hs : a.eval s = v) (hown : w.ownsRow base e 1 v n xs)
    (u : Value) (news : List Value) (hx : a.eval x = u) (hsrc : Vals w u news) (h1 : ∀ u ∈ news, u.oneCell' = true)
    (h63 : n + news.length ≤ maxLen) (hbytes : (n + news.length) * bytes ≤ 140737488355328) (hbase : base ≤ w.heap.size)
    (h : ∀ v' w', w'.ownsRow base e 1 v' (n + news.length) (xs ++ news) → w.grownBy w' v.ownBlock → wpList P ops Q rest (a.put o.dst v') w') :
    wpList P ops Q (o :: rest) a w := by
  rcases hsrc with ⟨rfl, p, c, rfl⟩ | ⟨b, off, cap, rfl, h0, hc, hm, hb, hcell⟩
  · rw [List.length_nil, Nat.add_zero, List.append_nil] at h
    have hr : w.grownBy w v.ownBlock := ⟨rfl, rfl, rfl, Nat.le_refl _, fun _ _ _ => rfl⟩
    rcases hown.2 with ⟨rfl, rfl⟩ | ⟨g2, cap2, cur2, rfl, _, _, hnc2, _⟩
    · refine wpList_plain hgd fun K hK => ?_
      have hrun := run_append_nil_none (P := P) w t o.type e i ht hi p c
      unfold Oper.wp execOp
      simp only [ho, resolve, invoke, builtin, Sem.run_bind, Sem.run_pure, Result.andThen_ok, List.map_toArray, List.map_cons, List.map_nil, hs, hx, hrun]
      exact hK _ _ (h _ _ hown hr)
    · refine wpList_plain hgd fun K hK => ?_
      have hrun := run_append_none (P := P) w t o.type e i ht hi ⟨g2, 0, none⟩ n cap2 hnc2 p c
      unfold Oper.wp execOp
      simp only [ho, resolve, invoke, builtin, Sem.run_bind, Sem.run_pure, Result.andThen_ok, List.map_toArray, List.map_cons, List.map_nil, hs, hx, hrun]
      exact hK _ _ (h _ _ hown hr)
  · refine wpList_append_own w hgd s x t ho base e i z 1 bytes ht hi hz hsize hby hzs (by decide) v n xs hs hown ⟨b, off, none⟩ news.length cap news hx (by omega) (fun j u hu => ?_) h1 h63 hbytes hbase ?_
    · have hj := (List.getElem?_eq_some_iff.1 hu).1
      have := hcell j hj
      rw [List.getD_eq_getElem?_getD, hu] at this
      by_cases h0j : j = 0
      · subst h0j; simpa [Addr.add] using this
      · simpa [Addr.add, h0j] using this
    · intro v' w' h2 h3 _
      exact h v' w' h2 h3

theorem vals_cells {w : World} {vs : List Value} {xss : List (List Int)} (hl : vs.length = xss.length) (hi : ∀ j, j < xss.length → Ints w (vs.getD j undef) (xss.getD j [])) : ∀ u ∈ vs, u.oneCell' = true := by
  intro u hu
  obtain ⟨j, hj, rfl⟩ := List.getElem_of_mem hu
  obtain ⟨p, c, e⟩ := (hi j (by omega)).form
  rw [List.getD_eq_getElem?_getD, List.getElem?_eq_getElem hj, Option.getD_some] at e
  rw [e]
  rfl

theorem ints_join {w : World} {us vs : List Value} {xa xb : List (List Int)} (hl : us.length = xa.length) (hi : ∀ j, j < xa.length → Ints w (us.getD j undef) (xa.getD j [])) (hi2 : ∀ j, j < xb.length → Ints w (vs.getD j undef) (xb.getD j [])) :
    ∀ j, j < (xa ++ xb).length → Ints w ((us ++ vs).getD j undef) ((xa ++ xb).getD j []) := by
  intro j hj
  rw [List.length_append] at hj
  simp only [List.getD_eq_getElem?_getD]
  by_cases h : j < xa.length
  · rw [List.getElem?_append_left (by omega), List.getElem?_append_left h]
    simpa [List.getD_eq_getElem?_getD] using hi j h
  · rw [List.getElem?_append_right (by omega), List.getElem?_append_right (by omega), hl]
    simpa [List.getD_eq_getElem?_getD] using hi2 (j - xa.length) (by omega)

end Go.Proofs.Ytimfoggjocajiaa

/- Contract: slices.Grow of lists of lists, from nothing. -/
namespace Go.Proofs.Ytimfoggjocajiaa
open Go.RowKit Go.Lib

end Go.Proofs.Ytimfoggjocajiaa

/- Contract: slices.Concat of two lists of lists. -/
namespace Go.Proofs.Ytimfoggjocajiaa
open Go.RowKit

end Go.Proofs.Ytimfoggjocajiaa

/- Arrays of twelve ints: loads, stores, results (as Arr has it for int8). -/
namespace Go.Proofs.Ytimfoggjocajiaa
open Go.RowKit

/-- Numbers as the cells of an array of ints. -/
def i64s (zs : List Int) : Array Value := (zs.map (Value.int .i64)).toArray

theorem i64s_size (zs : List Int) : (i64s zs).size = zs.length := by simp [i64s]

theorem i64s_get {zs : List Int} {j : Nat} (h : j < zs.length) : (i64s zs)[j]? = some (.int .i64 (zs.getD j 0)) := by
  simp [i64s, List.getD, h]

theorem i64s_one (zs : List Int) : (i64s zs).all (·.oneCell') = true := by
  rw [Array.all_eq_true_iff_forall_mem]
  intro v hv
  simp [i64s] at hv
  obtain ⟨a, _, rfl⟩ := hv
  rfl

theorem i64s_set (zs : List Int) (k : Nat) (y : Int) : (i64s zs).setIfInBounds k (.int .i64 y) = i64s (zs.set k y) := by
  apply Array.toList_inj.1
  simp [i64s]

def zerosK : List Int := [0, 0, 0, 0, 0, 0, 0, 0, 0, 0, 0, 0]

end Go.Proofs.Ytimfoggjocajiaa

/- Plain: the rows that lead from rows to rows. -/
namespace Go.Proofs.Ytimfoggjocajiaa
open Go.RowKit

/-- What undoes a row. -/
def un (r : List Int) : List Int := (List.range r.length).map (fun (i : Nat) => ((((List.range r.length).find? (fun j => r.getD j 0 == (i : Int))).getD 0 : Nat) : Int))

theorem un_undoes {r : List Int} (hr : isRow r) : Undoes (un r) r := by
  refine ⟨by simp [un], fun j hj => ?_⟩
  have h1 := hr.at hj
  obtain ⟨m, hm⟩ := Int.eq_ofNat_of_zero_le h1.1
  have hm2 : m < r.length := by omega
  rw [hm, Int.toNat_natCast]
  have e : (un r).getD m 0 = ((((List.range r.length).find? (fun j => r.getD j 0 == (m : Int))).getD 0 : Nat) : Int) := by
    simp [un, List.getD, hm2]
  rw [e]
  cases hf : (List.range r.length).find? (fun j => r.getD j 0 == (m : Int)) with
  | none =>
    have := List.find?_eq_none.1 hf j (List.mem_range.2 hj)
    simp only [beq_iff_eq] at this
    exact absurd hm this
  | some j' =>
    have h2 := List.find?_some hf
    have h3 := List.mem_range.1 (List.mem_of_find?_eq_some hf)
    simp only [beq_iff_eq] at h2
    have := hr.inj h3 hj (by rw [h2]; exact hm.symm)
    rw [this]
    rfl

theorem undoes_un {zs r : List Int} (hr : isRow r) (h : Undoes zs r) : zs = un r := by
  have hu := un_undoes hr
  refine List.ext_getElem (by rw [h.1, hu.1]) (fun i h1 h2 => ?_)
  have hi : i < r.length := by rw [← h.1]; exact h1
  obtain ⟨j, hj, e⟩ := isRow_onto hr hi
  have a1 := h.2 j hj
  have a2 := hu.2 j hj
  rw [e, Int.toNat_natCast] at a1 a2
  simp only [List.getD, List.getElem?_eq_getElem h1, List.getElem?_eq_getElem h2, Option.getD_some] at a1 a2
  rw [a1, a2]

structure Rw (n : Nat) (r : List Int) : Prop where
  row : isRow r
  len : r.length = n

theorem Rw.un {n : Nat} {r : List Int} (h : Rw n r) : Rw n (un r) := ⟨isRow_undoes h.row (un_undoes h.row), by rw [(un_undoes h.row).1, h.len]⟩

theorem Rw.by {n : Nat} {a b : List Int} (ha : Rw n a) (hb : Rw n b) : Rw n (by_ a b) := ⟨isRow_by ha.row hb.row (by rw [ha.len, hb.len]), by rw [by_length, hb.len]⟩

theorem Rw.rnd (n : Nat) : Rw n (rnd n) := ⟨isRow_rnd n, rnd_length n⟩

theorem Rw.pad_un {n : Nat} (h12 : n ≤ 12) {r : List Int} (h : Rw n r) : pad (Go.Proofs.Ytimfoggjocajiaa.un r) = (pad r)⁻¹ := pad_undoes (by rw [h.len]; exact h12) h.row (un_undoes h.row)

theorem Rw.pad_by {n : Nat} (h12 : n ≤ 12) {a b : List Int} (ha : Rw n a) (hb : Rw n b) : pad (by_ a b) = pad a * pad b := Go.Proofs.Ytimfoggjocajiaa.pad_by (by rw [ha.len]; exact h12) ha.row hb.row (by rw [ha.len, hb.len])

theorem Rw.eq {n : Nat} (h12 : n ≤ 12) {a b : List Int} (ha : Rw n a) (hb : Rw n b) (h : pad a = pad b) : a = b := pad_inj (by rw [ha.len]; exact h12) ha.row hb.row (by rw [ha.len, hb.len]) h

/-- All rows that make one of another. -/
def pr (L : List (List Int)) : List (List Int) := L.flatMap (fun one => L.map (fun other => by_ other (un one)))

def stp1 (n : Nat) (acc : List (List Int)) (h : List Int) : List (List Int) := if h = rnd n ∨ h ∈ acc then acc else acc ++ [h]

def hdsTo (n : Nat) (ps : List (List Int)) : List (List Int) := ps.foldl (stp1 n) []

theorem hdsTo_snoc (n : Nat) (ps : List (List Int)) (h : List Int) : hdsTo n (ps ++ [h]) = stp1 n (hdsTo n ps) h := by simp [hdsTo, List.foldl_append]

theorem snoc_ind {α : Type} {p : List α → Prop} (h0 : p []) (h1 : ∀ l x, p l → p (l ++ [x])) (l : List α) : p l := by
  have key : ∀ r : List α, p r.reverse := fun r => by
    induction r with
    | nil => simpa using h0
    | cons x r ih => rw [List.reverse_cons]; exact h1 _ _ ih
  have := key l.reverse
  rwa [List.reverse_reverse] at this

theorem sum_const {α : Type} (c : Nat) : ∀ l : List α, (l.map (fun _ => c)).sum = l.length * c
  | [] => by simp
  | _ :: l => by rw [List.map_cons, List.sum_cons, sum_const c l, List.length_cons, Nat.succ_mul]; omega

theorem hdsTo_fact (n : Nat) (ps : List (List Int)) : (hdsTo n ps).Nodup ∧ (∀ h, h ∈ hdsTo n ps ↔ h ∈ ps ∧ h ≠ rnd n) ∧ (hdsTo n ps).length ≤ ps.length := by
  refine snoc_ind (p := fun ps => (hdsTo n ps).Nodup ∧ (∀ h, h ∈ hdsTo n ps ↔ h ∈ ps ∧ h ≠ rnd n) ∧ (hdsTo n ps).length ≤ ps.length) ?_ ?_ ps
  · exact ⟨by simp [hdsTo], by simp [hdsTo], by simp [hdsTo]⟩
  · intro ps x ih
    obtain ⟨a1, a2, a3⟩ := ih
    rw [hdsTo_snoc]
    unfold stp1
    by_cases hx : x = rnd n ∨ x ∈ hdsTo n ps
    · rw [if_pos hx]
      refine ⟨a1, fun h => ?_, by rw [List.length_append]; exact Nat.le_trans a3 (Nat.le_add_right _ _)⟩
      rw [a2 h, List.mem_append, List.mem_singleton]
      constructor
      · exact fun ⟨b1, b2⟩ => ⟨Or.inl b1, b2⟩
      · rintro ⟨b1 | rfl, b2⟩
        · exact ⟨b1, b2⟩
        · exact (a2 h).1 (hx.resolve_left b2)
    · rw [if_neg hx]
      have hx1 : x ≠ rnd n := fun e => hx (Or.inl e)
      have hx2 : x ∉ hdsTo n ps := fun e => hx (Or.inr e)
      refine ⟨List.nodup_append.2 ⟨a1, by simp, fun a ha b hb => by simp at hb; subst hb; exact fun e => hx2 (e ▸ ha)⟩, fun h => ?_, by simp; exact a3⟩
      rw [List.mem_append, a2 h, List.mem_append, List.mem_singleton]
      constructor
      · rintro (⟨b1, b2⟩ | rfl)
        · exact ⟨Or.inl b1, b2⟩
        · exact ⟨Or.inr rfl, hx1⟩
      · rintro ⟨b1 | rfl, b2⟩
        · exact Or.inl ⟨b1, b2⟩
        · exact Or.inr rfl

theorem pr_mem {L : List (List Int)} {h : List Int} : h ∈ pr L ↔ ∃ one, one ∈ L ∧ ∃ other, other ∈ L ∧ by_ other (un one) = h := by
  simp [pr, List.mem_flatMap, List.mem_map]

theorem pr_rows {n : Nat} {L : List (List Int)} (hL : ∀ r, r ∈ L → Rw n r) : ∀ h, h ∈ pr L → Rw n h := by
  intro h hh
  obtain ⟨one, h1, other, h2, rfl⟩ := pr_mem.1 hh
  exact (hL _ h2).by (hL _ h1).un

theorem pr_un {n : Nat} (h12 : n ≤ 12) {L : List (List Int)} (hL : ∀ r, r ∈ L → Rw n r) {h : List Int} (hh : h ∈ pr L) : un h ∈ pr L := by
  obtain ⟨one, h1, other, h2, rfl⟩ := pr_mem.1 hh
  refine pr_mem.2 ⟨other, h2, one, h1, ?_⟩
  have r1 := hL _ h1
  have r2 := hL _ h2
  refine Rw.eq h12 (r1.by r2.un) (r2.by r1.un).un ?_
  rw [(r2.by r1.un).pad_un h12, r1.pad_by h12 r2.un, r2.pad_by h12 r1.un, r1.pad_un h12, r2.pad_un h12, Pm.inv_prod, Pm.inv_inv]

theorem un_rnd {n : Nat} (h12 : n ≤ 12) {h : List Int} (hr : Rw n h) (e : un h = rnd n) : h = rnd n := by
  refine Rw.eq h12 hr (Rw.rnd n) ?_
  have := hr.pad_un h12
  rw [e, pad_rnd h12] at this
  rw [pad_rnd h12, ← Pm.inv_inv (pad h), ← this, Pm.inv_one]

theorem pr_length (L : List (List Int)) : (pr L).length = L.length * L.length := by
  unfold pr
  rw [List.length_flatMap]
  simp only [List.length_map]
  exact sum_const _ L

/-- The false heads of the rows of a lead. -/
def hds (n : Nat) (L : List (List Int)) : List (List Int) := hdsTo n (pr L)

end Go.Proofs.Ytimfoggjocajiaa

/- Contract: truth.keyOf; its maps at the operation. -/
namespace Go.Proofs.Ytimfoggjocajiaa
open Go.RowKit Go.Maps

theorem laidT : laidOutB Try.prog = true := by kernel_rfl

/-- A row as a key. -/
def kp (r : List Int) : List Int := r ++ zerosK.drop r.length

theorem kp_length {r : List Int} (h : r.length ≤ 12) : (kp r).length = 12 := by
  unfold kp
  rw [List.length_append, List.length_drop]
  have : zerosK.length = 12 := rfl
  omega

theorem kp_inj {n : Nat} {a b : List Int} (ha : a.length = n) (hb : b.length = n) (h : kp a = kp b) : a = b := by
  unfold kp at h
  have := congrArg (List.take n) h
  rwa [List.take_left' ha, List.take_left' hb] at this

theorem kp_ok {n : Nat} (h12 : n ≤ 12) {r : List Int} (h : Rw n r) : OkK .i64 (kp r) := by
  refine ⟨kp_length (by rw [h.len]; exact h12), fun z hz => ?_⟩
  unfold kp at hz
  rcases List.mem_append.1 hz with hz | hz
  · have := h.row.1 z hz
    rw [h.len] at this
    exact WalkArith.wf_i64 ⟨by omega, by omega⟩
  · have h0 : z = 0 := by
      have := List.mem_of_mem_drop hz
      simp [zerosK] at this
      exact this
    subst h0
    decide

end Go.Proofs.Ytimfoggjocajiaa

/- Contract: truth.repeated. -/
namespace Go.Proofs.Ytimfoggjocajiaa
open Go.RowKit Go.Maps

/-- What the loop knows of the rows that it has seen. -/
structure Seen (n : Nat) (L : List (List Int)) (k : Nat) (f : List Int → Option Value) : Prop where
  old : ∀ x, Rw n x → ((f (kp x)).isSome = true ↔ x ∈ L.take k)
  nodup : (L.take k).Nodup
  ints : ∀ zs v, f zs = some v → ∃ i, v = .int .i64 i

theorem seen_next {n k : Nat} {L : List (List Int)} {f : List Int → Option Value} (h : Seen n L k f) (hk : k < L.length) (hr : Rw n (L.getD k [])) (hn : f (kp (L.getD k [])) = none) (j : Int) : Seen n L (k + 1) (kupd f (kp (L.getD k [])) (.int .i64 j)) := by
  have ht : L.take (k + 1) = L.take k ++ [L.getD k []] := by
    rw [List.take_add_one, List.getElem?_eq_getElem hk]; simp [List.getD, List.getElem?_eq_getElem hk]
  have hnot : L.getD k [] ∉ L.take k := fun hm => by
    have := (h.old _ hr).2 hm
    rw [hn] at this
    cases this
  refine ⟨fun x hx => ?_, ?_, fun zs v hv => ?_⟩
  · rw [ht, List.mem_append, List.mem_singleton]
    unfold kupd
    by_cases e : kp x = kp (L.getD k [])
    · rw [if_pos e]
      have : x = L.getD k [] := kp_inj hx.len hr.len e
      simp [this]
    · rw [if_neg e, h.old x hx]
      exact ⟨Or.inl, fun h1 => h1.resolve_right (fun h2 => e (by rw [h2]))⟩
  · rw [ht]
    exact List.nodup_append.2 ⟨h.nodup, by simp, fun a ha b hb e => by rw [List.mem_singleton] at hb; rw [e, hb] at ha; exact hnot ha⟩
  · unfold kupd at hv
    by_cases e : zs = kp (L.getD k [])
    · rw [if_pos e] at hv; exact ⟨j, (Option.some.inj hv).symm⟩
    · rw [if_neg e] at hv; exact h.ints zs v hv

def RepPost (L : List (List Int)) (w : World) (e : Ending) (w' : World) : Prop :=
  ∃ (i j : Int) (t : Bool), e = .returned (.tuple #[.int .i64 i, .int .i64 j, .bool t]) ∧ (t = false ↔ L.Nodup) ∧ Below w.heap.size w w'

end Go.Proofs.Ytimfoggjocajiaa

/- Contract: truth.between. -/
namespace Go.Proofs.Ytimfoggjocajiaa
open Go.RowKit Go.Maps

theorem KMap.obj {K : TypeId} {q : IntKind} {w : World} {b n : Nat} {f : List Int → Option Value} (h : KMap K q w b n f) : ∃ es clock, w.heap[b]? = some (.map es clock) := by
  obtain ⟨D, ⟨es, c, h1, _⟩, _⟩ := h; exact ⟨es, c, h1⟩

theorem owns_kmap {K : TypeId} {q : IntKind} {w w' : World} {base e size n m k : Nat} {v : Value} {xs : List Value} {f : List Int → Option Value} (h : w.ownsRow base e size v n xs) (hm : KMap K q w m k f) (hg : w.grownBy w' (some m)) : w'.ownsRow base e size v n xs := by
  refine ⟨h.1, ?_⟩
  rcases h.2 with h2 | ⟨g, cap, cur, hv, hgg, hh, r⟩
  · exact Or.inl h2
  · refine Or.inr ⟨g, cap, cur, hv, hgg, ?_, r⟩
    rw [hg.block g (Array.getElem?_eq_some_iff.1 hh).1 (fun e' => ?_)]
    · exact hh
    · obtain ⟨es, c, ho⟩ := hm.obj
      injection e' with e'
      rw [← e', hh] at ho
      cases ho

theorem LL.kmap {K : TypeId} {q : IntKind} {w w' : World} {base m k : Nat} {v : Value} {vs : List Value} {xss : List (List Int)} {f : List Int → Option Value} (h : LL w base v vs xss) (hm : KMap K q w m k f) (hg : w.grownBy w' (some m)) : LL w' base v vs xss :=
  ⟨owns_kmap h.row hm hg, h.all.mono (fun _ _ _ h' => owns_kmap h' hm hg)⟩

theorem KMap.row {K : TypeId} {q : IntKind} {w w' : World} {base e size n m k : Nat} {v : Value} {xs : List Value} {f : List Int → Option Value} (hm : KMap K q w m k f) (h : w.ownsRow base e size v n xs) (hg : w.grownBy w' v.ownBlock) : KMap K q w' m k f := by
  refine hm.of_block (hg.block m hm.lt (fun e' => ?_))
  rcases h.2 with ⟨h2, _⟩ | ⟨g, cap, cur, hv, hgg, hh, r⟩
  · rw [h2] at e'; cases e'
  · rw [hv] at e'
    have e2 : g = m := by cases e'; rfl
    obtain ⟨es, c, ho⟩ := hm.obj
    rw [← e2, hh] at ho
    cases ho

/-- What the map tells. -/
def FS (n : Nat) (acc : List (List Int)) (f : List Int → Option Value) : Prop := ∀ x, Rw n x → ((f (kp x)).isSome = true ↔ x = rnd n ∨ x ∈ acc)

theorem FS.add {n : Nat} {acc : List (List Int)} {f : List Int → Option Value} (h : FS n acc f) {r : List Int} (hr : Rw n r) (v : Value) : FS n (acc ++ [r]) (kupd f (kp r) v) := by
  intro x hx
  unfold kupd
  by_cases e : kp x = kp r
  · rw [if_pos e]
    have : x = r := kp_inj hx.len hr.len e
    subst this
    simp
  · rw [if_neg e, h x hx, List.mem_append, List.mem_singleton]
    constructor
    · rintro (h1 | h1)
      · exact Or.inl h1
      · exact Or.inr (Or.inl h1)
    · rintro (h1 | h1 | h1)
      · exact Or.inl h1
      · exact Or.inr h1
      · exact absurd (by rw [h1]) e

theorem FS.start {n : Nat} (v : Value) : FS n [] (kupd (fun _ => none) (kp (rnd n)) v) := by
  intro x hx
  unfold kupd
  by_cases e : kp x = kp (rnd n)
  · rw [if_pos e]
    have : x = rnd n := kp_inj hx.len (rnd_length n) e
    simp [this]
  · rw [if_neg e]
    constructor
    · intro h; cases h
    · rintro (rfl | h)
      · exact absurd rfl e
      · cases h

theorem flat_get {α β : Type} (F : α → List β) (k : Nat) (hF : ∀ a, (F a).length = k) : ∀ (l : List α) (p q : Nat) (hp : p < l.length), q < k → (l.flatMap F)[p * k + q]? = (F l[p])[q]?
  | [], p, q, hp, _ => absurd hp (Nat.not_lt_zero _)
  | a :: l, 0, q, _, hq => by
    rw [List.flatMap_cons, Nat.zero_mul, Nat.zero_add, List.getElem?_append_left (by rw [hF]; exact hq)]
    rfl
  | a :: l, p + 1, q, hp, hq => by
    rw [List.flatMap_cons, List.getElem?_append_right (by rw [hF, Nat.succ_mul]; omega), hF, show (p + 1) * k + q - k = p * k + q from by rw [Nat.succ_mul]; omega]
    exact flat_get F k hF l p q (by simpa using hp) hq

theorem pr_next {L : List (List Int)} {p q : Nat} (hp : p < L.length) (hq : q < L.length) : (pr L).take (p * L.length + q + 1) = (pr L).take (p * L.length + q) ++ [by_ (L.getD q []) (un (L.getD p []))] := by
  have h : (pr L)[p * L.length + q]? = some (by_ (L.getD q []) (un (L.getD p []))) := by
    unfold pr
    rw [flat_get _ L.length (fun a => List.length_map _) L p q hp hq, List.getElem?_map, List.getElem?_eq_getElem hq]
    simp [List.getD, List.getElem?_eq_getElem hq, List.getElem?_eq_getElem hp]
  rw [List.take_add_one, h]
  rfl

end Go.Proofs.Ytimfoggjocajiaa

/- Contract: truth.between. -/
namespace Go.Proofs.Ytimfoggjocajiaa
open Go.RowKit Go.Maps

def BetPost (n : Nat) (L : List (List Int)) (w : World) (e : Ending) (w' : World) : Prop := ∃ u vs, e = .returned u ∧ LL w' w.heap.size u vs (hds n L) ∧ Below w.heap.size w w'

end Go.Proofs.Ytimfoggjocajiaa

/- Plain: the runes of a text. -/
namespace Go.Proofs.Ytimfoggjocajiaa
open Go.RowKit Go.Lib

/-- The runes of a text from a place on, at most so many. -/
def rns (s : ByteArray) : Nat → Nat → List Nat
  | 0, _ => []
  | f + 1, pos => if pos < s.size then (Utf8.decode s pos).1 :: rns s f (pos + (Utf8.decode s pos).2) else []

def runesOf (s : ByteArray) : List Nat := rns s s.size 0

theorem rns_length (s : ByteArray) : ∀ f pos, (rns s f pos).length ≤ f
  | 0, _ => by simp [rns]
  | f + 1, pos => by
    have ih := rns_length s f (pos + (Utf8.decode s pos).2)
    unfold rns
    split
    · simp; omega
    · simp

theorem runesOf_length (s : ByteArray) : (runesOf s).length ≤ s.size := rns_length s _ _

/-- Runes up to a place, and the rest. -/
def RunesTo (s : ByteArray) (pre : List Nat) (pos : Nat) : Prop := ∃ f, s.size - pos ≤ f ∧ runesOf s = pre ++ rns s f pos

theorem runesTo_start (s : ByteArray) : RunesTo s [] 0 := ⟨s.size, by omega, rfl⟩

theorem RunesTo.next {s : ByteArray} {pre : List Nat} {pos : Nat} (h : RunesTo s pre pos) (hp : pos < s.size) : RunesTo s (pre ++ [(Utf8.decode s pos).1]) (pos + (Utf8.decode s pos).2) := by
  obtain ⟨f, hf, e⟩ := h
  have hw := decode_width_pos s pos hp
  match f, hf, e with
  | 0, hf, _ => omega
  | f + 1, hf, e =>
    refine ⟨f, by omega, ?_⟩
    rw [e, rns, if_pos hp, List.append_assoc, List.singleton_append]

theorem RunesTo.done {s : ByteArray} {pre : List Nat} {pos : Nat} (h : RunesTo s pre pos) (hp : ¬ pos < s.size) : runesOf s = pre := by
  obtain ⟨f, hf, e⟩ := h
  rw [e]
  cases f with
  | zero => simp [rns]
  | succ f => rw [rns, if_neg hp, List.append_nil]

theorem RunesTo.mem {s : ByteArray} {pre : List Nat} {pos : Nat} (h : RunesTo s pre pos) (hp : pos < s.size) : (Utf8.decode s pos).1 ∈ runesOf s ∧ pre.length < s.size := by
  obtain ⟨f, hf, e⟩ := h.next hp
  constructor
  · rw [e]; simp
  · have := runesOf_length s
    rw [e] at this
    simp at this
    omega

theorem decode_le (s : ByteArray) (pos : Nat) : (Utf8.decode s pos).1 ≤ 1114111 := by
  rw [decode_at]
  have h0 : (s.get! pos).toNat < 256 := UInt8.toNat_lt _
  unfold decodeN
  repeat' split
  all_goals simp only
  all_goals omega

end Go.Proofs.Ytimfoggjocajiaa

/- Contracts: ofName, Name of package method, at every text. -/
namespace Go.Proofs.Ytimfoggjocajiaa
open Go.RowKit Go.Lib

/-- May a rune be in a name? -/
def ofn (r : Nat) : Bool := decide (65 ≤ r ∧ r ≤ 90 ∨ 97 ≤ r ∧ r ≤ 122 ∨ 48 ≤ r ∧ r ≤ 57 ∨ r = 32 ∨ (192 ≤ r ∧ r ≤ 382 ∧ r ≠ 215 ∧ r ≠ 247))

/-- The k-th byte; 0 beyond. -/
def bt (s : ByteArray) (k : Nat) : Nat := ((s.data.toList[k]?).getD 0).toNat

theorem bt_get {s : ByteArray} {k : Nat} (h : k < s.size) : (s[k]'h).toNat = bt s k := by
  have h' : k < s.data.toList.length := by rw [Array.length_toList]; exact h
  unfold bt
  rw [List.getElem?_eq_getElem h', Option.getD_some]
  rfl

theorem bt_lt (s : ByteArray) (k : Nat) : bt s k < 256 := by unfold bt; exact UInt8.toNat_lt _

/-- Is it a name? -/
def nm (s : ByteArray) : Bool := (runesOf s).all ofn && decide (1 ≤ (runesOf s).length ∧ (runesOf s).length ≤ 20 ∧ bt s 0 ≠ 32 ∧ bt s (s.size - 1) ≠ 32)

theorem nm_bad {s : ByteArray} {r : Nat} (h : r ∈ runesOf s) (hr : ofn r = false) : nm s = false := by
  unfold nm
  rw [show (runesOf s).all ofn = false from by rw [List.all_eq_false]; exact ⟨r, h, by simp [hr]⟩]
  rfl

structure NameRel (w wr : World) (s : ByteArray) (pre : List Nat) (pos : Nat) : Prop where
  iter : wr.heap[w.heap.size]? = some (.stringIter s pos)
  rto : RunesTo s pre pos
  all : pre.all ofn = true
  size : w.heap.size < wr.heap.size
  below : Below w.heap.size w wr
end Go.Proofs.Ytimfoggjocajiaa

/- Contract: method.mayCount. -/
namespace Go.Proofs.Ytimfoggjocajiaa
open Go.RowKit

end Go.Proofs.Ytimfoggjocajiaa

/- Contracts: method.Check. -/
namespace Go.Proofs.Ytimfoggjocajiaa
open Go.RowKit

/-- A method as a value. -/
abbrev meth (s : ByteArray) (n : Int) (v : Value) : Value := .agg #[.string s, .int .i64 n, v]

/-- Where a method lies. -/
structure Box (w : World) (B : Nat) (s : ByteArray) (n : Int) (v : Value) : Prop where
  c0 : w.cell? ⟨B, 0, none⟩ = some (.string s)
  c1 : w.cell? ⟨B, 1, none⟩ = some (.int .i64 n)
  c2 : w.cell? ⟨B, 2, none⟩ = some v
  lt : B < w.heap.size

theorem Box.start (w : World) (s : ByteArray) (n : Int) (v : Value) (t : TypeId) : Box (w.alloc (.cells #[.string s, .int .i64 n, v] t)) w.heap.size s n v := by
  refine ⟨?_, ?_, ?_, by simp⟩ <;> simp

theorem Box.below {w w' : World} {B : Nat} {s : ByteArray} {n : Int} {v : Value} (h : Box w B s n v) (hb : Below w.heap.size w w') : Box w' B s n v :=
  ⟨(hb.cell (p := ⟨B, 0, none⟩) h.lt).trans h.c0, (hb.cell (p := ⟨B, 1, none⟩) h.lt).trans h.c1, (hb.cell (p := ⟨B, 2, none⟩) h.lt).trans h.c2, Nat.lt_of_lt_of_le h.lt hb.size⟩

end Go.Proofs.Ytimfoggjocajiaa

/- Contract: ChangeOf. -/
namespace Go.Proofs.Ytimfoggjocajiaa
open Go.RowKit

end Go.Proofs.Ytimfoggjocajiaa

/- Contract: ChangesOf. -/
namespace Go.Proofs.Ytimfoggjocajiaa
open Go.RowKit

end Go.Proofs.Ytimfoggjocajiaa

/- What is known of a row behind a slice; the contracts of package row in its terms. -/
namespace Go.Proofs.Ytimfoggjocajiaa
open Go.RowKit

/-- What is known of a row behind a slice. -/
structure RowAt (w : World) (v : Value) (n : Nat) (X : List Int) : Prop where
  ints : Ints w v X
  row : isRow X
  len : X.length = n

theorem RowAt.below {w w' : World} {v : Value} {n : Nat} {X : List Int} (h : RowAt w v n X) (hb : Below w.heap.size w w') : RowAt w' v n X := ⟨h.ints.below hb, h.row, h.len⟩

theorem times_row {n : Nat} {v1 v2 : Value} {X Y : List Int} {w : World} (h1 : 1 ≤ n) (h2 : n ≤ 12) (hx : RowAt w v1 n X) (hy : RowAt w v2 n Y) :
    Calls Try.prog 113 #[v1, v2] w fun e w' => ∃ v, e = .returned (.tuple #[v, .int .i64 0]) ∧ RowAt w' v n (by_ X Y) ∧ Below w.heap.size w w' := by
  have e1 := hx.len
  have e2 := hy.len
  refine (times_ok v1 v2 X Y w hx.ints hy.ints hx.row hy.row (by omega) (by omega) (by omega)).mono ?_
  rintro e w' ⟨v, rfl, hi, hb⟩
  exact ⟨v, rfl, ⟨hi, isRow_by hx.row hy.row (by omega), by rw [by_length]; exact e2⟩, hb⟩

theorem back_row {n : Nat} {v1 : Value} {X : List Int} {w : World} (h1 : 1 ≤ n) (h2 : n ≤ 12) (hx : RowAt w v1 n X) :
    Calls Try.prog 115 #[v1] w fun e w' => ∃ v Z, e = .returned (.tuple #[v, .int .i64 0]) ∧ RowAt w' v n Z ∧ by_ X Z = rnd n ∧ Below w.heap.size w w' := by
  have e1 := hx.len
  refine (back_ok v1 X w hx.ints hx.row (by omega) (by omega)).mono ?_
  rintro e w' ⟨v, Z, rfl, hi, hu, hb⟩
  exact ⟨v, Z, rfl, ⟨hi, isRow_undoes hx.row hu, hu.1.trans e1⟩, by rw [by_undoes hx.row hu, e1], hb⟩

theorem order_row {n : Nat} {v1 : Value} {X : List Int} {w : World} (h1 : 1 ≤ n) (h2 : n ≤ 12) (hx : RowAt w v1 n X) :
    Calls Try.prog 59 #[v1] w fun e w' => ∃ o : Nat, 1 ≤ o ∧ o ≤ 1000000000000000 ∧ e = .returned (.tuple #[.int .i64 (o : Int), .bool (odd X), .int .i64 0]) ∧ Below w.heap.size w w' := by
  have e1 := hx.len
  refine (order_ok v1 X w hx.ints hx.row (by omega) (by omega)).mono ?_
  rintro e w' ⟨rfl, hb⟩
  have hall := cycsTo_len hx.row X.length (Nat.le_refl _)
  have hbd := ordTo_bound (xss := cycsTo X X.length) (fun x hx => by have := hall x hx; omega) (cycsTo X X.length).length (Nat.le_refl _)
  have hl := cycsTo_length X X.length
  have hpw : 12 ^ (cycsTo X X.length).length ≤ 12 ^ 12 := Nat.pow_le_pow_right (by decide) (by omega)
  exact ⟨_, hbd.1, by have : 12 ^ 12 ≤ 1000000000000000 := by decide
                      omega, rfl, hb⟩

theorem order_ord {n : Nat} {v1 : Value} {X : List Int} {w : World} (h1 : 1 ≤ n) (h2 : n ≤ 12) (hx : RowAt w v1 n X) :
    Calls Try.prog 59 #[v1] w fun e w' => e = .returned (.tuple #[.int .i64 (ord X : Nat), .bool (odd X), .int .i64 0]) ∧ 1 ≤ ord X ∧ ord X ≤ 1000000000000000 ∧ Below w.heap.size w w' := by
  have e1 := hx.len
  refine (order_ok v1 X w hx.ints hx.row (by omega) (by omega)).mono ?_
  rintro e w' ⟨rfl, hb⟩
  have hp := ord_pos hx.row (by omega)
  exact ⟨rfl, hp.1, hp.2, hb⟩

theorem RowAt.own {w : World} {base : Nat} {v : Value} {n : Nat} {X : List Int} (h : w.ownsRow base 3 1 v n (X.map (Value.int .i64))) (hr : isRow X) : RowAt w v n X :=
  ⟨Ints.own h, hr, by have := h.1; simpa using this⟩

end Go.Proofs.Ytimfoggjocajiaa

/- Contract: method.Lead. -/
namespace Go.Proofs.Ytimfoggjocajiaa
open Go.RowKit

/-- Rounds, changed by changes. -/
def prd (n : Nat) (ts : List (List Bool)) : List Int := ts.foldl (fun r t => by_ r (trow t)) (rnd n)

theorem prd_snoc (n : Nat) (ts : List (List Bool)) (t : List Bool) : prd n (ts ++ [t]) = by_ (prd n ts) (trow t) := by simp [prd, List.foldl_append]

theorem fold_row (n : Nat) : ∀ (ts : List (List Bool)) (r : List Int), isRow r → r.length = n → (∀ t, t ∈ ts → tsz t = n) → isRow (ts.foldl (fun r t => by_ r (trow t)) r) ∧ (ts.foldl (fun r t => by_ r (trow t)) r).length = n
  | [], _, hr, hl, _ => ⟨hr, hl⟩
  | t :: ts, r, hr, hl, h => by
    have ht : tsz t = n := h t (by simp)
    exact fold_row n ts _ (isRow_by hr (trow_row t) (by rw [trow_length, ht, hl])) (by rw [by_length, trow_length, ht]) (fun t' ht' => h t' (List.mem_cons_of_mem _ ht'))

theorem prd_row (n : Nat) (ts : List (List Bool)) (h : ∀ t, t ∈ ts → tsz t = n) : isRow (prd n ts) ∧ (prd n ts).length = n := fold_row n ts _ (isRow_rnd n) (rnd_length n) h

/-- The first rows of a lead. -/
def leadTo (n : Nat) (ts : List (List Bool)) (k : Nat) : List (List Int) := (List.range (k + 1)).map (fun j => prd n (ts.take j))

theorem leadTo_snoc (n : Nat) (ts : List (List Bool)) (k : Nat) : leadTo n ts (k + 1) = leadTo n ts k ++ [prd n (ts.take (k + 1))] := by
  unfold leadTo; rw [List.range_succ, List.map_append]; rfl

theorem leadTo_length (n : Nat) (ts : List (List Bool)) (k : Nat) : (leadTo n ts k).length = k + 1 := by simp [leadTo]

theorem leadTo_get {n k j : Nat} {ts : List (List Bool)} (h : j ≤ k) : (leadTo n ts k).getD j [] = prd n (ts.take j) := by
  simp [leadTo, List.getD, Nat.lt_succ_of_le h]

theorem tile_ok {n : Nat} {ts : List (List Bool)} (h : ∀ t, t ∈ ts → tsz t = n) {k : Nat} (hk : k < (ts.map tpl).length) : okc n 0 ((ts.map tpl).getD k []) = true := by
  have hk' : k < ts.length := by simpa using hk
  rw [show (ts.map tpl).getD k [] = tpl ts[k] from by simp [List.getD, hk'], ← h ts[k] (List.getElem_mem hk')]
  exact okc_self _

/-- What the loop of Lead knows. -/
structure LeadRel (w wr : World) (s : ByteArray) (n : Nat) (v : Value) (ts : List (List Bool)) (k : Nat) (r u : Value) (vs : List Value) : Prop where
  box : Box wr w.heap.size s n v
  ll : LL wr (w.heap.size + 1) u vs (leadTo n ts k)
  row : wr.ownsRow (w.heap.size + 1) 3 1 r n ((prd n (ts.take k)).map (Value.int .i64))
  below : Below w.heap.size w wr

theorem take_next {ts : List (List Bool)} {k : Nat} (h : k < ts.length) : ts.take (k + 1) = ts.take k ++ [ts[k]] := List.take_succ_eq_append_getElem h

end Go.Proofs.Ytimfoggjocajiaa

/- Plain: the first lists of a list of lists; the rows of a lead. -/
namespace Go.Proofs.Ytimfoggjocajiaa
open Go.RowKit Go.Maps

/-- The first lists of a list of lists. -/
theorem LL.front {w : World} {base g N cap k : Nat} {vs : List Value} {X : List (List Int)} (h : LL w base (.slice (some ⟨g, 0, none⟩) N cap) vs X) (hN : vs.length = N) (hk : k ≤ N) (h1 : 1 ≤ k) (hg : g < w.heap.size) (hc : N ≤ cap) (hc2 : cap ≤ 9223372036854775807) :
    IntsAll w (.slice (some ⟨g, 0, none⟩) k cap) (X.take k) := by
  have hr := h.row
  rw [hN] at hr
  have hXl := h.len
  refine ⟨vs.take k, Or.inr ⟨g, 0, cap, ?_, ?_, ?_, hc2, hg, fun j hj => ?_⟩, ?_, fun j hj => ?_⟩
  · rw [List.length_take, hN, Nat.min_eq_left hk]
  · rw [List.length_take, hN, Nat.min_eq_left hk]; exact h1
  · rw [List.length_take, hN, Nat.min_eq_left hk]; omega
  · have hj' : j < k := by rw [List.length_take, hN, Nat.min_eq_left hk] at hj; exact hj
    rw [Nat.zero_add, owns_val hr (by omega)]
    simp [List.getD, hj']
  · rw [List.length_take, List.length_take, hXl]
  · have hj' : j < k := by rw [List.length_take] at hj; omega
    have hjX : j < X.length := by rw [← hXl, hN]; omega
    have := Ints.own (h.at hjX)
    have e1 : (vs.take k).getD j undef = vs.getD j undef := by simp [List.getD, hj']
    have e2 : (X.take k).getD j [] = X.getD j [] := by simp [List.getD, hj']
    rw [e1, e2]
    exact this

/-- The rows of a lead, but the last one. -/
def ldr (n : Nat) (ts : List (List Bool)) : List (List Int) := (leadTo n ts ts.length).take ts.length

theorem ldr_length (n : Nat) (ts : List (List Bool)) : (ldr n ts).length = ts.length := by unfold ldr; rw [List.length_take, leadTo_length]; omega

theorem ldr_rows {n : Nat} {ts : List (List Bool)} (h : ∀ t, t ∈ ts → tsz t = n) : ∀ r, r ∈ ldr n ts → Rw n r := by
  intro r hr
  have hr' := List.mem_of_mem_take hr
  obtain ⟨j, hj, e⟩ := List.getElem_of_mem hr'
  have hl : (leadTo n ts ts.length).length = ts.length + 1 := leadTo_length n ts ts.length
  have h2 := leadTo_get (n := n) (ts := ts) (k := ts.length) (j := j) (by omega)
  rw [List.getD_eq_getElem?_getD, List.getElem?_eq_getElem hj, Option.getD_some, e] at h2
  have := prd_row n (ts.take j) (fun t ht => h t (List.mem_of_mem_take ht))
  rw [← h2] at this
  exact ⟨this.1, this.2⟩

end Go.Proofs.Ytimfoggjocajiaa

/- Contract: truth.Heads, over what call.Rows tells. -/
namespace Go.Proofs.Ytimfoggjocajiaa
open Go.RowKit

/-- What call.Rows tells. -/
def RowsPost (T : List (List Int)) (w : World) (e : Ending) (w' : World) : Prop := ∃ u vs, e = .returned (.tuple #[u, .int .i64 0]) ∧ LL w' w.heap.size u vs T ∧ Below w.heap.size w w'

theorem LL.keptRow {w w' : World} {base : Nat} {v : Value} {vs : List Value} {xss : List (List Int)} {u : Value} {k : Nat} {us : List Value} (h : LL w base v vs xss) (hu : w.ownsRow base 23 1 u k us) (hg : w.grownBy w' u.ownBlock) (hne : v.ownBlock = none ∨ v.ownBlock ≠ u.ownBlock) : LL w' base v vs xss :=
  ⟨h.row.kept hg hne, h.all.mono (fun _ _ _ h' => owns_kept_ty h' hu hg)⟩

theorem Box.keep {w w' : World} {b B : Nat} {s : ByteArray} {n : Int} {v : Value} (h : Box w b s n v) (hb : Below B w w') (hlt : b < B) : Box w' b s n v :=
  ⟨(hb.cell (p := ⟨b, 0, none⟩) hlt).trans h.c0, (hb.cell (p := ⟨b, 1, none⟩) hlt).trans h.c1, (hb.cell (p := ⟨b, 2, none⟩) hlt).trans h.c2, Nat.lt_of_lt_of_le h.lt hb.size⟩

/-- The heads. -/
def headsOf (T : List (List Int)) (k N : Nat) : List (List Int) := (List.range N).map (fun i => T.getD (i * k) [])

theorem headsOf_snoc (T : List (List Int)) (k j : Nat) : headsOf T k (j + 1) = headsOf T k j ++ [T.getD (j * k) []] := by
  unfold headsOf
  rw [List.range_succ, List.map_append]
  rfl

end Go.Proofs.Ytimfoggjocajiaa

/- Contract: call.leadOf: the rows of a lead that ends with a call. -/
namespace Go.Proofs.Ytimfoggjocajiaa
open Go.RowKit

/-- The changes of a lead that ends with a call. -/
def calledBy (ts ss : List (List Bool)) : List (List Bool) := ts.take (ts.length - ss.length) ++ ss

theorem calledBy_length {ts ss : List (List Bool)} (h : ss.length ≤ ts.length) : (calledBy ts ss).length = ts.length := by
  unfold calledBy; rw [List.length_append, List.length_take]; omega

theorem calledBy_mem {n : Nat} {ts ss : List (List Bool)} (h1 : ∀ t, t ∈ ts → tsz t = n) (h2 : ∀ t, t ∈ ss → tsz t = n) : ∀ t, t ∈ calledBy ts ss → tsz t = n := by
  intro t ht
  rcases List.mem_append.1 ht with h | h
  · exact h1 t (List.mem_of_mem_take h)
  · exact h2 t h

end Go.Proofs.Ytimfoggjocajiaa

/- Contract: the answer's Ends. -/
namespace Go.Proofs.Ytimfoggjocajiaa
open Go.RowKit
set_option maxRecDepth 20000
set_option linter.unusedVariables false

/-- 'append(a, b...)': a owned, b whatever came in, none too. -/
theorem run_append_vals {P : Program} (w : World) (base : Nat) (t ty e : TypeId) (i : TypeInfo) (z : Value) (bytes : Nat) (ht : P.underlying t = some (.slice e)) (hi : P.info? e = some i) (hz : i.zero = some z)
    (hsize : i.size = 1) (hby : i.bytes = bytes) (hzs : z.cells.size = 1)
    (v : Value) (n : Nat) (xs : List Value) (hown : w.ownsRow base e 1 v n xs)
    (u : Value) (news : List Value) (hsrc : Vals w u news) (h1 : ∀ u ∈ news, u.oneCell' = true)
    (h63 : n + news.length ≤ maxLen) (hbytes : (n + news.length) * bytes ≤ 140737488355328) (hbase : base ≤ w.heap.size) :
    ∃ v' w', (Builtin.append_ #[t, t] ty #[v, u]).run P w = .ok v' w' ∧ w'.ownsRow base e 1 v' (n + news.length) (xs ++ news) ∧ w.grownBy w' v.ownBlock := by
  rcases hsrc with ⟨rfl, p, c, rfl⟩ | ⟨b, off, cap, rfl, h0, hc, hm, hb, hcell⟩
  · rw [List.length_nil, Nat.add_zero, List.append_nil]
    have hr : w.grownBy w v.ownBlock := ⟨rfl, rfl, rfl, Nat.le_refl _, fun _ _ _ => rfl⟩
    rcases hown.2 with ⟨rfl, rfl⟩ | ⟨g2, cap2, cur2, rfl, _, _, hnc2, _⟩
    · exact ⟨_, w, run_append_nil_none (P := P) w t ty e i ht hi p c, hown, hr⟩
    · exact ⟨_, w, run_append_none (P := P) w t ty e i ht hi ⟨g2, 0, none⟩ n cap2 hnc2 p c, hown, hr⟩
  · obtain ⟨v', w', hr, h2, h3, _⟩ := run_append_keep (P := P) w base t ty e i z 1 bytes ht hi hz hsize hby hzs (by decide) v n xs hown ⟨b, off, none⟩ news.length cap news (by omega) (fun j u hu => by
      have hj := (List.getElem?_eq_some_iff.1 hu).1
      have := hcell j hj
      rw [List.getD_eq_getElem?_getD, hu] at this
      rw [Addr.add_lit]
      exact this) h1 h63 hbytes hbase
    exact ⟨v', w', hr, h2, h3⟩

/-- .. as one step of a region that draws. -/
theorem step_append_vals {P : Program} {ops : Array Oper} {o : Oper} {a : Act} {w : World} {K : Act → World → Prop} {Q : Exit → Act → World → Prop} {E : Prop} (hg : o.guard = none) (s x : Operand) (t : TypeId)
    (ho : o.op = .call { callee := .builtin .append, args := #[s, x], argTypes := #[t, t] })
    (base : Nat) (e : TypeId) (i : TypeInfo) (z : Value) (bytes : Nat) (ht : P.underlying t = some (.slice e)) (hi : P.info? e = some i) (hz : i.zero = some z)
    (hsize : i.size = 1) (hby : i.bytes = bytes) (hzs : z.cells.size = 1)
    (v : Value) (n : Nat) (xs : List Value) (hs : a.eval s = v) (hown : w.ownsRow base e 1 v n xs)
    (u : Value) (news : List Value) (hx : a.eval x = u) (hsrc : Vals w u news) (h1 : ∀ u ∈ news, u.oneCell' = true)
    (h63 : n + news.length ≤ maxLen) (hbytes : (n + news.length) * bytes ≤ 140737488355328) (hbase : base ≤ w.heap.size)
    (h : ∀ v' w', w'.ownsRow base e 1 v' (n + news.length) (xs ++ news) → w.grownBy w' v.ownBlock → K (a.put o.dst v') w') :
    if Region.wanted o (yielded ops a.tmps) = true then Oper.wp P o a w K Q else E := by
  have hw : Region.wanted o (yielded ops a.tmps) = true := by simp [Region.wanted, hg]
  rw [if_pos hw]
  obtain ⟨v', w', hr, h2, h3⟩ := run_append_vals (P := P) w base t o.type e i z bytes ht hi hz hsize hby hzs v n xs hown u news hsrc h1 h63 hbytes hbase
  unfold Oper.wp execOp
  simp only [ho, resolve, invoke, builtin, Sem.run_bind, Sem.run_pure, Result.andThen_ok, List.map_toArray, List.map_cons, List.map_nil, hs, hx, hr]
  exact h v' w' h2 h3

theorem alloc_new9 (w : World) (o : Obj) : (w.alloc o).heap[w.heap.size]? = some o := heap_alloc_new w o

theorem alloc_new9' (w : World) (o : Obj) {k : Nat} (h : k = w.heap.size) : (w.alloc o).heap[k]? = some o := by rw [h]; exact alloc_new9 w o

/-- A call's value. -/
def callV (sg : Int) (cv : Value) : Value := .agg #[.int .i32 sg, cv]

theorem Vals.take {w : World} {p : Option Addr} {m c k : Nat} {vs : List Value} (h : Vals w (.slice p m c) vs) (hk : k ≤ vs.length) : Vals w (.slice p k c) (vs.take k) := by
  rcases h with ⟨rfl, p', c', e⟩ | ⟨b, off, cap, e, h0, h1, h2, h3, hc⟩
  · simp at hk
    subst hk
    exact Or.inl ⟨rfl, _, _, rfl⟩
  · injection e with e1 e2 e3
    subst e1; subst e3
    have hl : (vs.take k).length = k := by rw [List.length_take]; omega
    rcases Nat.eq_zero_or_pos k with h9 | h9
    · subst h9; exact Or.inl ⟨rfl, _, _, rfl⟩
    · refine Or.inr ⟨b, off, c, by rw [hl], by omega, by omega, h2, h3, fun j hj => ?_⟩
      rw [hl] at hj
      rw [hc j (by omega)]
      simp [List.getD, hj]

theorem vals_len {w : World} {p : Option Addr} {m c : Nat} {vs : List Value} (h : Vals w (.slice p m c) vs) : m = vs.length := by
  rcases h with ⟨rfl, p', c', e⟩ | ⟨b, off, cap, e, _⟩
  · injection e
  · injection e

theorem vals_cap {w : World} {p : Option Addr} {m c : Nat} {vs : List Value} (h : Vals w (.slice p m c) vs) (h0 : 1 ≤ m) : m ≤ c ∧ ∃ b off, p = some ⟨b, off, none⟩ := by
  rcases h with ⟨rfl, p', c', e⟩ | ⟨b, off, cap, e, h0, h1, _⟩
  · injection e with _ e2 _; omega
  · injection e with e1 e2 e3
    subst e3
    exact ⟨by omega, b, off, e1⟩

end Go.Proofs.Ytimfoggjocajiaa
