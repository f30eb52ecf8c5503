/- Joined: RefA, Szs, GeA, AppK, Rep, Has, GrowA, Bring. -/
import Derived.Test.YtimfoggjocajiaaJ1
import Derived.Test.YtimfoggjocajiaaJ0
import Derived.Maps.AppendAt
import Derived.Deep.RegionLaw
import Derived.Deep.RegionWith
import Derived.Deep.RegionHeld3
/- Contracts of the answer's functions: RowMay, Undo, By. -/
namespace Go.Proofs.Ytimfoggjocajiaa
open Go.RowKit

/-- How often b is in the list. -/
def occ (b : Int) (xs : List Int) : Nat := (xs.filter (fun y => y == b)).length

theorem occ_le (b : Int) (xs : List Int) : occ b xs ≤ xs.length := List.length_filter_le _ _

theorem occ_snoc (b y : Int) (xs : List Int) : occ b (xs ++ [y]) = occ b xs + if y = b then 1 else 0 := by
  unfold occ
  rw [List.filter_append, List.length_append]
  by_cases h : y = b <;> simp [h]

theorem perm_of_sub {α : Type} [DecidableEq α] : ∀ (l m : List α), l.Nodup → (∀ x ∈ l, x ∈ m) → l.length = m.length → l.Perm m := by
  intro l
  induction l with
  | nil => intro m _ _ hl; rw [List.length_eq_zero_iff.1 hl.symm]
  | cons a l ih =>
    intro m hn hs hl
    have ha : a ∈ m := hs a List.mem_cons_self
    have hn' := List.nodup_cons.1 hn
    have h1 := ih (m.erase a) hn'.2 (fun x hx => (List.mem_erase_of_ne (fun e => hn'.1 (by rw [← e]; exact hx))).2 (hs x (List.mem_cons_of_mem _ hx))) (by rw [List.length_erase_of_mem ha]; simp at hl; omega)
    exact (h1.cons a).trans (List.perm_cons_erase ha).symm

theorem occ_mem {b : Int} {xs : List Int} (h : occ b xs = 1) : b ∈ xs := by
  unfold occ at h
  have h1 : 0 < (xs.filter (fun y => y == b)).length := by omega
  obtain ⟨y, hy⟩ := List.exists_mem_of_length_pos h1
  have h2 := List.mem_filter.1 hy
  have e : y = b := by simpa using h2.2
  rw [← e]; exact h2.1

theorem row_of_occ {xs : List Int} (h : ∀ b, b < xs.length → occ (b : Int) xs = 1) : isRow xs := by
  have hp := perm_of_sub (rnd xs.length) xs (isRow_rnd _).2 (fun x hx => by
    obtain ⟨i, hi, rfl⟩ := List.mem_map.1 hx
    exact occ_mem (h i (List.mem_range.1 hi))) (rnd_length _)
  exact isRow_perm hp.symm (isRow_rnd _)

theorem occ_of_row {xs : List Int} (h : isRow xs) {b : Nat} (hb : b < xs.length) : occ (b : Int) xs = 1 := by
  obtain ⟨j, hj, e⟩ := isRow_onto h hb
  have hm : (b : Int) ∈ xs := by
    rw [← e, show xs.getD j 0 = xs[j] from by simp [List.getD, List.getElem?_eq_getElem hj]]
    exact List.getElem_mem hj
  have key : ∀ (l : List Int), l.Nodup → (b : Int) ∈ l → occ (b : Int) l = 1 := by
    intro l
    induction l with
    | nil => intro _ hm; cases hm
    | cons x l ih =>
      intro hn hm
      have hn' := List.nodup_cons.1 hn
      unfold occ
      by_cases e : x = (b : Int)
      · subst e
        rw [List.filter_cons_of_pos (by simp), List.filter_eq_nil_iff.2 (fun y hy => by
          intro h2
          have e2 : y = (b : Int) := by simpa using h2
          exact hn'.1 (e2 ▸ hy))]
        rfl
      · rw [List.filter_cons_of_neg (by simpa using e)]
        rcases List.mem_cons.1 hm with h2 | h2
        · exact absurd h2.symm e
        · exact ih hn'.2 h2
  exact key xs h.2 hm

set_option maxRecDepth 20000 in
set_option maxHeartbeats 1000000 in
theorem rowMay_any (v : Value) (xs : List Int) (w : World) (h : Ints w v xs) :
    Calls Try.prog 23 #[v] w fun e w' => e = .returned (.int .i64 (chk xs)) ∧ w = w' := by
  by_cases hc12 : 1 ≤ xs.length ∧ xs.length ≤ 12
  · obtain ⟨hn1, hn2⟩ := hc12
    rcases h with ⟨rfl, p, c, rfl⟩ | ⟨b, off, cap, rfl, h0, hc, hm, hb, hcell⟩
    · simp at hn1
    · go_enter Try.func23, Try.ntmps23
      go_wp2
      go_loop [3] (fun sb => ∃ k : Nat, k ≤ xs.length ∧ sb = .int .i64 k ∧ Hid (∀ j, j < k → occ (j : Int) xs = 1)) (fun sb => xs.length - (intOf sb).toNat)
      case atStart => exact ⟨0, by omega, rfl, fun j hj => by omega⟩
      case round =>
        obtain ⟨k, hk, rfl, hg⟩ := hrel
        by_cases hlt : k < xs.length
        · go_wp2
          go_loop [4, 5] (fun sn si => ∃ i : Nat, i ≤ xs.length ∧ si = .int .i64 i ∧ sn = .int .i64 (occ (k : Int) (xs.take i))) (fun _ si => xs.length - (intOf si).toNat)
          case atStart => exact ⟨0, by omega, rfl, rfl⟩
          case round =>
            obtain ⟨i, hi, rfl, rfl⟩ := hrel
            have hol := occ_le (k : Int) (xs.take i)
            have hol2 : (xs.take i).length ≤ i := List.length_take_le _ _
            by_cases hit : i < xs.length
            · obtain ⟨y, hy, hcy⟩ := cellAt hcell hit
              have HS : Hid (occ (k : Int) (xs.take (i + 1)) = occ (k : Int) (xs.take i) + if y = (k : Int) then 1 else 0) := by show _ = _; rw [take_snoc xs i hit, hy.out]; exact occ_snoc _ _ _
              clear hcell
              by_cases hyk : y = (k : Int)
              · have ht : (y == (k : Int)) = true := by simpa using hyk
                have HYK := hide hyk
                clear hyk
                go_wp2
                go_round
                case rel => exact ⟨i + 1, by omega, by go_num, by rw [HS.out, if_pos HYK.out]; go_num⟩
                case measure => simp [intOf]; omega
              · have ht : (y == (k : Int)) = false := by simpa using hyk
                have HYK := hide hyk
                clear hyk
                go_wp2
                go_round
                case rel => exact ⟨i + 1, by omega, by go_num, by rw [HS.out, if_neg HYK.out]; go_num⟩
                case measure => simp [intOf]; omega
            · have e : xs.take i = xs := List.take_of_length_le (by omega)
              rw [e] at hol ⊢
              clear hcell e
              by_cases ho : occ (k : Int) xs = 1
              · have ht : ((occ (k : Int) xs : Int) != 1) = false := by rw [bne_eq_false_iff_eq]; omega
                have HG : Hid (∀ j, j < k + 1 → occ (j : Int) xs = 1) := by
                  intro j hj
                  by_cases e : j = k
                  · subst e; exact ho
                  · exact hg.out j (by omega)
                clear ho
                go_wp2
                go_round
                case rel => exact ⟨k + 1, by omega, by go_num, HG⟩
                case measure => simp [intOf]; omega
              · have ht : ((occ (k : Int) xs : Int) != 1) = true := by rw [bne_iff_ne]; omega
                have HB := hide (chk_row hn1 hn2 (fun hr => ho (occ_of_row hr hlt)))
                clear ho
                go_wp2
                go_ret
                exact ⟨ret_int HB.out.symm, rfl⟩
        · have HB := hide (chk_ok hn1 hn2 (row_of_occ (fun j hj => hg.out j (by omega))))
          clear hcell
          go_wp2
          go_ret
          exact ⟨ret_int HB.out.symm, rfl⟩
  · obtain ⟨p, c, rfl⟩ := h.form
    have HC := hide (chk_count hc12)
    by_cases h1 : ((xs.length : Nat) : Int) < 1
    · clear hc12 h
      go_enter Try.func23, Try.ntmps23
      go_wp2
      go_ret
      exact ⟨ret_int HC.out.symm, rfl⟩
    · have h2 : 12 < ((xs.length : Nat) : Int) := by omega
      have h3 : decide (12 < ((xs.length : Nat) : Int)) = true := by simp; omega
      clear hc12 h
      go_enter Try.func23, Try.ntmps23
      go_wp2
      go_ret
      exact ⟨ret_int HC.out.symm, rfl⟩

set_option maxRecDepth 20000 in
set_option maxHeartbeats 1000000 in
theorem undo_own (v1 : Value) (a : List Int) (w : World) (i1 : Ints w v1 a) (r1 : isRow a) (n1 : 1 ≤ a.length) (n2 : a.length ≤ 12) :
    Calls Try.prog 36 #[v1] w fun e w' => ∃ v zs, e = .returned v ∧ w'.ownsRow w.heap.size 3 1 v a.length (zs.map (Value.int .i64)) ∧ Undoes zs a ∧ Below w.heap.size w w' := by
  obtain ⟨i0, hi, hz0, hz1, hz2⟩ := info_parts Try.info3
  have R1 := hide r1
  rcases i1 with ⟨rfl, p, c, rfl⟩ | ⟨b1, o1, cap1, rfl, h01, hcp1, hm1, hb1, hcell1⟩
  · simp at n1
  clear r1
  go_enter Try.func36, Try.ntmps36
  go_wp2_with (at_make; refine wpList_make_full _ rfl _ _ 23 rfl w.heap.size 3 i0 (.int .i64 0) 1 Try.underlying23 hi hz0 hz1 _ _ _ _ a.length rfl rfl (by omega) (by omega) ?b2 ?b3 (Nat.le_refl _) ?_)
  case b2 => rw [hz2]; omega
  case b3 => unfold maxLen; omega
  intro w0 hown0 hgrow0
  rw [made_ints] at hown0
  go_wp2
  go_loopw [4] (fun i wr => ∃ (k : Nat) (zs : List Int), k ≤ a.length ∧ i = .int .i64 k ∧ wr.ownsRow w.heap.size 3 1 (.slice (some ⟨w.heap.size, 0, none⟩) a.length a.length) a.length (zs.map (Value.int .i64)) ∧ Hid (zs.length = a.length ∧ ∀ j, j < k → zs.getD (a.getD j 0).toNat 0 = (j : Int)) ∧ Below w.heap.size w wr) (fun i _ => a.length - (intOf i).toNat)
  case atStart => exact ⟨0, _, by omega, rfl, hown0, ⟨by simp, fun j hj => by omega⟩, (Below.refl _ _).grown hgrow0 (Nat.le_refl _) (fun k h => by cases h)⟩
  case round =>
    obtain ⟨k, zs, hk, rfl, hown, hz, hbw⟩ := hrel
    by_cases hlt : k < a.length
    · obtain ⟨p, hp, hcp⟩ := cellAt hcell1 hlt
      have hpr := R1.out.at hlt
      rw [show a.getD k 0 = p from hp.out] at hpr
      obtain ⟨m, rfl⟩ := Int.eq_ofNat_of_zero_le hpr.1
      have hma : m < a.length := by have := hpr.2; omega
      obtain ⟨y, hy, hcx, hfx⟩ := owns_cellAt hown hma
      have gp : wr.cell? ⟨b1, o1 + k, none⟩ = some (.int .i64 (m : Int)) := (hbw.cell (by exact hb1)).trans hcp
      have HZ := hide (back_step R1.out hlt hp.out hz.out)
      clear hcp hcell1 hpr
      go_wp2
      go_roundw
      case rel => exact ⟨k + 1, _, by omega, by go_num, owns_set_int hown _, HZ, hbw.setCell (Nat.le_refl _) _⟩
      case measure => simp [intOf]; omega
    · clear hcell1
      obtain rfl : k = a.length := by omega
      go_wp2
      go_ret
      exact ⟨_, zs, rfl, hown, hz.out, hbw⟩

theorem undo_ok (v1 : Value) (a : List Int) (w : World) (i1 : Ints w v1 a) (r1 : isRow a) (n1 : 1 ≤ a.length) (n2 : a.length ≤ 12) :
    Calls Try.prog 36 #[v1] w fun e w' => ∃ v zs, e = .returned v ∧ Ints w' v zs ∧ Undoes zs a ∧ Below w.heap.size w w' := by
  refine (undo_own v1 a w i1 r1 n1 n2).mono ?_
  rintro e w' ⟨v, zs, rfl, ho, hu, hb⟩
  exact ⟨v, zs, rfl, Ints.own ho, hu, hb⟩

theorem by_take_snoc (a b : List Int) (k m : Nat) (hk : k < b.length) (hm : b[k]?.getD 0 = (m : Int)) : by_ a (b.take (k + 1)) = by_ a (b.take k) ++ [a[m]?.getD 0] := by
  rw [take_snoc b k hk, hm]
  simp [by_, List.getD]

set_option maxRecDepth 20000 in
set_option maxHeartbeats 1000000 in
theorem rby_own (v1 v2 : Value) (a b : List Int) (w : World) (i1 : Ints w v1 a) (i2 : Ints w v2 b) (hb : ∀ j, j < b.length → 0 ≤ b.getD j 0 ∧ b.getD j 0 < a.length) (n1 : 1 ≤ a.length) (n2 : b.length ≤ 1000000) :
    Calls Try.prog 35 #[v1, v2] w fun e w' => ∃ v, e = .returned v ∧ w'.ownsRow w.heap.size 3 1 v b.length ((by_ a b).map (Value.int .i64)) ∧ Below w.heap.size w w' := by
  obtain ⟨i0, hi, hz0, hz1, hz2⟩ := info_parts Try.info3
  have HBd := hide hb
  clear hb
  rcases i1 with ⟨rfl, p, c, rfl⟩ | ⟨b1, o1, cap1, rfl, h01, hcp1, hm1, hb1, hcell1⟩
  · simp at n1
  obtain ⟨p2, cap2, e2, hcell2⟩ : ∃ p2 cap2, v2 = .slice p2 b.length cap2 ∧ Hid (∀ j, j < b.length → ∃ b2 o2, p2 = some ⟨b2, o2, none⟩ ∧ b.length ≤ cap2 ∧ cap2 ≤ 9223372036854775807 ∧ b2 < w.heap.size ∧ w.cell? ⟨b2, o2 + j, none⟩ = some (.int .i64 (b.getD j 0))) := by
    rcases i2 with ⟨rfl, p, c, rfl⟩ | ⟨b2, o2, cap2, rfl, h02, hcp2, hm2, hb2, hc2⟩
    · exact ⟨p, c, rfl, fun j hj => by simp at hj⟩
    · exact ⟨_, cap2, rfl, fun j hj => ⟨b2, o2, rfl, hcp2, hm2, hb2, hc2 j hj⟩⟩
  subst e2
  have HC1 := hide hcell1
  clear i2 hcell1
  go_enter Try.func35, Try.ntmps35
  go_wp2
  go_loopw [5, 6] (fun v i wr => ∃ k : Nat, k ≤ b.length ∧ i = .int .i64 k ∧ wr.ownsRow w.heap.size 3 1 v k ((by_ a (b.take k)).map (Value.int .i64)) ∧ Below w.heap.size w wr) (fun _ i _ => b.length - (intOf i).toNat)
  case atStart => exact ⟨0, by omega, rfl, World.ownsRow_nil _ _ _ _, Below.refl _ _⟩
  case round =>
    obtain ⟨k, hk, rfl, hown, hbw⟩ := hrel
    have hbs := hbw.size
    by_cases hlt : k < b.length
    · obtain ⟨b2, o2, rfl, hcp2, hm2, hb2, hc2⟩ := hcell2.out k hlt
      have hpr := HBd.out k hlt
      obtain ⟨m, hm⟩ := Int.eq_ofNat_of_zero_le hpr.1
      have hma : m < a.length := by have := hpr.2; omega
      obtain ⟨q, hq, hcq⟩ := cellAt HC1.out hma
      have gp : wr.cell? ⟨b2, o2 + k, none⟩ = some (.int .i64 (m : Int)) := (hbw.cell (by exact hb2)).trans (by rw [hc2, hm])
      have gq : wr.cell? ⟨b1, o1 + m, none⟩ = some (.int .i64 q) := (hbw.cell (by exact hb1)).trans hcq
      have HT : Hid (by_ a (b.take (k + 1)) = by_ a (b.take k) ++ [q]) := by show _ = _; rw [by_take_snoc a b k m hlt hm, hq.out]
      clear hcq hc2 hpr hm
      go_wp2_with (at_builtin; refine wpList_append_own _ rfl _ _ 23 rfl w.heap.size 3 i0 (.int .i64 0) 1 8 Try.underlying23 hi hz0 hz1 hz2 rfl (by decide) _ _ _ rfl (hown.alloc _) ⟨wr.heap.size, 0, none⟩ 1 1 [.int .i64 q] rfl rfl ?c1 ?c2 ?c3 ?c4 ?c5 ?_)
      case c1 => exact cell_one_new _ _ _
      case c2 => intro u hu; simp at hu; subst hu; rfl
      case c3 => unfold maxLen; omega
      case c4 => omega
      case c5 => simp; omega
      · intro v' w1 hown' hgrow _
        go_wp2
        go_roundw
        case rel => exact ⟨k + 1, by omega, by go_num, by rw [HT.out, List.map_append]; exact hown', (hbw.alloc hbw.size _).grown hgrow (by simp; omega) (fun g hg => (hown.lt g hg).1)⟩
        case measure => simp [intOf]; omega
    · obtain rfl : k = b.length := by omega
      rw [List.take_length] at hown
      go_wp2
      go_ret
      exact ⟨_, rfl, hown, hbw⟩

theorem rby_ok (v1 v2 : Value) (a b : List Int) (w : World) (i1 : Ints w v1 a) (i2 : Ints w v2 b) (hb : ∀ j, j < b.length → 0 ≤ b.getD j 0 ∧ b.getD j 0 < a.length) (n1 : 1 ≤ a.length) (n2 : b.length ≤ 1000000) :
    Calls Try.prog 35 #[v1, v2] w fun e w' => ∃ v, e = .returned v ∧ Ints w' v (by_ a b) ∧ Below w.heap.size w w' := by
  refine (rby_own v1 v2 a b w i1 i2 hb n1 n2).mono ?_
  rintro e w' ⟨v, rfl, ho, hb'⟩
  exact ⟨v, rfl, Ints.own ho, hb'⟩

end Go.Proofs.Ytimfoggjocajiaa

/- Plain: a group's size as the product of how many bells come to each place while those ahead stay. -/
namespace Go.Proofs.Ytimfoggjocajiaa

/-- Those that leave the first k bells. -/
def Low (G : Pm → Prop) (k : Nat) (x : Pm) : Prop := G x ∧ ∀ b, b < k → x.act b = b

/-- Which bells they bring to the k-th place. -/
def Orb (G : Pm → Prop) (k b : Nat) : Prop := ∃ x, Low G k x ∧ x.act k = b

open Classical in
noncomputable def orbL (G : Pm → Prop) (k : Nat) : List Nat := (List.range 12).filter (fun b => decide (Orb G k b))

noncomputable def oc (G : Pm → Prop) (k : Nat) : Nat := (orbL G k).length

noncomputable def sz (G : Pm → Prop) : Nat → Nat
  | 0 => 1
  | n + 1 => sz G n * oc G n

theorem mem_orbL {G : Pm → Prop} {k b : Nat} (hk : k < 12) : b ∈ orbL G k ↔ Orb G k b := by
  unfold orbL
  rw [List.mem_filter, List.mem_range, @decide_eq_true_iff _ (Classical.propDecidable _)]
  exact ⟨fun h => h.2, fun h => ⟨by obtain ⟨x, _, e⟩ := h; rw [← e]; exact x.act_lt hk, h⟩⟩

theorem orbL_nodup (G : Pm → Prop) (k : Nat) : (orbL G k).Nodup := List.Nodup.sublist List.filter_sublist List.nodup_range

theorem oc_of {G : Pm → Prop} {k : Nat} (hk : k < 12) {l : List Nat} (hn : l.Nodup) (h : ∀ b, b ∈ l ↔ Orb G k b) : l.length = oc G k :=
  Nat.le_antisymm (nodup_len l (orbL G k) hn (fun b hb => (mem_orbL hk).2 ((h b).1 hb))) (nodup_len (orbL G k) l (orbL_nodup G k) (fun b hb => (h b).2 ((mem_orbL hk).1 hb)))

theorem low_sub {G : Pm → Prop} (hG : Sub G) (k : Nat) : Sub (Low G k) :=
  ⟨⟨hG.one, fun b _ => Pm.act_one b⟩, fun hx hy => ⟨hG.mul hx.1 hy.1, fun b hb => by rw [Pm.act_mul, hy.2 b hb, hx.2 b hb]⟩, fun {x} hx => ⟨hG.inv hx.1, fun b hb => by have h := hx.2 b hb; rw [← h, Pm.inv_act, h]⟩⟩

theorem oc_pos {G : Pm → Prop} (hG : Sub G) {k : Nat} (hk : k < 12) : 1 ≤ oc G k := by
  have : k ∈ orbL G k := (mem_orbL hk).2 ⟨1, (low_sub hG k).one, Pm.act_one k⟩
  exact List.length_pos_of_mem this

theorem orb_mono {G H : Pm → Prop} (h : ∀ x, G x → H x) {k b : Nat} (ho : Orb G k b) : Orb H k b := by
  obtain ⟨x, hx, e⟩ := ho
  exact ⟨x, ⟨h x hx.1, hx.2⟩, e⟩

theorem oc_mono {G H : Pm → Prop} (h : ∀ x, G x → H x) {k : Nat} (hk : k < 12) : oc G k ≤ oc H k :=
  nodup_len _ _ (orbL_nodup G k) (fun _ hb => (mem_orbL hk).2 (orb_mono h ((mem_orbL hk).1 hb)))

theorem sz_pos {G : Pm → Prop} (hG : Sub G) {n : Nat} (hn : n ≤ 12) : 1 ≤ sz G n := by
  induction n with
  | zero => exact Nat.le_refl _
  | succ n ih => exact Nat.mul_pos (ih (by omega)) (oc_pos hG (by omega))

theorem sz_mono {G H : Pm → Prop} (h : ∀ x, G x → H x) {n : Nat} (hn : n ≤ 12) : sz G n ≤ sz H n := by
  induction n with
  | zero => exact Nat.le_refl _
  | succ n ih => exact Nat.mul_le_mul (ih (by omega)) (oc_mono h (by omega))

theorem sz_congr {G H : Pm → Prop} (h : ∀ x, G x ↔ H x) (n : Nat) : sz G n = sz H n := by
  have : G = H := funext (fun x => propext (h x))
  rw [this]

theorem oc_eq {G H : Pm → Prop} (hG : Sub G) (h : ∀ x, G x → H x) {n : Nat} (hn : n ≤ 12) (he : sz G n = sz H n) : ∀ k, k < n → oc G k = oc H k := by
  induction n with
  | zero => intro k hk; omega
  | succ n ih =>
    have h1 := sz_mono h (n := n) (by omega)
    have h2 := oc_mono h (k := n) (by omega)
    have p1 := sz_pos hG (n := n) (by omega)
    have p2 := oc_pos hG (k := n) (by omega)
    have he' : sz G n * oc G n = sz H n * oc H n := he
    have e1 : sz G n = sz H n := by
      rcases Nat.lt_or_ge (sz G n) (sz H n) with hlt | hge
      · have h3 : sz G n * oc G n < sz H n * oc G n := Nat.mul_lt_mul_of_pos_right hlt p2
        have h4 : sz H n * oc G n ≤ sz H n * oc H n := Nat.mul_le_mul_left _ h2
        omega
      · omega
    have e2 : oc G n = oc H n := by
      rw [e1] at he' p1
      exact Nat.eq_of_mul_eq_mul_left p1 he'
    intro k hk
    by_cases e : k = n
    · rw [e]; exact e2
    · exact ih (by omega) e1 k (by omega)

/-- A part of a group that is as great is the group. -/
theorem sz_all {G H : Pm → Prop} (hG : Sub G) (hH : Sub H) (h : ∀ x, G x → H x) {n : Nat} (hn : n ≤ 12) (hf : ∀ x, H x → Fixes (fun b => n ≤ b) x) (he : sz G n = sz H n) : ∀ x, H x → G x := by
  have hoc := oc_eq hG h hn he
  have key : ∀ d k, k + d = n → ∀ x, Low H k x → G x := by
    intro d
    induction d with
    | zero =>
      intro k hk x hx
      have : x = 1 := Pm.ext' (fun b _ => by
        rw [Pm.act_one]
        rcases Nat.lt_or_ge b n with hb | hb
        · exact hx.2 b (by omega)
        · exact hf x hx.1 b hb)
      rw [this]; exact hG.one
    | succ d ih =>
      intro k hk x hx
      have hk12 : k < 12 := by omega
      have hin : x.act k ∈ orbL H k := (mem_orbL hk12).2 ⟨x, hx, rfl⟩
      have hsub : ∀ b, b ∈ orbL H k → b ∈ orbL G k := by
        have hp := perm_of_sub (orbL G k) (orbL H k) (orbL_nodup G k) (fun b hb => (mem_orbL hk12).2 (orb_mono h ((mem_orbL hk12).1 hb))) (hoc k (by omega))
        exact fun b hb => hp.mem_iff.2 hb
      obtain ⟨u, hu, eu⟩ := (mem_orbL hk12).1 (hsub _ hin)
      have hlow : Low H (k + 1) (u⁻¹ * x) := by
        have h1 := (low_sub hH k).mul ((low_sub hH k).inv ⟨h u hu.1, hu.2⟩) hx
        refine ⟨h1.1, fun b hb => ?_⟩
        rcases Nat.lt_or_ge b k with hbk | hbk
        · exact h1.2 b hbk
        · have : b = k := by omega
          subst this
          rw [Pm.act_mul, ← eu, Pm.inv_act]
      have := hG.mul hu.1 (ih (k + 1) (by omega) _ hlow)
      rwa [Pm.mul_inv_cancel] at this
  exact fun x hx => key n 0 (by omega) x ⟨hx, fun b hb => by omega⟩

/-! the chain's own size -/

theorem low_plus {G : Pm → Prop} {k : Nat} {x : Pm} : Low G (k + 1) x ↔ Low G k x ∧ x.act k = k :=
  ⟨fun h => ⟨⟨h.1, fun b hb => h.2 b (by omega)⟩, h.2 k (by omega)⟩, fun h => ⟨h.1.1, fun b hb => by
    rcases Nat.lt_or_ge b k with h1 | h1
    · exact h.1.2 b h1
    · have : b = k := by omega
      subst this; exact h.2⟩⟩

/-- Of a whole chain: those that leave the first base are those of the rest; the table has just the bells that come there. -/
theorem whole_low {F : Nat → Prop} {l : Lk} {c : List Lk} (h : Whole F (l :: c)) (x : Pm) : Prd c x ↔ Prd (l :: c) x ∧ x.act l.base = l.base := by
  constructor
  · intro hx
    exact ⟨⟨_, h.1.first, x, hx, by rw [Pm.one_mul]⟩, (fixes_plus.1 (prd_fix h.2.1 hx)).2⟩
  · rintro ⟨⟨e, he, y, hy, rfl⟩, hb⟩
    have hy2 := (fixes_plus.1 (prd_fix h.2.1 hy)).2
    rw [Pm.act_mul, hy2, h.1.brings e he] at hb
    have e1 : e.2 = 1 := tab_eq h.1.nodup (b := l.base) (by rw [← hb]; exact he) h.1.first
    rw [e1, Pm.one_mul]; exact hy

theorem whole_orb {F : Nat → Prop} {l : Lk} {c : List Lk} (h : Whole F (l :: c)) (b : Nat) : b ∈ l.tab.map (·.1) ↔ ∃ x, Prd (l :: c) x ∧ x.act l.base = b := by
  constructor
  · intro hb
    obtain ⟨e, he, rfl⟩ := List.mem_map.1 hb
    exact ⟨e.2, ⟨e, he, 1, (prd_sub h.2.1).one, by rw [Pm.mul_one]⟩, h.1.brings e he⟩
  · rintro ⟨x, ⟨e, he, y, hy, rfl⟩, rfl⟩
    have hy2 := (fixes_plus.1 (prd_fix h.2.1 hy)).2
    rw [Pm.act_mul, hy2, h.1.brings e he]
    exact List.mem_map.2 ⟨e, he, rfl⟩

def tabs : List Lk → Nat
  | [] => 1
  | l :: c => l.tab.length * tabs c

theorem sz_tabs {G : Pm → Prop} : ∀ (c : List Lk) (k : Nat) (F : Nat → Prop), Whole F c → c.map (·.base) = (List.range c.length).map (fun i => k + i) → k + c.length ≤ 12 → (∀ x, Prd c x ↔ Low G k x) → sz G (k + c.length) = sz G k * tabs c
  | [], k, F, _, _, _, _ => by show sz G k = sz G k * 1; rw [Nat.mul_one]
  | l :: c, k, F, hw, hb, h12, hG => by
    have hb0 : l.base = k := by
      have := congrArg (fun m => m[0]?) hb
      simpa using this
    have hb1 : c.map (·.base) = (List.range c.length).map (fun i => (k + 1) + i) := by
      have := congrArg List.tail hb
      rw [List.map_cons, List.tail_cons, List.length_cons, List.range_succ_eq_map, List.map_cons, List.tail_cons, List.map_map] at this
      rw [this]
      apply List.map_congr_left
      intro i _
      show k + (i + 1) = k + 1 + i
      omega
    have hlen : (l :: c).length = c.length + 1 := rfl
    have hk : k < 12 := by rw [hlen] at h12; omega
    have hlow : ∀ x, Prd c x ↔ Low G (k + 1) x := fun x => by
      rw [whole_low hw x, hG x, low_plus, hb0]
    have hoc : l.tab.length = oc G k := by
      have := oc_of (G := G) hk hw.1.nodup (fun b => by
        rw [whole_orb hw b, hb0]
        exact ⟨fun ⟨x, hx, e⟩ => ⟨x, (hG x).1 hx, e⟩, fun ⟨x, hx, e⟩ => ⟨x, (hG x).2 hx, e⟩⟩)
      rwa [List.length_map] at this
    have ih := sz_tabs c (k + 1) _ hw.2.1 hb1 (by rw [hlen] at h12; omega) hlow
    rw [hlen, show k + (c.length + 1) = k + 1 + c.length from by omega, ih]
    show sz G k * oc G k * tabs c = sz G k * (l.tab.length * tabs c)
    rw [hoc, Nat.mul_assoc]

end Go.Proofs.Ytimfoggjocajiaa

/- Plain: all rows of a chain. -/
namespace Go.Proofs.Ytimfoggjocajiaa

/-- All rows of a chain, as the code lays them. -/
def allC : List Lk → List Pm
  | [] => [1]
  | l :: c => l.tab.flatMap (fun e => (allC c).map (fun p => e.2 * p))

theorem mem_allC : ∀ (c : List Lk) (x : Pm), x ∈ allC c ↔ Prd c x
  | [], x => by simp [allC, Prd]
  | l :: c, x => by
    simp only [allC, Prd, List.mem_flatMap, List.mem_map]
    constructor
    · rintro ⟨e, he, p, hp, rfl⟩
      exact ⟨e, he, p, (mem_allC c p).1 hp, rfl⟩
    · rintro ⟨e, he, p, hp, rfl⟩
      exact ⟨e, he, p, (mem_allC c p).2 hp, rfl⟩

theorem flat_len {α β : Type} (f : α → List β) (m : Nat) : ∀ (l : List α), (∀ e, e ∈ l → (f e).length = m) → (l.flatMap f).length = l.length * m
  | [], _ => by simp
  | e :: l, h => by
    rw [List.flatMap_cons, List.length_append, h e (by simp), flat_len f m l (fun x hx => h x (by simp [hx])), List.length_cons, Nat.succ_mul, Nat.add_comm]

theorem allC_len : ∀ (c : List Lk), (allC c).length = tabs c
  | [] => rfl
  | l :: c => by
    show (l.tab.flatMap _).length = l.tab.length * tabs c
    rw [flat_len _ (tabs c) l.tab (fun e _ => by rw [List.length_map, allC_len c])]

theorem nodup_flat {α : Type} (B : Nat × Pm → List Pm) (k : Pm → α) (key : Nat × Pm → α) : ∀ (l : List (Nat × Pm)), (l.map key).Nodup → (∀ e, e ∈ l → (B e).Nodup) → (∀ e, e ∈ l → ∀ x, x ∈ B e → k x = key e) → (l.flatMap B).Nodup
  | [], _, _, _ => by simp
  | e :: l, h, h1, h2 => by
    rw [List.flatMap_cons, List.nodup_append]
    rw [List.map_cons, List.nodup_cons] at h
    refine ⟨h1 e (by simp), nodup_flat B k key l h.2 (fun x hx => h1 x (by simp [hx])) (fun x hx => h2 x (by simp [hx])), fun a ha b hb hab => ?_⟩
    subst hab
    obtain ⟨e', he', hm⟩ := List.mem_flatMap.1 hb
    exact h.1 (List.mem_map.2 ⟨e', he', by rw [← h2 e' (by simp [he']) a hm, h2 e (by simp) a ha]⟩)

theorem nodup_mulL (e : Pm) : ∀ (l : List Pm), l.Nodup → (l.map (fun p => e * p)).Nodup
  | [], _ => by simp
  | a :: l, h => by
    rw [List.nodup_cons] at h
    rw [List.map_cons, List.nodup_cons]
    refine ⟨fun hm => ?_, nodup_mulL e l h.2⟩
    obtain ⟨b, hb, hab⟩ := List.mem_map.1 hm
    exact h.1 (Pm.mul_cancel hab ▸ hb)

theorem allC_nodup {F : Nat → Prop} : ∀ (c : List Lk), Whole F c → (allC c).Nodup
  | [], _ => by simp [allC]
  | l :: c, h => by
    refine nodup_flat _ (fun x => x.act l.base) (·.1) l.tab h.1.nodup (fun e _ => nodup_mulL _ _ (allC_nodup c h.2.1)) (fun e he x hx => ?_)
    obtain ⟨p, hp, rfl⟩ := List.mem_map.1 hx
    have hf := prd_fix h.2.1 ((mem_allC c p).1 hp)
    rw [Pm.act_mul, hf l.base (Or.inr rfl), h.1.brings e he]

end Go.Proofs.Ytimfoggjocajiaa

/- append, and where the new slice lies. -/
namespace Go.Proofs.Ytimfoggjocajiaa
open Go.RowKit

theorem run_append_keep {P : Program} (w : World) (base : Nat) (t ty e : TypeId) (i : TypeInfo) (z : Value) (size bytes : Nat) (ht : P.underlying t = some (.slice e)) (hi : P.info? e = some i) (hz : i.zero = some z)
    (hsize : i.size = size) (hby : i.bytes = bytes) (hzs : z.cells.size = size) (hsz : 0 < size)
    (v : Value) (n : Nat) (xs : List Value) (hown : w.ownsRow base e size v n xs)
    (a : Addr) (m c : Nat) (news : List Value) (hl : news.length = m * size) (hnews : ∀ j u, news[j]? = some u → w.cell? (a.add j) = some u) (h1 : ∀ u ∈ news, u.oneCell' = true)
    (h63 : n + m ≤ maxLen) (hbytes : (n + m) * bytes ≤ 140737488355328) (hbase : base ≤ w.heap.size) :
    ∃ v' w', (Builtin.append_ #[t, t] ty #[v, .slice (some a) m c]).run P w = .ok v' w' ∧ w'.ownsRow base e size v' (n + m) (xs ++ news) ∧ w.grownBy w' v.ownBlock ∧
      (v'.ownBlock = v.ownBlock ∨ (v'.ownBlock = some w.heap.size ∧ w.grownBy w' none)) := by
  obtain ⟨v', w', hr, h2, h3, _, h5⟩ := run_append_own_at (P := P) w base t ty e i z size bytes ht hi hz hsize hby hzs hsz v n xs hown a m c news hl hnews h1 h63 hbytes hbase
  refine ⟨v', w', hr, h2, h3, ?_⟩
  subst hsize
  subst hby
  rcases hown.2 with ⟨rfl, rfl⟩ | ⟨g, cap, cur, rfl, hbg, hg, hnc, hcm, hcs, htake⟩
  · exact h5.imp id (fun h => ⟨h, h3⟩)
  · by_cases hroom : n + m ≤ cap
    · have hfit : n * i.size + news.length ≤ cur.size := by rw [hl, hcs, ← Nat.add_mul]; exact Nat.mul_le_mul_right _ hroom
      have hr' := run_append_room (P := P) w t ty e i ht hi g n cap cur hg a m c news hl hnews h1 hroom hfit
      rw [hr] at hr'
      obtain ⟨e1, _⟩ := Result.ok.inj hr'
      left; rw [e1]; rfl
    · have holds : ∀ j u, xs[j]? = some u → w.cell? ((⟨g, 0, none⟩ : Addr).add j) = some u := hown.cells (g := g) rfl
      have hsmall : n + m ≤ 9223372036854775807 := by simp only [maxLen] at h63; omega
      have hr' := run_append_grow (P := P) w t ty e i z ht hi hz ⟨g, 0, none⟩ n cap xs hown.1 holds a m c news hl hnews (by omega) (by omega) (growslice_fits (by omega) hbytes)
      rw [hr] at hr'
      obtain ⟨e1, e2⟩ := Result.ok.inj hr'
      right
      rw [e1, e2]
      exact ⟨rfl, ⟨rfl, rfl, rfl, by simp, fun k hk _ => Below.heap_alloc w.drew _ k hk⟩⟩

theorem wpList_append_keep {P : Program} (w : World) {ops : Array Oper} {rest : List Oper} {o : Oper} {a : Act} {Q : Exit → Act → World → Prop} (hgd : o.guard = none) (s x : Operand) (t : TypeId)
    (ho : o.op = .call { callee := .builtin .append, args := #[s, x], argTypes := #[t, t] })
    (base : Nat) (e : TypeId) (i : TypeInfo) (z : Value) (size bytes : Nat) (ht : P.underlying t = some (.slice e)) (hi : P.info? e = some i) (hz : i.zero = some z)
    (hsize : i.size = size) (hby : i.bytes = bytes) (hzs : z.cells.size = size) (hsz : 0 < size)
    (v : Value) (n : Nat) (xs : List Value) (hs : a.eval s = v) (hown : w.ownsRow base e size v n xs)
    (ad : Addr) (m c : Nat) (news : List Value) (hx : a.eval x = .slice (some ad) m c) (hl : news.length = m * size) (hnews : ∀ j u, news[j]? = some u → w.cell? (ad.add j) = some u) (h1 : ∀ u ∈ news, u.oneCell' = true)
    (h63 : n + m ≤ maxLen) (hbytes : (n + m) * bytes ≤ 140737488355328) (hbase : base ≤ w.heap.size)
    (h : ∀ v' w', w'.ownsRow base e size v' (n + m) (xs ++ news) → w.grownBy w' v.ownBlock → (v'.ownBlock = v.ownBlock ∨ (v'.ownBlock = some w.heap.size ∧ w.grownBy w' none)) → wpList P ops Q rest (a.put o.dst v') w') :
    wpList P ops Q (o :: rest) a w := by
  refine wpList_plain hgd fun K hK => ?_
  obtain ⟨v', w', hr, h2, h3, h4⟩ := run_append_keep (P := P) w base t o.type e i z size bytes ht hi hz hsize hby hzs hsz v n xs hown ad m c news hl hnews h1 h63 hbytes hbase
  unfold Oper.wp execOp
  simp only [ho, resolve, invoke, builtin, Sem.run_bind, Sem.run_pure, Result.andThen_ok, List.map_toArray, List.map_cons, List.map_nil, hs, hx, hr]
  exact hK _ _ (h v' w' h2 h3 h4)

/-- .. as one step of a region that draws. -/
theorem step_append_keep {P : Program} {ops : Array Oper} {o : Oper} {a : Act} {w : World} {K : Act → World → Prop} {Q : Exit → Act → World → Prop} {E : Prop} (hg : o.guard = none) (s x : Operand) (t : TypeId)
    (ho : o.op = .call { callee := .builtin .append, args := #[s, x], argTypes := #[t, t] })
    (base : Nat) (e : TypeId) (i : TypeInfo) (z : Value) (size bytes : Nat) (ht : P.underlying t = some (.slice e)) (hi : P.info? e = some i) (hz : i.zero = some z)
    (hsize : i.size = size) (hby : i.bytes = bytes) (hzs : z.cells.size = size) (hsz : 0 < size)
    (v : Value) (n : Nat) (xs : List Value) (hs : a.eval s = v) (hown : w.ownsRow base e size v n xs)
    (ad : Addr) (m c : Nat) (news : List Value) (hx : a.eval x = .slice (some ad) m c) (hl : news.length = m * size) (hnews : ∀ j u, news[j]? = some u → w.cell? (ad.add j) = some u) (h1 : ∀ u ∈ news, u.oneCell' = true)
    (h63 : n + m ≤ maxLen) (hbytes : (n + m) * bytes ≤ 140737488355328) (hbase : base ≤ w.heap.size)
    (h : ∀ v' w', w'.ownsRow base e size v' (n + m) (xs ++ news) → w.grownBy w' v.ownBlock → (v'.ownBlock = v.ownBlock ∨ (v'.ownBlock = some w.heap.size ∧ w.grownBy w' none)) → K (a.put o.dst v') w') :
    if Region.wanted o (yielded ops a.tmps) = true then Oper.wp P o a w K Q else E := by
  have hw : Region.wanted o (yielded ops a.tmps) = true := by simp [Region.wanted, hg]
  rw [if_pos hw]
  obtain ⟨v', w', hr, h2, h3, h4⟩ := run_append_keep (P := P) w base t o.type e i z size bytes ht hi hz hsize hby hzs hsz v n xs hown ad m c news hl hnews h1 h63 hbytes hbase
  unfold Oper.wp execOp
  simp only [ho, resolve, invoke, builtin, Sem.run_bind, Sem.run_pure, Result.andThen_ok, List.map_toArray, List.map_cons, List.map_nil, hs, hx, hr]
  exact h v' w' h2 h3 h4

end Go.Proofs.Ytimfoggjocajiaa

/- A chain of links in memory: what lies where, what each step leaves as it was. -/
namespace Go.Proofs.Ytimfoggjocajiaa
open Go.RowKit

/-! frames, cell by cell -/

structure Keep (S : Nat → Nat → Prop) (w w' : World) : Prop where
  os : w'.os = w.os
  tape : w'.tape = w.tape
  output : w'.output = w.output
  size : w.heap.size ≤ w'.heap.size
  block : ∀ b, b < w.heap.size → (∀ x, ¬ S b x) → w'.heap[b]? = w.heap[b]?
  cell : ∀ b x, b < w.heap.size → ¬ S b x → w'.cell? ⟨b, x, none⟩ = w.cell? ⟨b, x, none⟩

theorem Keep.refl (S : Nat → Nat → Prop) (w : World) : Keep S w w := ⟨rfl, rfl, rfl, Nat.le_refl _, fun _ _ _ => rfl, fun _ _ _ _ => rfl⟩

theorem Keep.trans {S S1 : Nat → Nat → Prop} {w w1 w2 : World} (h : Keep S w w1) (h1 : Keep S1 w1 w2) (hs : ∀ b x, b < w.heap.size → S1 b x → S b x) : Keep S w w2 :=
  ⟨h1.os.trans h.os, h1.tape.trans h.tape, h1.output.trans h.output, Nat.le_trans h.size h1.size,
    fun b hb hn => (h1.block b (Nat.lt_of_lt_of_le hb h.size) (fun x hx => hn x (hs b x hb hx))).trans (h.block b hb hn),
    fun b x hb hn => (h1.cell b x (Nat.lt_of_lt_of_le hb h.size) (fun hx => hn (hs b x hb hx))).trans (h.cell b x hb hn)⟩

theorem Keep.mono {S S' : Nat → Nat → Prop} {w w' : World} (h : Keep S w w') (hs : ∀ b x, S b x → S' b x) : Keep S' w w' :=
  ⟨h.os, h.tape, h.output, h.size, fun b hb hn => h.block b hb (fun x hx => hn x (hs b x hx)), fun b x hb hn => h.cell b x hb (fun hx => hn (hs b x hx))⟩

theorem Keep.of_below {S : Nat → Nat → Prop} {w w' : World} {B : Nat} (h : Below B w w') (hB : w.heap.size ≤ B) : Keep S w w' :=
  ⟨h.os, h.tape, h.output, h.size, fun b hb _ => h.block b (by omega), fun b x hb _ => h.cell (p := ⟨b, x, none⟩) (by show b < B; omega)⟩

theorem Keep.toBelow {S : Nat → Nat → Prop} {w w' : World} {B : Nat} (h : Keep S w w') (hB : B ≤ w.heap.size) (hs : ∀ b x, b < B → ¬ S b x) : Below B w w' :=
  ⟨h.os, h.tape, h.output, h.size, fun b hb => h.block b (by omega) (fun x => hs b x hb)⟩

/-! what lies where -/

structure St where
  m : Nat
  vb : Value
  vg : Value

structure Raw where
  base : Nat
  n : Nat
  f : Int → Option Value
  bs : List Value
  gs : List Pm

def gcells : List Pm → List Value
  | [] => []
  | x :: t => x.l.map (Value.int .i8) ++ gcells t

theorem gcells_length : ∀ gs : List Pm, (gcells gs).length = gs.length * 12
  | [] => rfl
  | x :: t => by simp [gcells, gcells_length t, x.len]; omega

theorem gcells_snoc (gs : List Pm) (p : Pm) : gcells (gs ++ [p]) = gcells gs ++ p.l.map (Value.int .i8) := by
  induction gs with
  | nil => simp [gcells]
  | cons x t ih => simp [gcells, ih]

structure LinkAt (w : World) (B g j : Nat) (r : Raw) (s : St) : Prop where
  c0 : w.cell? ⟨g, 4 * j, none⟩ = some (.int .i64 ((r.base : Nat) : Int))
  c1 : w.cell? ⟨g, 4 * j + 1, none⟩ = some (.map (some s.m))
  c2 : w.cell? ⟨g, 4 * j + 2, none⟩ = some s.vb
  c3 : w.cell? ⟨g, 4 * j + 3, none⟩ = some s.vg
  mp : IMap w s.m r.n r.f
  mB : B ≤ s.m
  bells : w.ownsRow B 3 1 s.vb r.bs.length r.bs
  gens : w.ownsRow B 91 12 s.vg r.gs.length (gcells r.gs)

def updS (st : Nat → St) (k : Nat) (s : St) : Nat → St := fun j => if j = k then s else st j

structure ChainAt (w : World) (B g : Nat) (R : List Raw) (st : Nat → St) : Prop where
  obj : ∃ cs, w.heap[g]? = some (.cells cs 136) ∧ cs.size = 4 * R.length
  gB : B ≤ g
  link : ∀ j r, R[j]? = some r → LinkAt w B g j r (st j)
  mdis : ∀ i j, i < R.length → j < R.length → i ≠ j → (st i).m ≠ (st j).m
  bdis : ∀ i j, i < R.length → j < R.length → i ≠ j → ∀ b, (st i).vb.ownBlock = some b → (st j).vb.ownBlock ≠ some b
  gdis : ∀ i j, i < R.length → j < R.length → i ≠ j → ∀ b, (st i).vg.ownBlock = some b → (st j).vg.ownBlock ≠ some b

theorem owns_obj {w : World} {base e size n : Nat} {v : Value} {xs : List Value} (h : w.ownsRow base e size v n xs) {b : Nat} (hb : v.ownBlock = some b) : ∃ cur, w.heap[b]? = some (.cells cur e) := by
  rcases h.2 with ⟨rfl, _⟩ | ⟨g, cap, cur, rfl, _, hh, _⟩
  · cases hb
  · have : g = b := by simpa [Value.ownBlock] using hb
    subst this; exact ⟨cur, hh⟩

theorem owns_of_block {w w' : World} {base e size n : Nat} {v : Value} {xs : List Value} (h : w.ownsRow base e size v n xs) (hb : ∀ b, v.ownBlock = some b → w'.heap[b]? = w.heap[b]?) : w'.ownsRow base e size v n xs := by
  obtain ⟨h1, h2⟩ := h
  refine ⟨h1, ?_⟩
  rcases h2 with h2 | ⟨g, cap, cur, rfl, r1, hh, r2⟩
  · exact Or.inl h2
  · exact Or.inr ⟨g, cap, cur, rfl, r1, (hb g rfl).trans hh, r2⟩

theorem LinkAt.of_block {w w' : World} {B g j : Nat} {r : Raw} {s : St} (h : LinkAt w B g j r s) (hc : ∀ x, 4 * j ≤ x → x < 4 * j + 4 → w'.cell? ⟨g, x, none⟩ = w.cell? ⟨g, x, none⟩) (hm : w'.heap[s.m]? = w.heap[s.m]?)
    (hb : ∀ b, s.vb.ownBlock = some b → w'.heap[b]? = w.heap[b]?) (hg : ∀ b, s.vg.ownBlock = some b → w'.heap[b]? = w.heap[b]?) : LinkAt w' B g j r s :=
  ⟨by rw [hc _ (by omega) (by omega)]; exact h.c0, by rw [hc _ (by omega) (by omega)]; exact h.c1, by rw [hc _ (by omega) (by omega)]; exact h.c2, by rw [hc _ (by omega) (by omega)]; exact h.c3,
    h.mp.of_block hm, h.mB, owns_of_block h.bells hb, owns_of_block h.gens hg⟩

/-- Which cells the links from k on may still change. -/
def Foot (g k : Nat) (R : List Raw) (st : Nat → St) (b x : Nat) : Prop :=
  (b = g ∧ 4 * k ≤ x) ∨ ∃ j r, k ≤ j ∧ R[j]? = some r ∧ (b = (st j).m ∨ ((st j).vb.ownBlock = some b ∧ r.bs.length ≤ x) ∨ ((st j).vg.ownBlock = some b ∧ 12 * r.gs.length ≤ x))

theorem ChainAt.lt_g {w : World} {B g : Nat} {R : List Raw} {st : Nat → St} (h : ChainAt w B g R st) : g < w.heap.size := by
  obtain ⟨cs, h1, _⟩ := h.obj; exact (Array.getElem?_eq_some_iff.1 h1).1

theorem ChainAt.of_block {w w' : World} {B g : Nat} {R : List Raw} {st : Nat → St} (h : ChainAt w B g R st) (hb : ∀ b, b < w.heap.size → w'.heap[b]? = w.heap[b]?) : ChainAt w' B g R st := by
  refine ⟨?_, h.gB, fun j r hr => ?_, h.mdis, h.bdis, h.gdis⟩
  · obtain ⟨cs, h1, h2⟩ := h.obj; exact ⟨cs, by rw [hb g h.lt_g]; exact h1, h2⟩
  · have l := h.link j r hr
    refine l.of_block (fun x _ _ => World.cell?_of_block (w := w) (a := ⟨g, x, none⟩) (hb g h.lt_g)) (hb _ l.mp.lt) (fun b hbb => hb b (l.bells.lt b hbb).2) (fun b hbb => hb b (l.gens.lt b hbb).2)

theorem ChainAt.below {w w' : World} {B g X : Nat} {R : List Raw} {st : Nat → St} (h : ChainAt w B g R st) (hb : Below X w w') (hX : w.heap.size ≤ X) : ChainAt w' B g R st := h.of_block (fun b hlt => hb.block b (by omega))

theorem ChainAt.alloc {w : World} {B g : Nat} {R : List Raw} {st : Nat → St} (h : ChainAt w B g R st) (o : Obj) : ChainAt (w.alloc o) B g R st := h.of_block (fun b hlt => Below.heap_alloc w o b hlt)

/-- Blocks of different kinds differ. -/
theorem ChainAt.kinds {w : World} {B g : Nat} {R : List Raw} {st : Nat → St} (h : ChainAt w B g R st) {i j : Nat} {r s : Raw} (hi : R[i]? = some r) (hj : R[j]? = some s) :
    g ≠ (st i).m ∧ (st i).vb.ownBlock ≠ some g ∧ (st i).vg.ownBlock ≠ some g ∧ (st i).vb.ownBlock ≠ some (st j).m ∧ (st i).vg.ownBlock ≠ some (st j).m ∧ ∀ b, (st i).vb.ownBlock = some b → (st j).vg.ownBlock ≠ some b := by
  have li := h.link i r hi
  have lj := h.link j s hj
  obtain ⟨cs, ho, _⟩ := h.obj
  obtain ⟨es, cl, hm⟩ := li.mp.obj
  obtain ⟨es', cl', hm'⟩ := lj.mp.obj
  refine ⟨fun e => ?_, fun e => ?_, fun e => ?_, fun e => ?_, fun e => ?_, fun b e1 e2 => ?_⟩
  · rw [e] at ho; rw [ho] at hm; cases hm
  · obtain ⟨c, hc⟩ := owns_obj li.bells e; rw [ho] at hc; injection hc with hc; injection hc with _ h2 _; exact absurd h2 (by decide)
  · obtain ⟨c, hc⟩ := owns_obj li.gens e; rw [ho] at hc; injection hc with hc; injection hc with _ h2 _; exact absurd h2 (by decide)
  · obtain ⟨c, hc⟩ := owns_obj li.bells e; rw [hm'] at hc; cases hc
  · obtain ⟨c, hc⟩ := owns_obj li.gens e; rw [hm'] at hc; cases hc
  · obtain ⟨c, hc⟩ := owns_obj li.bells e1
    obtain ⟨c', hc'⟩ := owns_obj lj.gens e2
    rw [hc] at hc'; injection hc' with hc'; injection hc' with _ h2 _; exact absurd h2 (by decide)

theorem get_lt {R : List Raw} {k : Nat} {r : Raw} (h : R[k]? = some r) : k < R.length := (List.getElem?_eq_some_iff.1 h).1

/-- The map of link k is written. -/
theorem ChainAt.setMap {w w' : World} {B g k n' : Nat} {R : List Raw} {st : Nat → St} {r : Raw} {f' : Int → Option Value} (h : ChainAt w B g R st) (hk : R[k]? = some r) (hm : IMap w' (st k).m n' f') (hg : w.grownBy w' (some (st k).m)) :
    ChainAt w' B g (R.set k { r with f := f', n := n' }) st ∧ Keep (Foot g k R st) w w' ∧ (∀ b x, b < w.heap.size → Foot g k (R.set k { r with f := f', n := n' }) st b x → Foot g k R st b x) := by
  have hkl := get_lt hk
  have keepB : ∀ b, b < w.heap.size → b ≠ (st k).m → w'.heap[b]? = w.heap[b]? := fun b hb hne => hg.block b hb (fun e => hne (by injection e))
  have hgm := (h.kinds hk hk).1
  refine ⟨⟨?_, h.gB, ?_, by simpa using h.mdis, by simpa using h.bdis, by simpa using h.gdis⟩, ⟨hg.os, hg.tape, hg.output, hg.size, ?_, ?_⟩, ?_⟩
  · obtain ⟨cs, h1, h2⟩ := h.obj
    exact ⟨cs, by rw [keepB g h.lt_g hgm]; exact h1, by simpa using h2⟩
  · intro j q hq
    rw [List.getElem?_set] at hq
    have hcell : ∀ x, w'.cell? ⟨g, x, none⟩ = w.cell? ⟨g, x, none⟩ := fun x => World.cell?_of_block (w := w) (a := ⟨g, x, none⟩) (keepB g h.lt_g hgm)
    by_cases e : k = j
    · subst e
      rw [if_pos rfl, if_pos hkl] at hq
      injection hq with hq; subst hq
      have l := h.link k r hk
      have kd := h.kinds hk hk
      exact ⟨by rw [hcell]; exact l.c0, by rw [hcell]; exact l.c1, by rw [hcell]; exact l.c2, by rw [hcell]; exact l.c3, hm, l.mB,
        owns_of_block l.bells (fun b hb => keepB b (l.bells.lt b hb).2 (fun e => kd.2.2.2.1 (by rw [← e]; exact hb))), owns_of_block l.gens (fun b hb => keepB b (l.gens.lt b hb).2 (fun e => kd.2.2.2.2.1 (by rw [← e]; exact hb)))⟩
    · rw [if_neg e] at hq
      have l := h.link j q hq
      have kd := h.kinds hq hk
      exact l.of_block (fun x _ _ => hcell x) (keepB _ l.mp.lt (h.mdis j k (get_lt hq) hkl (fun e' => e e'.symm))) (fun b hb => keepB b (l.bells.lt b hb).2 (fun e => kd.2.2.2.1 (by rw [← e]; exact hb))) (fun b hb => keepB b (l.gens.lt b hb).2 (fun e => kd.2.2.2.2.1 (by rw [← e]; exact hb)))
  · intro b hb hn
    exact keepB b hb (fun e => hn 0 (Or.inr ⟨k, r, Nat.le_refl _, hk, Or.inl e⟩))
  · intro b x hb hn
    exact World.cell?_of_block (w := w) (a := ⟨b, x, none⟩) (keepB b hb (fun e => hn (Or.inr ⟨k, r, Nat.le_refl _, hk, Or.inl e⟩)))
  · rintro b x _ (h1 | ⟨j, q, hj, hq, h1⟩)
    · exact Or.inl h1
    · rw [List.getElem?_set] at hq
      by_cases e : k = j
      · subst e
        rw [if_pos rfl, if_pos hkl] at hq
        injection hq with hq; subst hq
        exact Or.inr ⟨k, r, hj, hk, h1⟩
      · rw [if_neg e] at hq
        exact Or.inr ⟨j, q, hj, hq, h1⟩

theorem owns_prefix {w w' : World} {base e size n n' : Nat} {v v' : Value} {xs ys : List Value} {b x : Nat} (h : w.ownsRow base e size v n xs) (h' : w'.ownsRow base e size v' n' (xs ++ ys)) (hb : v.ownBlock = some b) (hb' : v'.ownBlock = some b) (hx : x < xs.length) :
    w'.cell? ⟨b, x, none⟩ = w.cell? ⟨b, x, none⟩ := by
  have h1 := h.cells hb x xs[x] (List.getElem?_eq_getElem hx)
  have h2 := h'.cells hb' x xs[x] (by rw [List.getElem?_append_left hx]; exact List.getElem?_eq_getElem hx)
  rw [Addr.add_lit, Nat.zero_add] at h1 h2
  rw [h1, h2]

theorem cell_setCell_ne (w : World) (b x y : Nat) (u : Value) (b' : Nat) (h : b' ≠ b ∨ y ≠ x) : (w.setCell ⟨b, x, none⟩ u).cell? ⟨b', y, none⟩ = w.cell? ⟨b', y, none⟩ := by
  refine World.cell?_setCell_other _ _ _ _ (fun e => ?_)
  simp only [Addr.mk.injEq] at e
  rcases h with h | h
  · exact h e.1.symm
  · exact h e.2.1.symm

theorem obj_setCell {w : World} {g x T : Nat} {cs : Array Value} (u : Value) (h : w.heap[g]? = some (.cells cs T)) : ∃ cs', (w.setCell ⟨g, x, none⟩ u).heap[g]? = some (.cells cs' T) ∧ cs'.size = cs.size := by
  refine ⟨cs.setIfInBounds x u, ?_, by simp⟩
  simp [World.setCell, Array.getElem?_modify, h]

/-- The bells of link k have one more. -/
theorem ChainAt.setBells {w w1 : World} {B g k : Nat} {R : List Raw} {st : Nat → St} {r : Raw} {v' u : Value} (h : ChainAt w B g R st) (hk : R[k]? = some r) (hown : w1.ownsRow B 3 1 v' (r.bs.length + 1) (r.bs ++ [u])) (hg : w.grownBy w1 (st k).vb.ownBlock)
    (hloc : v'.ownBlock = (st k).vb.ownBlock ∨ ((∀ b, v'.ownBlock = some b → w.heap.size ≤ b) ∧ w.grownBy w1 none)) :
    ChainAt (w1.setCell ⟨g, 4 * k + 2, none⟩ v') B g (R.set k { r with bs := r.bs ++ [u] }) (updS st k { st k with vb := v' }) ∧ Keep (Foot g k R st) w (w1.setCell ⟨g, 4 * k + 2, none⟩ v') ∧
    (∀ b x, b < w.heap.size → Foot g k (R.set k { r with bs := r.bs ++ [u] }) (updS st k { st k with vb := v' }) b x → Foot g k R st b x) := by
  have hkl := get_lt hk
  have lk := h.link k r hk
  have kd := h.kinds hk hk
  have keep1 : ∀ b, b < w.heap.size → (st k).vb.ownBlock ≠ some b → w1.heap[b]? = w.heap[b]? := fun b hb hne => hg.block b hb (fun e => hne e.symm)
  have keepB : ∀ b, b < w.heap.size → (st k).vb.ownBlock ≠ some b → b ≠ g → (w1.setCell ⟨g, 4 * k + 2, none⟩ v').heap[b]? = w.heap[b]? := fun b hb hne hne2 => by
    rw [Below.heap_setCell _ _ _ _ (by exact hne2)]; exact keep1 b hb hne
  have hg1 : w1.heap[g]? = w.heap[g]? := keep1 g h.lt_g kd.2.1
  have hcell : ∀ x, x ≠ 4 * k + 2 → (w1.setCell ⟨g, 4 * k + 2, none⟩ v').cell? ⟨g, x, none⟩ = w.cell? ⟨g, x, none⟩ := fun x hx => by
    rw [cell_setCell_ne _ _ _ _ _ _ (Or.inr hx)]; exact World.cell?_of_block (w := w) (a := ⟨g, x, none⟩) hg1
  have hv'g : ∀ b, v'.ownBlock = some b → b ≠ g := fun b hb e => by
    subst e
    rcases hloc with h1 | ⟨h1, _⟩
    · exact kd.2.1 (h1 ▸ hb)
    · have := h1 _ hb; have := h.lt_g; omega
  refine ⟨⟨?_, h.gB, ?_, ?_, ?_, ?_⟩, ⟨hg.os, hg.tape, hg.output, by simpa [World.setCell] using hg.size, ?_, ?_⟩, ?_⟩
  · obtain ⟨cs, h1, h2⟩ := h.obj
    obtain ⟨cs', h3, h4⟩ := obj_setCell (x := 4 * k + 2) v' (hg1.trans h1)
    exact ⟨cs', h3, by rw [h4, h2]; simp⟩
  · intro j q hq
    rw [List.getElem?_set] at hq
    by_cases e : k = j
    · subst e
      rw [if_pos rfl, if_pos hkl] at hq
      injection hq with hq; subst hq
      have es : updS st k { st k with vb := v' } k = { st k with vb := v' } := by simp [updS]
      rw [es]
      refine ⟨by rw [hcell _ (by omega)]; exact lk.c0, by rw [hcell _ (by omega)]; exact lk.c1, ?_, by rw [hcell _ (by omega)]; exact lk.c3, lk.mp.of_block (keepB _ lk.mp.lt kd.2.2.2.1 (fun e => kd.1 e.symm)), lk.mB, ?_, ?_⟩
      · exact World.cell?_setCell_same _ _ _ ((World.cell?_of_block (w := w) (a := ⟨g, 4 * k + 2, none⟩) hg1).trans lk.c2)
      · show World.ownsRow _ _ _ _ v' (r.bs ++ [u]).length _
        rw [List.length_append]
        exact owns_of_block hown (fun b hb => Below.heap_setCell _ _ _ _ (by exact hv'g b hb))
      · exact owns_of_block lk.gens (fun b hb => keepB b (lk.gens.lt b hb).2 (fun e => kd.2.2.2.2.2 b e hb) (fun e => kd.2.2.1 (by rw [← e]; exact hb)))
    · rw [if_neg e] at hq
      have es : updS st k { st k with vb := v' } j = st j := by unfold updS; rw [if_neg (fun e' => e e'.symm)]
      rw [es]
      have l := h.link j q hq
      have kj := h.kinds hq hk
      have kj2 := h.kinds hk hq
      refine l.of_block (fun x h1 h2 => hcell x (by omega)) (keepB _ l.mp.lt kj2.2.2.2.1 (fun e => kj.1 e.symm)) (fun b hb => keepB b (l.bells.lt b hb).2 (fun e2 => h.bdis k j hkl (get_lt hq) e b e2 hb) (fun e2 => kj.2.1 (by rw [← e2]; exact hb)))
        (fun b hb => keepB b (l.gens.lt b hb).2 (fun e2 => kj2.2.2.2.2.2 b e2 hb) (fun e2 => kj.2.2.1 (by rw [← e2]; exact hb)))
  · intro i j hi hj hne
    rw [List.length_set] at hi hj
    have := h.mdis i j hi hj hne
    unfold updS
    split <;> split <;> simp_all
  · intro i j hi hj hne b hb
    rw [List.length_set] at hi hj
    obtain ⟨ri, hri⟩ : ∃ ri, R[i]? = some ri := ⟨_, List.getElem?_eq_getElem hi⟩
    obtain ⟨rj, hrj⟩ : ∃ rj, R[j]? = some rj := ⟨_, List.getElem?_eq_getElem hj⟩
    unfold updS at hb ⊢
    by_cases ei : i = k
    · subst ei
      rw [if_pos rfl] at hb
      rw [if_neg (fun e => hne e.symm)]
      intro hb2
      rcases hloc with h1 | ⟨h1, _⟩
      · exact h.bdis i j hi hj hne b (h1 ▸ hb) hb2
      · have h2 := h1 b hb; have h3 := ((h.link j rj hrj).bells.lt b hb2).2; omega
    · rw [if_neg ei] at hb
      by_cases ej : j = k
      · subst ej
        rw [if_pos rfl]
        intro hb2
        rcases hloc with h1 | ⟨h1, _⟩
        · exact h.bdis i j hi hj hne b hb (h1 ▸ hb2)
        · have h2 := h1 b hb2; have h3 := ((h.link i ri hri).bells.lt b hb).2; omega
      · rw [if_neg ej]
        exact h.bdis i j hi hj hne b hb
  · intro i j hi hj hne
    rw [List.length_set] at hi hj
    have := h.gdis i j hi hj hne
    unfold updS
    split <;> split <;> simp_all
  · intro b hb hn
    exact keepB b hb (fun e => hn r.bs.length (Or.inr ⟨k, r, Nat.le_refl _, hk, Or.inr (Or.inl ⟨e, Nat.le_refl _⟩)⟩)) (fun e => hn (4 * k) (Or.inl ⟨e, Nat.le_refl _⟩))
  · intro b x hb hn
    by_cases e1 : b = g
    · subst e1
      exact hcell x (fun e => hn (Or.inl ⟨rfl, by omega⟩))
    · rw [cell_setCell_ne _ _ _ _ _ _ (Or.inl e1)]
      by_cases e2 : (st k).vb.ownBlock = some b
      · have hx : x < r.bs.length := by
          rcases Nat.lt_or_ge x r.bs.length with h1 | h1
          · exact h1
          · exact absurd (Or.inr ⟨k, r, Nat.le_refl _, hk, Or.inr (Or.inl ⟨e2, h1⟩)⟩) hn
        rcases hloc with h1 | ⟨_, h1⟩
        · exact owns_prefix lk.bells hown e2 (h1.trans e2) hx
        · exact World.cell?_of_block (w := w) (a := ⟨b, x, none⟩) (h1.block b hb (by simp))
      · exact World.cell?_of_block (w := w) (a := ⟨b, x, none⟩) (keep1 b hb e2)
  · rintro b x hb (h1 | ⟨j, q, hj, hq, h1⟩)
    · exact Or.inl h1
    · rw [List.getElem?_set] at hq
      by_cases e : k = j
      · subst e
        rw [if_pos rfl, if_pos hkl] at hq
        injection hq with hq; subst hq
        have es : updS st k { st k with vb := v' } k = { st k with vb := v' } := by simp [updS]
        rw [es] at h1
        refine Or.inr ⟨k, r, hj, hk, ?_⟩
        rcases h1 with h1 | ⟨h1, h2⟩ | h1
        · exact Or.inl h1
        · rcases hloc with h3 | ⟨h3, _⟩
          · exact Or.inr (Or.inl ⟨h3 ▸ h1, by have h2 : (r.bs ++ [u]).length ≤ x := h2; rw [List.length_append] at h2; omega⟩)
          · have := h3 b h1; omega
        · exact Or.inr (Or.inr h1)
      · rw [if_neg e] at hq
        have es : updS st k { st k with vb := v' } j = st j := by unfold updS; rw [if_neg (fun e' => e e'.symm)]
        rw [es] at h1
        exact Or.inr ⟨j, q, hj, hq, h1⟩

/-- .. the generators. -/
theorem ChainAt.setGens {w w1 : World} {B g k : Nat} {R : List Raw} {st : Nat → St} {r : Raw} {v' : Value} {p : Pm} (h : ChainAt w B g R st) (hk : R[k]? = some r) (hown : w1.ownsRow B 91 12 v' (r.gs.length + 1) (gcells r.gs ++ p.l.map (Value.int .i8))) (hg : w.grownBy w1 (st k).vg.ownBlock)
    (hloc : v'.ownBlock = (st k).vg.ownBlock ∨ ((∀ b, v'.ownBlock = some b → w.heap.size ≤ b) ∧ w.grownBy w1 none)) :
    ChainAt (w1.setCell ⟨g, 4 * k + 3, none⟩ v') B g (R.set k { r with gs := r.gs ++ [p] }) (updS st k { st k with vg := v' }) ∧ Keep (Foot g k R st) w (w1.setCell ⟨g, 4 * k + 3, none⟩ v') ∧
    (∀ b x, b < w.heap.size → Foot g k (R.set k { r with gs := r.gs ++ [p] }) (updS st k { st k with vg := v' }) b x → Foot g k R st b x) := by
  have hkl := get_lt hk
  have lk := h.link k r hk
  have kd := h.kinds hk hk
  have keep1 : ∀ b, b < w.heap.size → (st k).vg.ownBlock ≠ some b → w1.heap[b]? = w.heap[b]? := fun b hb hne => hg.block b hb (fun e => hne e.symm)
  have keepB : ∀ b, b < w.heap.size → (st k).vg.ownBlock ≠ some b → b ≠ g → (w1.setCell ⟨g, 4 * k + 3, none⟩ v').heap[b]? = w.heap[b]? := fun b hb hne hne2 => by
    rw [Below.heap_setCell _ _ _ _ (by exact hne2)]; exact keep1 b hb hne
  have hg1 : w1.heap[g]? = w.heap[g]? := keep1 g h.lt_g kd.2.2.1
  have hcell : ∀ x, x ≠ 4 * k + 3 → (w1.setCell ⟨g, 4 * k + 3, none⟩ v').cell? ⟨g, x, none⟩ = w.cell? ⟨g, x, none⟩ := fun x hx => by
    rw [cell_setCell_ne _ _ _ _ _ _ (Or.inr hx)]; exact World.cell?_of_block (w := w) (a := ⟨g, x, none⟩) hg1
  have hv'g : ∀ b, v'.ownBlock = some b → b ≠ g := fun b hb e => by
    subst e
    rcases hloc with h1 | ⟨h1, _⟩
    · exact kd.2.2.1 (h1 ▸ hb)
    · have := h1 _ hb; have := h.lt_g; omega
  refine ⟨⟨?_, h.gB, ?_, ?_, ?_, ?_⟩, ⟨hg.os, hg.tape, hg.output, by simpa [World.setCell] using hg.size, ?_, ?_⟩, ?_⟩
  · obtain ⟨cs, h1, h2⟩ := h.obj
    obtain ⟨cs', h3, h4⟩ := obj_setCell (x := 4 * k + 3) v' (hg1.trans h1)
    exact ⟨cs', h3, by rw [h4, h2]; simp⟩
  · intro j q hq
    rw [List.getElem?_set] at hq
    by_cases e : k = j
    · subst e
      rw [if_pos rfl, if_pos hkl] at hq
      injection hq with hq; subst hq
      have es : updS st k { st k with vg := v' } k = { st k with vg := v' } := by simp [updS]
      rw [es]
      refine ⟨by rw [hcell _ (by omega)]; exact lk.c0, by rw [hcell _ (by omega)]; exact lk.c1, by rw [hcell _ (by omega)]; exact lk.c2, ?_, lk.mp.of_block (keepB _ lk.mp.lt kd.2.2.2.2.1 (fun e => kd.1 e.symm)), lk.mB, ?_, ?_⟩
      · exact World.cell?_setCell_same _ _ _ ((World.cell?_of_block (w := w) (a := ⟨g, 4 * k + 3, none⟩) hg1).trans lk.c3)
      · exact owns_of_block lk.bells (fun b hb => keepB b (lk.bells.lt b hb).2 (fun e => kd.2.2.2.2.2 b hb e) (fun e => kd.2.1 (by rw [← e]; exact hb)))
      · show World.ownsRow _ _ _ _ v' (r.gs ++ [p]).length (gcells (r.gs ++ [p]))
        rw [List.length_append, gcells_snoc]
        exact owns_of_block hown (fun b hb => Below.heap_setCell _ _ _ _ (by exact hv'g b hb))
    · rw [if_neg e] at hq
      have es : updS st k { st k with vg := v' } j = st j := by unfold updS; rw [if_neg (fun e' => e e'.symm)]
      rw [es]
      have l := h.link j q hq
      have kj := h.kinds hq hk
      have kj2 := h.kinds hk hq
      refine l.of_block (fun x h1 h2 => hcell x (by omega)) (keepB _ l.mp.lt kj2.2.2.2.2.1 (fun e => kj.1 e.symm)) (fun b hb => keepB b (l.bells.lt b hb).2 (fun e2 => kj.2.2.2.2.2 b hb e2) (fun e2 => kj.2.1 (by rw [← e2]; exact hb)))
        (fun b hb => keepB b (l.gens.lt b hb).2 (fun e2 => h.gdis k j hkl (get_lt hq) e b e2 hb) (fun e2 => kj.2.2.1 (by rw [← e2]; exact hb)))
  · intro i j hi hj hne
    rw [List.length_set] at hi hj
    have := h.mdis i j hi hj hne
    unfold updS
    split <;> split <;> simp_all
  · intro i j hi hj hne
    rw [List.length_set] at hi hj
    have := h.bdis i j hi hj hne
    unfold updS
    split <;> split <;> simp_all
  · intro i j hi hj hne b hb
    rw [List.length_set] at hi hj
    obtain ⟨ri, hri⟩ : ∃ ri, R[i]? = some ri := ⟨_, List.getElem?_eq_getElem hi⟩
    obtain ⟨rj, hrj⟩ : ∃ rj, R[j]? = some rj := ⟨_, List.getElem?_eq_getElem hj⟩
    unfold updS at hb ⊢
    by_cases ei : i = k
    · subst ei
      rw [if_pos rfl] at hb
      rw [if_neg (fun e => hne e.symm)]
      intro hb2
      rcases hloc with h1 | ⟨h1, _⟩
      · exact h.gdis i j hi hj hne b (h1 ▸ hb) hb2
      · have h2 := h1 b hb; have h3 := ((h.link j rj hrj).gens.lt b hb2).2; omega
    · rw [if_neg ei] at hb
      by_cases ej : j = k
      · subst ej
        rw [if_pos rfl]
        intro hb2
        rcases hloc with h1 | ⟨h1, _⟩
        · exact h.gdis i j hi hj hne b hb (h1 ▸ hb2)
        · have h2 := h1 b hb2; have h3 := ((h.link i ri hri).gens.lt b hb).2; omega
      · rw [if_neg ej]
        exact h.gdis i j hi hj hne b hb
  · intro b hb hn
    exact keepB b hb (fun e => hn (12 * r.gs.length) (Or.inr ⟨k, r, Nat.le_refl _, hk, Or.inr (Or.inr ⟨e, Nat.le_refl _⟩)⟩)) (fun e => hn (4 * k) (Or.inl ⟨e, Nat.le_refl _⟩))
  · intro b x hb hn
    by_cases e1 : b = g
    · subst e1
      exact hcell x (fun e => hn (Or.inl ⟨rfl, by omega⟩))
    · rw [cell_setCell_ne _ _ _ _ _ _ (Or.inl e1)]
      by_cases e2 : (st k).vg.ownBlock = some b
      · have hx : x < (gcells r.gs).length := by
          rw [gcells_length]
          rcases Nat.lt_or_ge x (12 * r.gs.length) with h1 | h1
          · omega
          · exact absurd (Or.inr ⟨k, r, Nat.le_refl _, hk, Or.inr (Or.inr ⟨e2, h1⟩)⟩) hn
        rcases hloc with h1 | ⟨_, h1⟩
        · exact owns_prefix lk.gens hown e2 (h1.trans e2) hx
        · exact World.cell?_of_block (w := w) (a := ⟨b, x, none⟩) (h1.block b hb (by simp))
      · exact World.cell?_of_block (w := w) (a := ⟨b, x, none⟩) (keep1 b hb e2)
  · rintro b x hb (h1 | ⟨j, q, hj, hq, h1⟩)
    · exact Or.inl h1
    · rw [List.getElem?_set] at hq
      by_cases e : k = j
      · subst e
        rw [if_pos rfl, if_pos hkl] at hq
        injection hq with hq; subst hq
        have es : updS st k { st k with vg := v' } k = { st k with vg := v' } := by simp [updS]
        rw [es] at h1
        refine Or.inr ⟨k, r, hj, hk, ?_⟩
        rcases h1 with h1 | h1 | ⟨h1, h2⟩
        · exact Or.inl h1
        · exact Or.inr (Or.inl h1)
        · rcases hloc with h3 | ⟨h3, _⟩
          · exact Or.inr (Or.inr ⟨h3 ▸ h1, by have h2 : 12 * (r.gs ++ [p]).length ≤ x := h2; rw [List.length_append] at h2; omega⟩)
          · have := h3 b h1; omega
      · rw [if_neg e] at hq
        have es : updS st k { st k with vg := v' } j = st j := by unfold updS; rw [if_neg (fun e' => e e'.symm)]
        rw [es] at h1
        exact Or.inr ⟨j, q, hj, hq, h1⟩

end Go.Proofs.Ytimfoggjocajiaa

/- Contract: has. -/
namespace Go.Proofs.Ytimfoggjocajiaa
open Go.RowKit

/-! steps of a region that draws -/
section
variable {ops : Array Oper} {o : Oper} {a : Act} {w : World} {K : Act → World → Prop} {Q : Exit → Act → World → Prop} {E : Prop}

theorem step_value (hg : o.guard = none) {v : Value} {w' : World} (hrun : (execOp a.eval o).run Try.prog w = .ok (.value v) w') (h : K (a.put o.dst v) w') : if Region.wanted o (yielded ops a.tmps) = true then Oper.wp Try.prog o a w K Q else E := by
  have hw : Region.wanted o (yielded ops a.tmps) = true := by simp [Region.wanted, hg]
  rw [if_pos hw]
  unfold Oper.wp
  rw [hrun]
  exact h

theorem step_skip (hg : o.guard = none) {w' : World} (hrun : (execOp a.eval o).run Try.prog w = .ok (.skip) w') (h : K (a.put o.dst undef) w') : if Region.wanted o (yielded ops a.tmps) = true then Oper.wp Try.prog o a w K Q else E := by
  have hw : Region.wanted o (yielded ops a.tmps) = true := by simp [Region.wanted, hg]
  rw [if_pos hw]
  unfold Oper.wp
  rw [hrun]
  exact h

theorem step_load_arr (hg : o.guard = none) (x : Operand) (ho : o.op = .load 91 x) (b : Nat) (zs : List Int) (hA : Arr w b zs) (hx : a.eval x = .pointer (some ⟨b, 0, none⟩)) (h : K (a.put o.dst (.agg (i8s zs))) w) :
    if Region.wanted o (yielded ops a.tmps) = true then Oper.wp Try.prog o a w K Q else E :=
  step_value hg (by unfold execOp; simp only [ho, hx, run_load_arr hA, Sem.run_bind, Sem.run_pure, Result.andThen_ok]) h

theorem step_store_arr (hg : o.guard = none) (x y : Operand) (ho : o.op = .store 91 x y) (b : Nat) (zs ys : List Int) (hA : Arr w b zs) (hx : a.eval x = .pointer (some ⟨b, 0, none⟩)) (hy : a.eval y = .agg (i8s ys)) (hl : ys.length = 12)
    (h : ∀ w', Arr w' b ys → w.grownBy w' (some b) → K (a.put o.dst undef) w') : if Region.wanted o (yielded ops a.tmps) = true then Oper.wp Try.prog o a w K Q else E := by
  obtain ⟨w', hrun, h1, h2⟩ := run_store_arr (ys := ys) hA hl
  exact step_skip hg (by unfold execOp; simp only [ho, hx, hy, hrun, Sem.run_bind, Sem.run_pure, Result.andThen_ok]) (h w' h1 h2)

theorem step_look_ok (hg : o.guard = none) (m x : Operand) (t : TypeId) (hop : o.op = Op.lookup t m x true) (e : TypeId) (ht : Try.prog.underlying t = some (.map 3 e)) {z : Value} (hz : (zeroValue e).run Try.prog w = .ok z w)
    {b n : Nat} {f : Int → Option Value} (h : IMap w b n f) (k : Int) (hm : a.eval m = .map (some b)) (hx : a.eval x = .int .i64 k) (h1 : -9223372036854775808 ≤ k) (h2 : k ≤ 9223372036854775807)
    (hK : K (a.put o.dst (.tuple #[(f k).getD z, .bool (f k).isSome])) w) : if Region.wanted o (yielded ops a.tmps) = true then Oper.wp Try.prog o a w K Q else E :=
  step_value hg (by unfold execOp; simp only [hop, hm, hx, h.look_ok ht hz h1 h2, Sem.run_bind, Sem.run_pure, Result.andThen_ok]) hK

theorem step_look (hg : o.guard = none) (m x : Operand) (t : TypeId) (hop : o.op = Op.lookup t m x false) (e : TypeId) (ht : Try.prog.underlying t = some (.map 3 e)) {z : Value} (hz : (zeroValue e).run Try.prog w = .ok z w)
    {b n : Nat} {f : Int → Option Value} (h : IMap w b n f) (k : Int) (hm : a.eval m = .map (some b)) (hx : a.eval x = .int .i64 k) (h1 : -9223372036854775808 ≤ k) (h2 : k ≤ 9223372036854775807)
    (hK : K (a.put o.dst ((f k).getD z)) w) : if Region.wanted o (yielded ops a.tmps) = true then Oper.wp Try.prog o a w K Q else E :=
  step_value hg (by unfold execOp; simp only [hop, hm, hx, h.look ht hz h1 h2, Sem.run_bind, Sem.run_pure, Result.andThen_ok]) hK

theorem step_put (hg : o.guard = none) (m x v : Operand) (t : TypeId) (hop : o.op = Op.mapUpdate t m x v) (e : TypeId) (ht : Try.prog.underlying t = some (.map 3 e))
    {b n : Nat} {f : Int → Option Value} (h : IMap w b n f) (hn : n < maxLen) (k : Int) (val : Value) (hm : a.eval m = .map (some b)) (hx : a.eval x = .int .i64 k) (hv : a.eval v = val) (h1 : -9223372036854775808 ≤ k) (h2 : k ≤ 9223372036854775807)
    (hK : ∀ w', IMap w' b (n + 1) (upd f k val) → w.grownBy w' (some b) → K (a.put o.dst undef) w') : if Region.wanted o (yielded ops a.tmps) = true then Oper.wp Try.prog o a w K Q else E := by
  obtain ⟨w', hrun, r1, r2⟩ := h.put ht hn h1 h2 val
  exact step_skip hg (by unfold execOp; simp only [hop, hm, hx, hv, hrun, Sem.run_bind, Sem.run_pure, Result.andThen_ok]) (hK w' r1 r2)
end

/-- A store into the block that was made last. -/
theorem wpList_store_new {ops : Array Oper} {rest : List Oper} {op : Oper} {a : Act} {w : World} {Q : Exit → Act → World → Prop} (hgd : op.guard = none) (T : TypeId) (x y : Operand) (ho : op.op = .store T x y) (c c' : Array Value)
    (hx : a.eval x = .pointer (some ⟨w.heap.size, 0, none⟩)) (hy : a.eval y = .agg c') (hi : (Try.prog.info? T).map (·.size) = some c'.size) (hs : c.size = c'.size) (h1 : c'.all (·.oneCell') = true)
    (h : wpList Try.prog ops Q rest (a.put op.dst undef) (w.alloc (.cells c' T))) : wpList Try.prog ops Q (op :: rest) a (w.alloc (.cells c T)) := by
  refine wpList_plain hgd fun K hK => ?_
  unfold Oper.wp execOp
  simp only [ho, hx, hy, run_storeAt_new w T c c' hi hs h1, Sem.run_bind, Sem.run_pure, Result.andThen_ok]
  exact hK _ _ h

theorem Try.size136 : (Try.prog.info? 136).map (·.size) = some 4 := by kernel_rfl
theorem Try.zero91 (w : World) : (zeroValue 91).run Try.prog w = .ok (.agg (i8s zeros12)) w := by kernel_rfl

/-! links as they lie -/

def tabF (tab : List (Nat × Pm)) : Int → Option Value := fun a => if 0 ≤ a then (tab.lookup a.toNat).map pv else none

def rawOf (l : Lk) : Raw := ⟨l.base, l.tab.length, tabF l.tab, l.tab.map (fun e => .int .i64 ((e.1 : Nat) : Int)), l.gens⟩

theorem tabF_nat (tab : List (Nat × Pm)) (b : Nat) : tabF tab (b : Int) = (tab.lookup b).map pv := by unfold tabF; rw [if_pos (by omega), Int.toNat_natCast]

theorem hasC_step {C : List Lk} {j : Nat} {l : Lk} (hl : C[j]? = some l) (q : Pm) : hasC (C.drop j) q = (l.tab.lookup (q.act l.base)).elim false (fun u => hasC (C.drop (j + 1)) (u⁻¹ * q)) := by
  obtain ⟨hj, rfl⟩ := List.getElem?_eq_some_iff.1 hl
  rw [List.drop_eq_getElem_cons hj]
  rfl

theorem owns_slice12 {w : World} {base e size n : Nat} {v : Value} {xs : List Value} (h : w.ownsRow base e size v n xs) : ∃ p cap, v = .slice p n cap := by
  rcases h.2 with ⟨rfl, rfl⟩ | ⟨g, cap, cur, rfl, _⟩
  · exact ⟨none, 0, rfl⟩
  · exact ⟨_, cap, rfl⟩

theorem heap_setCells_ne (b : Nat) : ∀ (vs : List Value) (o : Nat) (w : World) (x : Nat), x ≠ b → (w.setCells b o vs).heap[x]? = w.heap[x]?
  | [], _, _, _, _ => rfl
  | v :: r, o, w, x, h => by
    rw [World.setCells, heap_setCells_ne b r (o + 1) _ x h]
    exact Below.heap_setCell w ⟨b, o, none⟩ v x h

theorem Arr.there {w : World} {b : Nat} {zs : List Int} (h : Arr w b zs) : w.there b 0 12 := fun j hj => by
  rw [Nat.zero_add]
  exact ⟨by rw [(h.cell hj).1]; rfl, (h.cell hj).2⟩

theorem i8_one (ys : List Int) : ∀ v ∈ ys.map (Value.int .i8), v.oneCell' = true := by
  intro v hv
  obtain ⟨a, _, rfl⟩ := List.mem_map.1 hv
  rfl

/-- A whole array stored, cell by cell. -/
theorem store_cells {w : World} {b : Nat} {zs ys : List Int} (h : Arr w b zs) (hl : ys.length = 12) : Arr (w.setCells b 0 (ys.map (Value.int .i8))) b ys ∧ w.grownBy (w.setCells b 0 (ys.map (Value.int .i8))) (some b) := by
  obtain ⟨w', hrun, h1, h2⟩ := run_store_arr (ys := ys) h hl
  have hrun' := run_storeAt_mid (P := Try.prog) w b 0 91 (i8s ys) (by rw [i8s_size, hl]; exact h.there) (by rw [Try.size91, i8s_size, hl]) (i8s_one ys)
  rw [hrun] at hrun'
  have e := (Result.ok.inj hrun').2
  have e2 : (i8s ys).toList = ys.map (Value.int .i8) := by simp [i8s]
  rw [e2] at e
  rw [← e]
  exact ⟨h1, h2⟩

theorem pback_raw (x : Pm) (w : World) : Calls Try.prog 111 #[.agg (x.l.map (Value.int .i8)).toArray] w fun e w' => e = .returned (.agg (x⁻¹.l.map (Value.int .i8)).toArray) ∧ Below w.heap.size w w' := pback_ok x w
theorem ptimes_raw (x y : Pm) (w : World) : Calls Try.prog 67 #[.agg (x.l.map (Value.int .i8)).toArray, .agg (y.l.map (Value.int .i8)).toArray] w fun e w' => e = .returned (.agg ((x * y).l.map (Value.int .i8)).toArray) ∧ Below w.heap.size w w' := ptimes_ok x y w

theorem undrew {w w' : World} (h : Below w.drew.heap.size w.drew w') : Below w.heap.size w w' := ⟨h.os, h.tape, h.output, h.size, h.block⟩

/-- What a look-up in a link gives. -/
theorem look_tab (tab : List (Nat × Pm)) (b : Nat) : ∃ (ys : List Int) (t : Bool), ys.length = 12 ∧ (tabF tab (b : Int)).getD (.agg (i8s zeros12)) = .agg (i8s ys) ∧ (tabF tab (b : Int)).isSome = t ∧ Hid ((t = true → ∃ u, tab.lookup b = some u ∧ ys = u.l) ∧ (t = false → tab.lookup b = none)) := by
  rw [tabF_nat]
  cases h : tab.lookup b with
  | none => exact ⟨zeros12, false, rfl, rfl, rfl, And.intro (fun h => Bool.noConfusion h) (fun _ => rfl)⟩
  | some u => exact ⟨u.l, true, u.len, rfl, rfl, And.intro (fun _ => ⟨u, rfl, rfl⟩) (fun h => Bool.noConfusion h)⟩

set_option maxRecDepth 20000 in
set_option maxHeartbeats 2000000 in
theorem has_ok {B g : Nat} {st : Nat → St} (C : List Lk) (k : Nat) (p : Pm) (w : World) (hC : ChainAt w B g (C.map rawOf) st) (hk : k ≤ C.length) (h12 : C.length ≤ 12) (hb : ∀ l, l ∈ C → l.base < 12) :
    Calls Try.prog 69 #[.slice (some ⟨g, 0, none⟩) C.length C.length, .int .i64 k, pv p] w fun e w' => e = .returned (.bool (hasC (C.drop k) p)) ∧ Below w.heap.size w w' := by
  unfold pv
  have hp := p.len
  have HA := hide (Arr.new w p.l hp)
  have HCC := hide hC
  have HBB := hide hb
  by_cases hkn : k = C.length
  · have HE : Hid (hasC (C.drop k) p = true) := by show _ = _; rw [hkn, List.drop_length]; rfl
    subst hkn
    have h0 : C.length - C.length = 0 := Nat.sub_self _
    clear hC hb
    go_enter Try.func69, Try.ntmps69
    go_wp2
    go_loopw [15] (fun i wr => i = .int .i64 0 ∧ Below w.heap.size w wr) (fun _ _ => 0)
    case atStart => exact ⟨rfl, (Below.refl _ _).alloc (Nat.le_refl _) _⟩
    case round =>
      obtain ⟨rfl, hbw⟩ := hrel
      go_wp2
      go_ret
      exact ⟨by rw [HE.out]; rfl, hbw⟩
  · have hkn' : k < C.length := by omega
    clear hC hb
    go_enter Try.func69, Try.ntmps69
    go_wp2
    go_loopw [15] (fun i wr => ∃ (j : Nat) (q : Pm), k ≤ j ∧ j ≤ C.length ∧ i = .int .i64 ((j - k : Nat) : Int) ∧ Arr wr w.heap.size q.l ∧ Hid (hasC (C.drop j) q = hasC (C.drop k) p) ∧ Below w.heap.size w wr) (fun i _ => C.length - k - (intOf i).toNat)
    case atStart => exact ⟨k, p, Nat.le_refl _, hk, by rw [Nat.sub_self]; rfl, HA.out, rfl, (Below.refl _ _).alloc (Nat.le_refl _) _⟩
    case round =>
      obtain ⟨j, q, hkj, hj, rfl, hA, hh, hbw⟩ := hrel
      by_cases hlt : j < C.length
      · obtain ⟨l, hl⟩ : ∃ l, C[j]? = some l := ⟨_, List.getElem?_eq_getElem hlt⟩
        have hCr := HCC.out.below hbw (Nat.le_refl _)
        have lk := hCr.link j (rawOf l) (by rw [List.getElem?_map, hl]; rfl)
        have hbase : l.base < 12 := HBB.out l (List.mem_of_getElem? hl)
        have hS0 := hA.lt
        have HSt := hide (hasC_step hl q)
        rw [hh.out] at HSt
        have hm12 := q.act_lt hbase
        obtain ⟨ys, t, hyl, hyv, hyt, hyh⟩ := look_tab l.tab (q.act l.base)
        have hcq := (hA.cell hbase).1
        rw [q.getD_act hbase] at hcq
        have mlt := lk.mp.lt
        have hmp := lk.mp
        have c0 := lk.c0
        have c1 := lk.c1
        obtain ⟨pb, cb, ebv⟩ := owns_slice12 lk.bells
        obtain ⟨pg, cg, egv⟩ := owns_slice12 lk.gens
        have c2 := lk.c2
        have c3 := lk.c3
        rw [ebv] at c2
        rw [egv] at c3
        have hrange : wr.rangeAt g ((k * 4) + ((j - k) * 4)) [.int .i64 ((l.base : Nat) : Int), .map (some (st j).m), .slice pb (rawOf l).bs.length cb, .slice pg (rawOf l).gs.length cg] := by
          have e4 : k * 4 + (j - k) * 4 = 4 * j := by omega
          rw [e4]
          intro x v hv
          match x, hv with
          | 0, hv => rw [← Option.some.inj hv]; exact c0
          | 1, hv => rw [← Option.some.inj hv]; exact c1
          | 2, hv => rw [← Option.some.inj hv]; exact c2
          | 3, hv => rw [← Option.some.inj hv]; exact c3
          | x + 4, hv => cases hv
        have HLK : Hid (∀ W' : World, W'.heap[(st j).m]? = wr.heap[(st j).m]? → (Instr.lookup 134 (.map (some (st j).m)) (.int .i64 ((q.act l.base : Nat) : Int)) true).run Try.prog W' = .ok (.tuple #[.agg (i8s ys), .bool t]) W') := fun W' hW' => by
          have h1 := (hmp.of_block hW').look_ok (t := 134) Try.underlying134 (Try.zero91 W') (a := ((q.act l.base : Nat) : Int)) (by omega) (by omega)
          have h2 : (rawOf l).f = tabF l.tab := rfl
          rw [h2, hyv, hyt] at h1
          exact h1
        clear hmp c0 c1 c2 c3 hCr lk hyv hyt hh
        generalize (st j).m = m at *
        clear ebv egv
        generalize (rawOf l).bs.length = nb at *
        generalize (rawOf l).gs.length = ng at *
        generalize hbb : q.act l.base = b at *
        generalize hba : l.base = base at *
        have HBB2 := hide hbb
        have HBA := hide hba
        clear hbb hba
        go_wp2_with (refine wpList_load_mid rfl 136 _ rfl g _ rfl _ _ hrange Try.underlying136 rfl Try.size136 ?_)
        have hSg : ∀ W' : World, (∀ x, x < wr.heap.size + 1 → W'.heap[x]? = (wr.alloc (.cells #[.int .i64 (base : Int), .map (some m), .slice pb nb cb, .slice pg ng cg] 136)).heap[x]?) →
            (W'.cell? ⟨wr.heap.size, 0, none⟩ = some (.int .i64 (base : Int)) ∧ W'.cell? ⟨wr.heap.size, 1, none⟩ = some (.map (some m)) ∧ W'.cell? ⟨w.heap.size, base, none⟩ = some (.int .i8 (b : Int)) ∧
              (Instr.lookup 134 (.map (some m)) (.int .i64 (b : Int)) true).run Try.prog W' = .ok (.tuple #[.agg (ys.map (Value.int .i8)).toArray, .bool t]) W') := by
          intro W' hW'
          have hn := heap_alloc_last wr (.cells #[.int .i64 (base : Int), .map (some m), .slice pb nb cb, .slice pg ng cg] 136)
          refine ⟨?_, ?_, ?_, HLK.out W' (by rw [hW' m (by omega)]; exact Below.heap_alloc wr _ m mlt)⟩
          · rw [cell_of_row W' wr.heap.size 0 _ _ _ ((hW' wr.heap.size (by omega)).trans hn)]; rfl
          · rw [cell_of_row W' wr.heap.size 1 _ _ _ ((hW' wr.heap.size (by omega)).trans hn)]; rfl
          · rw [World.cell?_of_block (w := wr) (a := ⟨w.heap.size, base, none⟩) ((hW' w.heap.size (by omega)).trans (Below.heap_alloc wr _ _ hS0))]; exact hcq
        have hA1 := hA.alloc (.cells #[.int .i64 (base : Int), .map (some m), .slice pb nb cb, .slice pg ng cg] 136)
        have hB1 := hbw.alloc hbw.size (.cells #[.int .i64 (base : Int), .map (some m), .slice pb nb cb, .slice pg ng cg] 136)
        have hsz : (wr.alloc (.cells #[.int .i64 (base : Int), .map (some m), .slice pb nb cb, .slice pg ng cg] 136)).heap.size = wr.heap.size + 1 := by simp
        generalize hW1 : wr.alloc (.cells #[.int .i64 (base : Int), .map (some m), .slice pb nb cb, .slice pg ng cg] 136) = W1 at *
        clear hrange hcq HLK mlt hW1
        have hz : Arr (W1.alloc (.cells #[.int .i8 0, .int .i8 0, .int .i8 0, .int .i8 0, .int .i8 0, .int .i8 0, .int .i8 0, .int .i8 0, .int .i8 0, .int .i8 0, .int .i8 0, .int .i8 0] 91)).drew (wr.heap.size + 1) zeros12 := by rw [← hsz]; exact zeros_new W1
        have hst := store_cells hz (ys := ys) hyl
        have hth : (W1.alloc (.cells #[.int .i8 0, .int .i8 0, .int .i8 0, .int .i8 0, .int .i8 0, .int .i8 0, .int .i8 0, .int .i8 0, .int .i8 0, .int .i8 0, .int .i8 0, .int .i8 0] 91)).drew.there (wr.heap.size + 1) 0 (ys.map (Value.int .i8)).length := by
          rw [List.length_map, hyl]; exact hz.there
        have ho1 : ∀ v ∈ ys.map (Value.int .i8), v.oneCell' = true := i8_one ys
        have hin : (Try.prog.info? 91).map (·.size) = some (ys.map (Value.int .i8)).length := by rw [List.length_map, hyl]; exact Try.size91
        have hwb : IntKind.i64.wrap (b : Int) = (b : Int) := by rw [IntKind.wrap_i64]; omega
        have hbz : (0 : Int) ≤ (base : Int) := by omega
        have hbt : (base : Int) < 12 := by omega
        have hA3 : Arr ((W1.alloc (.cells #[.int .i8 0, .int .i8 0, .int .i8 0, .int .i8 0, .int .i8 0, .int .i8 0, .int .i8 0, .int .i8 0, .int .i8 0, .int .i8 0, .int .i8 0, .int .i8 0] 91)).drew.setCells (wr.heap.size + 1) 0 (ys.map (Value.int .i8))) w.heap.size q.l := (Arr.drew (hA1.alloc _)).kept hst.2 (by intro e; have := Option.some.inj e; omega)
        have hB3 : Below w.heap.size w ((W1.alloc (.cells #[.int .i8 0, .int .i8 0, .int .i8 0, .int .i8 0, .int .i8 0, .int .i8 0, .int .i8 0, .int .i8 0, .int .i8 0, .int .i8 0, .int .i8 0, .int .i8 0] 91)).drew.setCells (wr.heap.size + 1) 0 (ys.map (Value.int .i8))) := (hB1.alloc hB1.size _).drew.grown hst.2 (by have := hB1.size; simp; omega) (fun k h => by have := Option.some.inj h; omega)
        have hy3 := hst.1
        have HA3 := hide hA3
        have HB3 := hide hB3
        have HY3 := hide hy3
        have HSG := hide hSg
        clear hst hz hSg hA3 hB3 hy3
        go_region_held3 (fun W' => W'.cell? ⟨wr.heap.size, 0, none⟩ = some (.int .i64 (base : Int)) ∧ W'.cell? ⟨wr.heap.size, 1, none⟩ = some (.map (some m)) ∧ W'.cell? ⟨w.heap.size, base, none⟩ = some (.int .i8 (b : Int)) ∧
              (Instr.lookup 134 (.map (some m)) (.int .i64 (b : Int)) true).run Try.prog W' = .ok (.tuple #[.agg (ys.map (Value.int .i8)).toArray, .bool t]) W')
          (first | exact HSG.out _ (fun _ _ => rfl) | exact HSG.out _ (fun x hx => Below.heap_alloc W1.drew _ x (by show x < W1.heap.size; omega)) | exact HSG.out _ (fun x hx => (heap_setCells_ne _ _ _ _ _ (by show x ≠ _; omega)).trans (Below.heap_alloc W1.drew _ x (by show x < W1.heap.size; omega))))
          (fail)
        all_goals
          clear hth ho1 hin HSG
          have hSD : w.heap.size ≠ wr.heap.size + 1 := by omega
          generalize (W1.alloc (.cells #[.int .i8 0, .int .i8 0, .int .i8 0, .int .i8 0, .int .i8 0, .int .i8 0, .int .i8 0, .int .i8 0, .int .i8 0, .int .i8 0, .int .i8 0, .int .i8 0] 91)).drew.setCells (wr.heap.size + 1) 0 (ys.map (Value.int .i8)) = W3 at *
          have hA3 := HA3.out
          have hB3 := HB3.out
          have hY3 := HY3.out
          clear HA3 HB3 HY3 hA1 hB1 hsz hA hbw
          generalize wr.heap.size + 1 = D at *
          cases t with
          | false =>
            have hno := hyh.out.2 rfl
            have HE : Hid (hasC (C.drop k) p = false) := by show _ = _; have := HSt.out; rw [hno] at this; exact this
            go_wp2
            go_ret
            exact ⟨by rw [HE.out]; rfl, hB3⟩
          | true =>
            obtain ⟨u, hu, rfl⟩ := hyh.out.1 rfl
            have HE : Hid (hasC (C.drop (j + 1)) (u⁻¹ * q) = hasC (C.drop k) p) := by show _ = _; have := HSt.out; rw [hu] at this; exact this.symm
            have hDlt := hY3.lt
            have hlS := hA3.lt
            have hin1 : (Try.prog.info? 91).map (·.size) = some (u.l.map (Value.int .i8)).length := by rw [List.length_map, u.len]; exact Try.size91
            clear hyh hyl HSt hu
            go_wp2
            refine wp_region_held_drew (S := fun W' => Arr W' D u.l) (by kernel_rfl) hY3 (fun hS => ?_)
            refine wpAnyH_take (i := 0) rfl (by kernel_rfl) (by kernel_rfl) (by kernel_rfl) (fun _ _ _ h => h) (yieldsIf_load_mid (by rfl) _ _ rfl D 0 rfl (u.l.map (Value.int .i8)) _ (fun w' h => Arr.range h) Try.underlying91 rfl hin1) hS ?_
            refine wpAnyH_ready (rs := [1, 2]) (by kernel_rfl) (by simp) ?_
            refine AllReadyH.cons rfl (fun K hK => ?_) (AllReadyH.cons rfl (fun K hK => ?_) AllReadyH.nil)
            · go_simp
              refine (pback_raw u _).mono ?_
              rintro e w4 ⟨rfl, hb4⟩
              replace hb4 := undrew hb4
              have hY4 : Arr w4 D u.l := hY3.below hb4 hDlt
              have hA4 : Arr w4 w.heap.size q.l := hA3.below hb4 hlS
              have hB4 : Below w.heap.size w w4 := hB3.trans (hb4.mono hB3.size)
              refine hK.out _ _ hY4 (fun _ => ?_)
              clear hK hb4
              refine wpAnyH_ready (rs := [2]) (by kernel_rfl) (by simp) ?_
              refine AllReadyH.cons rfl (fun K hK => ?_) AllReadyH.nil
              refine step_load_arr rfl _ rfl _ _ hA4 rfl ?_
              refine hK.out _ _ hY4 (fun _ => ?_)
              clear hK
              refine wpAnyH_ready (rs := [3]) (by kernel_rfl) (by simp) ?_
              refine AllReadyH.cons rfl (fun K hK => ?_) AllReadyH.nil
              go_simp
              refine (ptimes_raw u⁻¹ q _).mono ?_
              rintro e w5 ⟨rfl, hb5⟩
              have hY5 : Arr w5 D u.l := hY4.below hb5 hY4.lt
              have hA5 : Arr w5 w.heap.size q.l := hA4.below hb5 hA4.lt
              have hB5 : Below w.heap.size w w5 := hB4.trans (hb5.mono hB4.size)
              refine hK.out _ _ hY5 (fun _ => ?_)
              clear hK hb5
              refine wpAnyH_ready (rs := [4]) (by kernel_rfl) (by simp) ?_
              refine AllReadyH.cons rfl (fun K hK => ?_) AllReadyH.nil
              refine step_store_arr rfl _ _ rfl w.heap.size q.l (u⁻¹ * q).l hA5 rfl rfl (u⁻¹ * q).len ?_
              intro w6 hA6 hg6
              refine hK.out _ _ (hY5.kept hg6 (fun e => hSD (Option.some.inj e))) (fun _ => ?_)
              clear hK
              have hB6 := hB5.grown hg6 hB5.size (fun k h => by have := Option.some.inj h; omega)
              refine wpAnyH_done (by kernel_rfl) ?_ _
              go_wp2
              go_roundw
              case rel =>
                have hfin : ∃ (j' : Nat) (q' : Pm), k ≤ j' ∧ j' ≤ C.length ∧ Value.int .i64 (((j - k : Nat) : Int) + 1) = .int .i64 ((j' - k : Nat) : Int) ∧ Arr w6 w.heap.size q'.l ∧ Hid (hasC (C.drop j') q' = hasC (C.drop k) p) ∧ Below w.heap.size w w6 :=
                  ⟨j + 1, u⁻¹ * q, by omega, by omega, by congr 1; omega, hA6, HE, hB6⟩
                first
                  | exact hfin
                  | ((repeat apply Exists.intro); exact ⟨hfin, rfl⟩)
              case measure => simp [intOf]; omega
            · refine step_load_arr rfl _ rfl _ _ hA3 rfl ?_
              refine hK.out _ _ hS (fun _ => ?_)
              clear hK
              refine wpAnyH_ready (rs := [1]) (by kernel_rfl) (by simp) ?_
              refine AllReadyH.cons rfl (fun K hK => ?_) AllReadyH.nil
              go_simp
              refine (pback_raw u _).mono ?_
              rintro e w4 ⟨rfl, hb4⟩
              replace hb4 := undrew hb4
              have hY4 : Arr w4 D u.l := hY3.below hb4 hDlt
              have hA4 : Arr w4 w.heap.size q.l := hA3.below hb4 hlS
              have hB4 : Below w.heap.size w w4 := hB3.trans (hb4.mono hB3.size)
              refine hK.out _ _ hY4 (fun _ => ?_)
              clear hK hb4
              refine wpAnyH_ready (rs := [3]) (by kernel_rfl) (by simp) ?_
              refine AllReadyH.cons rfl (fun K hK => ?_) AllReadyH.nil
              go_simp
              refine (ptimes_raw u⁻¹ q _).mono ?_
              rintro e w5 ⟨rfl, hb5⟩
              have hY5 : Arr w5 D u.l := hY4.below hb5 hY4.lt
              have hA5 : Arr w5 w.heap.size q.l := hA4.below hb5 hA4.lt
              have hB5 : Below w.heap.size w w5 := hB4.trans (hb5.mono hB4.size)
              refine hK.out _ _ hY5 (fun _ => ?_)
              clear hK hb5
              refine wpAnyH_ready (rs := [4]) (by kernel_rfl) (by simp) ?_
              refine AllReadyH.cons rfl (fun K hK => ?_) AllReadyH.nil
              refine step_store_arr rfl _ _ rfl w.heap.size q.l (u⁻¹ * q).l hA5 rfl rfl (u⁻¹ * q).len ?_
              intro w6 hA6 hg6
              refine hK.out _ _ (hY5.kept hg6 (fun e => hSD (Option.some.inj e))) (fun _ => ?_)
              clear hK
              have hB6 := hB5.grown hg6 hB5.size (fun k h => by have := Option.some.inj h; omega)
              refine wpAnyH_done (by kernel_rfl) ?_ _
              go_wp2
              go_roundw
              case rel =>
                have hfin : ∃ (j' : Nat) (q' : Pm), k ≤ j' ∧ j' ≤ C.length ∧ Value.int .i64 (((j - k : Nat) : Int) + 1) = .int .i64 ((j' - k : Nat) : Int) ∧ Arr w6 w.heap.size q'.l ∧ Hid (hasC (C.drop j') q' = hasC (C.drop k) p) ∧ Below w.heap.size w w6 :=
                  ⟨j + 1, u⁻¹ * q, by omega, by omega, by congr 1; omega, hA6, HE, hB6⟩
                first
                  | exact hfin
                  | ((repeat apply Exists.intro); exact ⟨hfin, rfl⟩)
              case measure => simp [intOf]; omega
      · obtain rfl : j = C.length := by omega
        have HE : Hid (hasC (C.drop k) p = true) := by show _ = _; rw [← hh.out, List.drop_length]; rfl
        go_wp2
        go_ret
        exact ⟨by rw [HE.out]; rfl, hbw⟩
end Go.Proofs.Ytimfoggjocajiaa

/- Ahead of take and bring: bounds, tables with one more entry, what one says of the other. -/
namespace Go.Proofs.Ytimfoggjocajiaa
open Go.RowKit

/-! how many different rows there may be -/

def enc : List Int → Nat
  | [] => 0
  | x :: t => x.toNat + 12 * enc t

theorem enc_lt : ∀ (l : List Int), (∀ x ∈ l, 0 ≤ x ∧ x < 12) → enc l < 12 ^ l.length
  | [], _ => by simp [enc]
  | x :: t, h => by
    have h1 := h x (by simp)
    have h2 := enc_lt t (fun y hy => h y (by simp [hy]))
    rw [List.length_cons, Nat.pow_succ]
    unfold enc
    omega

theorem enc_inj : ∀ (l m : List Int), l.length = m.length → (∀ x ∈ l, 0 ≤ x ∧ x < 12) → (∀ x ∈ m, 0 ≤ x ∧ x < 12) → enc l = enc m → l = m
  | [], [], _, _, _, _ => rfl
  | [], _ :: _, h, _, _, _ => by simp at h
  | _ :: _, [], h, _, _, _ => by simp at h
  | x :: t, y :: s, h, hl, hm, e => by
    have h1 := hl x (by simp)
    have h2 := hm y (by simp)
    unfold enc at e
    have e1 : x = y := by omega
    have e2 : enc t = enc s := by omega
    rw [e1, enc_inj t s (by simpa using h) (fun z hz => hl z (by simp [hz])) (fun z hz => hm z (by simp [hz])) e2]

theorem Pm.dig (x : Pm) : ∀ y ∈ x.l, 0 ≤ y ∧ y < 12 := fun y hy => by have := x.row.1 y hy; rw [x.len] at this; exact this

theorem gens_bound {gs : List Pm} (h : gs.Nodup) : gs.length ≤ 12 ^ 12 := by
  have h1 : (gs.map (fun x => enc x.l)).Nodup := by
    rw [List.nodup_iff_pairwise_ne, List.pairwise_map]
    rw [List.nodup_iff_pairwise_ne] at h
    refine h.imp (fun {a b} hne e => hne ?_)
    exact Pm.eq_of_l (enc_inj a.l b.l (by rw [a.len, b.len]) a.dig b.dig e)
  have h2 := nodup_len (gs.map (fun x => enc x.l)) (List.range (12 ^ 12)) h1 (fun y hy => by
    obtain ⟨x, _, rfl⟩ := List.mem_map.1 hy
    have := enc_lt x.l x.dig
    rw [x.len] at this
    exact List.mem_range.2 this)
  rw [List.length_map, List.length_range] at h2
  exact h2

theorem tab_len {F : Nat → Prop} {l : Lk} (h : LkOk F l) (hb : l.base < 12) : l.tab.length ≤ 12 := by
  have h2 := nodup_len (l.tab.map (·.1)) (List.range 12) h.nodup (fun y hy => by
    obtain ⟨e, he, rfl⟩ := List.mem_map.1 hy
    rw [← h.brings e he]
    exact List.mem_range.2 (e.2.act_lt hb))
  rw [List.length_map, List.length_range] at h2
  exact h2

theorem key_lt {F : Nat → Prop} {l : Lk} (h : LkOk F l) (hb : l.base < 12) {e : Nat × Pm} (he : e ∈ l.tab) : e.1 < 12 := by
  rw [← h.brings e he]; exact e.2.act_lt hb

/-! a table with one more entry -/

theorem lookup_snoc (tab : List (Nat × Pm)) (b : Nat) (p : Pm) (x : Nat) : (tab ++ [(b, p)]).lookup x = (tab.lookup x).or (if x = b then some p else none) := by
  induction tab with
  | nil =>
    show ([(b, p)] : List (Nat × Pm)).lookup x = _
    rw [List.lookup_cons]
    by_cases e : x = b
    · subst e; simp
    · simp [e, beq_eq_false_iff_ne.2 e]
  | cons e t ih =>
    rw [List.cons_append, List.lookup_cons, List.lookup_cons]
    cases h : x == e.1 with
    | true => simp
    | false => simpa using ih

theorem tabF_snoc {tab : List (Nat × Pm)} {b : Nat} (p : Pm) (h : tab.lookup b = none) : upd (tabF tab) (b : Int) (pv p) = tabF (tab ++ [(b, p)]) := by
  funext x
  unfold upd tabF
  by_cases hx : 0 ≤ x
  · obtain ⟨m, rfl⟩ := Int.eq_ofNat_of_zero_le hx
    rw [if_pos hx, if_pos hx, Int.toNat_natCast, lookup_snoc]
    by_cases e : m = b
    · subst e; rw [if_pos rfl, h, if_pos rfl]; rfl
    · rw [if_neg (by omega), if_neg e]; cases tab.lookup m <;> rfl
  · rw [if_neg (by omega), if_neg hx, if_neg hx]

theorem raw_add {l : Lk} {b : Nat} {p : Pm} (h : l.tab.lookup b = none) : ({ rawOf l with f := upd (rawOf l).f (b : Int) (pv p), n := (rawOf l).n + 1, bs := (rawOf l).bs ++ [.int .i64 (b : Int)] } : Raw) = rawOf (l.add b p) := by
  have e := tabF_snoc p h
  show (⟨l.base, l.tab.length + 1, upd (tabF l.tab) (b : Int) (pv p), l.tab.map (fun e => Value.int .i64 ((e.1 : Nat) : Int)) ++ [.int .i64 (b : Int)], l.gens⟩ : Raw) = ⟨l.base, (l.tab ++ [(b, p)]).length, tabF (l.tab ++ [(b, p)]), (l.tab ++ [(b, p)]).map (fun e => Value.int .i64 ((e.1 : Nat) : Int)), l.gens⟩
  rw [e]
  simp

theorem raw_gen (l : Lk) (p : Pm) : ({ rawOf l with gs := (rawOf l).gs ++ [p] } : Raw) = rawOf (l.gen p) := rfl

theorem map_mid (pre : List Lk) (l : Lk) (c : List Lk) : ((pre ++ l :: c).map rawOf)[pre.length]? = some (rawOf l) := by simp

theorem set_mid (pre : List Lk) (l l' : Lk) (c : List Lk) : ((pre ++ l :: c).map rawOf).set pre.length (rawOf l') = (pre ++ l' :: c).map rawOf := by
  simp

theorem set_mid2 (pre : List Lk) (l : Lk) (c : List Lk) (r r' : Raw) : (((pre ++ l :: c).map rawOf).set pre.length r).set pre.length r' = ((pre ++ l :: c).map rawOf).set pre.length r' := by
  rw [List.set_set]

theorem foot_succ {g k : Nat} {R : List Raw} {st : Nat → St} {b x : Nat} (h : Foot g (k + 1) R st b x) : Foot g k R st b x := by
  rcases h with ⟨h1, h2⟩ | ⟨j, r, hj, hr, h1⟩
  · exact Or.inl ⟨h1, by omega⟩
  · exact Or.inr ⟨j, r, by omega, hr, h1⟩

theorem foot_lt {w : World} {B g k : Nat} {R : List Raw} {st : Nat → St} (h : ChainAt w B g R st) {b x : Nat} (hf : Foot g k R st b x) : b < w.heap.size ∧ B ≤ b := by
  rcases hf with ⟨rfl, _⟩ | ⟨j, r, _, hr, h1⟩
  · exact ⟨h.lt_g, h.gB⟩
  · have l := h.link j r hr
    rcases h1 with rfl | ⟨h1, _⟩ | ⟨h1, _⟩
    · exact ⟨l.mp.lt, l.mB⟩
    · exact ⟨(l.bells.lt b h1).2, (l.bells.lt b h1).1⟩
    · exact ⟨(l.gens.lt b h1).2, (l.gens.lt b h1).1⟩

/-- What is no part of the chain is kept. -/
theorem keep_arr {w w' : World} {g k D : Nat} {R : List Raw} {st : Nat → St} {zs : List Int} (hK : Keep (Foot g k R st) w w') (hA : Arr w D zs) (hn : ∀ x, ¬ Foot g k R st D x) : Arr w' D zs :=
  ⟨by rw [hK.block D hA.lt hn]; exact hA.1, hA.2⟩

/-- Bells that a header had are there. -/
theorem keep_ints {w w' : World} {S : Nat → Nat → Prop} {B e : Nat} {v : Value} {xs : List Value} (hK : Keep S w w') (h : w.ownsRow B e 1 v xs.length xs) {b : Nat} (hb : v.ownBlock = some b) (hn : ∀ x, x < xs.length → ¬ S b x) {j : Nat} (hj : j < xs.length) :
    w'.cell? ⟨b, j, none⟩ = some (xs.getD j undef) := by
  rw [hK.cell b j (h.lt b hb).2 (hn j hj)]
  have := h.cells hb j (xs.getD j undef) (by simp [List.getD, List.getElem?_eq_getElem hj])
  rw [Addr.add_lit, Nat.zero_add] at this
  exact this

/-- Rows of generators that a header had are there. -/
theorem gcells_at : ∀ (gs : List Pm) (i : Nat) (p : Pm), gs[i]? = some p → ∀ j, j < 12 → (gcells gs)[i * 12 + j]? = some (.int .i8 (p.l.getD j 0))
  | [], _, _, h, _, _ => by simp at h
  | x :: t, 0, p, h, j, hj => by
    have : x = p := by simpa using h
    subst this
    show (x.l.map (Value.int .i8) ++ gcells t)[0 * 12 + j]? = _
    rw [List.getElem?_append_left (by rw [List.length_map, x.len]; omega)]
    simp [List.getD, x.len, hj]
  | x :: t, i + 1, p, h, j, hj => by
    show (x.l.map (Value.int .i8) ++ gcells t)[(i + 1) * 12 + j]? = _
    rw [List.getElem?_append_right (by rw [List.length_map, x.len]; omega), List.length_map, x.len, show (i + 1) * 12 + j - 12 = i * 12 + j from by omega]
    exact gcells_at t i p (by simpa using h) j hj

theorem keep_gens {w w' : World} {S : Nat → Nat → Prop} {B : Nat} {v : Value} {gs : List Pm} (hK : Keep S w w') (h : w.ownsRow B 91 12 v gs.length (gcells gs)) {b : Nat} (hb : v.ownBlock = some b) (hn : ∀ x, x < 12 * gs.length → ¬ S b x) {i : Nat} {p : Pm} (hi : gs[i]? = some p) :
    w'.rangeAt b (i * 12) (p.l.map (Value.int .i8)) := by
  intro j v hv
  have hil := (List.getElem?_eq_some_iff.1 hi).1
  have hj : j < 12 := by have := (List.getElem?_eq_some_iff.1 hv).1; rw [List.length_map, p.len] at this; exact this
  rw [hK.cell b _ (h.lt b hb).2 (hn _ (by omega))]
  have := h.cells hb (i * 12 + j) _ (gcells_at gs i p hi j hj)
  rw [Addr.add_lit, Nat.zero_add] at this
  rw [this, ← hv]
  simp [List.getD, p.len, hj]

/-- What take leaves. -/
def TakePost (B g : Nat) (pre cs : List Lk) (st : Nat → St) (p : Pm) (F : Nat → Prop) (w : World) (e : Ending) (w' : World) : Prop := ∃ v, e = .returned v ∧ ∃ cs' st', Whole F cs' ∧ Took cs cs' p ∧ ChainAt w' B g ((pre ++ cs').map rawOf) st' ∧
  Keep (Foot g pre.length ((pre ++ cs).map rawOf) st) w w' ∧ (∀ b x, b < w.heap.size → Foot g pre.length ((pre ++ cs').map rawOf) st' b x → Foot g pre.length ((pre ++ cs).map rawOf) st b x) ∧ (∀ l, l ∈ cs' → l.gens.Nodup) ∧ (∀ j, j < pre.length → st' j = st j)

/-- What take says at a level. -/
def TakeSays (n k : Nat) : Prop := ∀ (B g : Nat) (pre cs : List Lk) (st : Nat → St) (p : Pm) (F : Nat → Prop) (w : World), pre.length = k → k + cs.length = n → n ≤ 12 → (∀ l, l ∈ pre ++ cs → l.base < 12) → (∀ l, l ∈ cs → l.gens.Nodup) →
    ChainAt w B g ((pre ++ cs).map rawOf) st → Whole F cs → Fixes F p →
    Calls Try.prog 123 #[.slice (some ⟨g, 0, none⟩) n n, .int .i64 k, pv p] w fun e w' => TakePost B g pre cs st p F w e w'

/-- What bring leaves. -/
def BringPost (B g : Nat) (pre : List Lk) (l : Lk) (c : List Lk) (st : Nat → St) (p : Pm) (F : Nat → Prop) (w : World) (e : Ending) (w' : World) : Prop := ∃ v, e = .returned v ∧ ∃ l' c' st', Part F l' c' ∧ Brought l c l' c' p ∧ ChainAt w' B g ((pre ++ l' :: c').map rawOf) st' ∧
  Keep (Foot g pre.length ((pre ++ l :: c).map rawOf) st) w w' ∧ (∀ b x, b < w.heap.size → Foot g pre.length ((pre ++ l' :: c').map rawOf) st' b x → Foot g pre.length ((pre ++ l :: c).map rawOf) st b x) ∧ (∀ x, x ∈ l' :: c' → x.gens.Nodup) ∧ (∀ j, j < pre.length → st' j = st j)

/-- What bring says at a level, where at most m bells are still to come. -/
def BringFor (n k m B g : Nat) (pre : List Lk) (l : Lk) (c : List Lk) (st : Nat → St) (p : Pm) (F : Nat → Prop) (w : World) : Prop := pre.length = k → k + 1 + c.length = n → n ≤ 12 → 12 - l.tab.length ≤ m → (∀ x, x ∈ pre ++ l :: c → x.base < 12) → (∀ x, x ∈ l :: c → x.gens.Nodup) →
    ChainAt w B g ((pre ++ l :: c).map rawOf) st → Part F l c → Fixes F p → Gen (fun x => x ∈ l.gens) p →
    Calls Try.prog 138 #[.slice (some ⟨g, 0, none⟩) n n, .int .i64 k, pv p] w fun e w' => BringPost B g pre l c st p F w e w'

def BringSays (n k m : Nat) : Prop := ∀ (B g : Nat) (pre : List Lk) (l : Lk) (c : List Lk) (st : Nat → St) (p : Pm) (F : Nat → Prop) (w : World), BringFor n k m B g pre l c st p F w

theorem BringPost.mk {B g : Nat} {pre : List Lk} {l : Lk} {c : List Lk} {st : Nat → St} {p : Pm} {F : Nat → Prop} {w w' : World} {v : Value} {l' : Lk} {c' : List Lk} {st' : Nat → St} (h1 : Part F l' c') (h2 : Brought l c l' c' p) (h3 : ChainAt w' B g ((pre ++ l' :: c').map rawOf) st')
    (h4 : Keep (Foot g pre.length ((pre ++ l :: c).map rawOf) st) w w') (h5 : ∀ b x, b < w.heap.size → Foot g pre.length ((pre ++ l' :: c').map rawOf) st' b x → Foot g pre.length ((pre ++ l :: c).map rawOf) st b x) (h6 : ∀ x, x ∈ l' :: c' → x.gens.Nodup) (h7 : ∀ j, j < pre.length → st' j = st j) :
    BringPost B g pre l c st p F w (.returned v) w' := ⟨v, rfl, l', c', st', h1, h2, h3, h4, h5, h6, h7⟩

theorem TakePost.mk {B g : Nat} {pre cs : List Lk} {st : Nat → St} {p : Pm} {F : Nat → Prop} {w w' : World} {v : Value} {cs' : List Lk} {st' : Nat → St} (h1 : Whole F cs') (h2 : Took cs cs' p) (h3 : ChainAt w' B g ((pre ++ cs').map rawOf) st')
    (h4 : Keep (Foot g pre.length ((pre ++ cs).map rawOf) st) w w') (h5 : ∀ b x, b < w.heap.size → Foot g pre.length ((pre ++ cs').map rawOf) st' b x → Foot g pre.length ((pre ++ cs).map rawOf) st b x) (h6 : ∀ x, x ∈ cs' → x.gens.Nodup) (h7 : ∀ j, j < pre.length → st' j = st j) :
    TakePost B g pre cs st p F w (.returned v) w' := ⟨v, rfl, cs', st', h1, h2, h3, h4, h5, h6, h7⟩

/-- The links ahead, as they were: what the next level leaves, this one does. -/
theorem foot_up {g : Nat} {pre : List Lk} {l : Lk} {c c' : List Lk} {st st' : Nat → St} {b x : Nat} (hf : Foot g (pre.length + 1) ((pre ++ l :: c').map rawOf) st' b x → Foot g (pre.length + 1) ((pre ++ l :: c).map rawOf) st b x) (hs : st' pre.length = st pre.length)
    (h : Foot g pre.length ((pre ++ l :: c').map rawOf) st' b x) : Foot g pre.length ((pre ++ l :: c).map rawOf) st b x := by
  rcases h with h | ⟨j, r, hj, hr, h1⟩
  · exact Or.inl h
  · rcases Nat.lt_or_ge pre.length j with hlt | hge
    · exact foot_succ (hf (Or.inr ⟨j, r, hlt, hr, h1⟩))
    · have e : j = pre.length := by omega
      subst e
      rw [map_mid] at hr
      rw [hs] at h1
      exact Or.inr ⟨pre.length, r, Nat.le_refl _, by rw [map_mid]; exact hr, h1⟩

/-- What a run of steps has left of a chain. -/
structure Mid (w wr : World) (B g k : Nat) (R : List Raw) (st : Nat → St) (R' : List Raw) (st' : Nat → St) : Prop where
  chain : ChainAt wr B g R' st'
  keep : Keep (Foot g k R st) w wr
  foot : ∀ b x, b < w.heap.size → Foot g k R' st' b x → Foot g k R st b x
  low : ∀ j, j < k → st' j = st j

theorem Mid.start {w wr : World} {B g k : Nat} {R : List Raw} {st : Nat → St} (h : ChainAt w B g R st) (hb : Below w.heap.size w wr) : Mid w wr B g k R st R st :=
  ⟨h.below hb (Nat.le_refl _), Keep.of_below hb (Nat.le_refl _), fun _ _ _ h => h, fun _ _ => rfl⟩

theorem Mid.step {w w1 w2 : World} {B g k : Nat} {R R1 R2 : List Raw} {st st1 st2 : Nat → St} (h : Mid w w1 B g k R st R1 st1) (hc : ChainAt w2 B g R2 st2) (hk : Keep (Foot g k R1 st1) w1 w2) (hf : ∀ b x, b < w1.heap.size → Foot g k R2 st2 b x → Foot g k R1 st1 b x) (hl : ∀ j, j < k → st2 j = st1 j) : Mid w w2 B g k R st R2 st2 :=
  ⟨hc, h.keep.trans hk h.foot, fun b x hb hx => h.foot b x hb (hf b x (Nat.lt_of_lt_of_le hb h.keep.size) hx), fun j hj => (hl j hj).trans (h.low j hj)⟩

/-- The chain's cells that may change were there at the beginning, or are new. -/
theorem Mid.foot' {w wr : World} {B g k : Nat} {R R' : List Raw} {st st' : Nat → St} (h : Mid w wr B g k R st R' st') {b x : Nat} (hf : Foot g k R' st' b x) (hb : b < w.heap.size) : Foot g k R st b x := h.foot b x hb hf

theorem Mid.quiet {w w1 w2 : World} {B g k : Nat} {R R1 : List Raw} {st st1 : Nat → St} (h : Mid w w1 B g k R st R1 st1) (hb : Below w1.heap.size w1 w2) : Mid w w2 B g k R st R1 st1 :=
  h.step (h.chain.below hb (Nat.le_refl _)) (Keep.of_below hb (Nat.le_refl _)) (fun _ _ _ h => h) (fun _ _ => rfl)

/-- The cells of the generators that are there are kept. -/
theorem foot_gens {w : World} {B g k : Nat} {R : List Raw} {st : Nat → St} (h : ChainAt w B g R st) {r : Raw} (hk : R[k]? = some r) {b x : Nat} (hb : (st k).vg.ownBlock = some b) (hx : x < 12 * r.gs.length) : ¬ Foot g k R st b x := by
  have kd := h.kinds hk hk
  rintro (⟨rfl, _⟩ | ⟨j, q, hj, hq, h1⟩)
  · exact kd.2.2.1 hb
  · have kj := h.kinds hk hq
    have jk := h.kinds hq hk
    rcases h1 with rfl | ⟨h1, _⟩ | ⟨h1, h2⟩
    · exact kj.2.2.2.2.1 hb
    · exact jk.2.2.2.2.2 b h1 hb
    · by_cases e : j = k
      · subst e
        rw [hk] at hq
        injection hq with hq; subst hq
        omega
      · exact h.gdis j k (get_lt hq) (get_lt hk) e b h1 hb

/-- .. and of the bells. -/
theorem foot_bells {w : World} {B g k : Nat} {R : List Raw} {st : Nat → St} (h : ChainAt w B g R st) {r : Raw} (hk : R[k]? = some r) {b x : Nat} (hb : (st k).vb.ownBlock = some b) (hx : x < r.bs.length) : ¬ Foot g k R st b x := by
  have kd := h.kinds hk hk
  rintro (⟨rfl, _⟩ | ⟨j, q, hj, hq, h1⟩)
  · exact kd.2.1 hb
  · have kj := h.kinds hk hq
    rcases h1 with rfl | ⟨h1, h2⟩ | ⟨h1, _⟩
    · exact kj.2.2.2.1 hb
    · by_cases e : j = k
      · subst e
        rw [hk] at hq
        injection hq with hq; subst hq
        omega
      · exact h.bdis j k (get_lt hq) (get_lt hk) e b h1 hb
    · exact kj.2.2.2.2.2 b hb h1

theorem owns_some {w : World} {base e size n : Nat} {p : Option Addr} {m cap : Nat} {xs : List Value} (h : w.ownsRow base e size (.slice p m cap) n xs) (hn : 1 ≤ n) : ∃ b, p = some ⟨b, 0, none⟩ ∧ m = n ∧ n ≤ cap ∧ cap ≤ 9223372036854775807 := by
  rcases h.2 with ⟨_, h0⟩ | ⟨g, c, cur, e, _, _, hc, hm, _⟩
  · omega
  · injection e with e1 e2 e3
    exact ⟨g, e1, e2, by omega, by unfold maxLen at hm; omega⟩

theorem bases_of {pre cs cs' : List Lk} (h : cs'.map (·.base) = cs.map (·.base)) (hb : ∀ l, l ∈ pre ++ cs → l.base < 12) : ∀ l, l ∈ pre ++ cs' → l.base < 12 := by
  intro l hl
  rcases List.mem_append.1 hl with hl | hl
  · exact hb l (List.mem_append_left _ hl)
  · have : l.base ∈ cs.map (·.base) := by rw [← h]; exact List.mem_map.2 ⟨l, hl, rfl⟩
    obtain ⟨l0, hl0, e⟩ := List.mem_map.1 this
    rw [← e]; exact hb l0 (List.mem_append_right _ hl0)

end Go.Proofs.Ytimfoggjocajiaa

/- Contract: bring, where the bell is an old one. -/
namespace Go.Proofs.Ytimfoggjocajiaa
open Go.RowKit

theorem wpList_look_ok' {ops : Array Oper} {rest : List Oper} {o : Oper} {a : Act} {w : World} {Q : Exit → Act → World → Prop} (hg : o.guard = none) (m x : Operand) (t : TypeId) (hop : o.op = Op.lookup t m x true) (e : TypeId) (ht : Try.prog.underlying t = some (.map 3 e)) {z : Value} (hz : (zeroValue e).run Try.prog w = .ok z w)
    {b n : Nat} {f : Int → Option Value} (h : IMap w b n f) (k : Int) (hm : a.eval m = .map (some b)) (hx : a.eval x = .int .i64 k) (h1 : -9223372036854775808 ≤ k) (h2 : k ≤ 9223372036854775807) {v : Value} {s : Bool} (hv : (f k).getD z = v) (hs : (f k).isSome = s)
    (hK : wpList Try.prog ops Q rest (a.put o.dst (.tuple #[v, .bool s])) w) : wpList Try.prog ops Q (o :: rest) a w := by
  subst hv; subst hs
  exact wpList_look_ok hg m x t hop e ht hz h k hm hx h1 h2 hK

theorem Foot.not_new {w : World} {B g k : Nat} {R : List Raw} {st : Nat → St} (h : ChainAt w B g R st) {D : Nat} (hD : w.heap.size ≤ D) (x : Nat) : ¬ Foot g k R st D x := fun hf => by have := (foot_lt h hf).1; omega

set_option maxRecDepth 20000 in
set_option maxHeartbeats 4000000 in
theorem bring_old {n k m B g : Nat} {pre : List Lk} {l : Lk} {c : List Lk} {st : Nat → St} {p : Pm} {F : Nat → Prop} {w : World} (hT : TakeSays n (k + 1)) {u : Pm} (hu : l.tab.lookup (p.act l.base) = some u) : BringFor n k m B g pre l c st p F w := by
  intro hpre hn h12 hm hbs hnd hC hP hF hG
  subst hpre
  have lk := hC.link pre.length (rawOf l) (map_mid pre l c)
  have hbase : l.base < 12 := hbs l (by simp)
  have hglt := hC.lt_g
  have hb12 := p.act_lt hbase
  have HU := hide hu
  have hyl := u.len
  have hyv : (tabF l.tab ((p.act l.base : Nat) : Int)).getD (.agg (i8s zeros12)) = .agg (i8s u.l) := by rw [tabF_nat, hu]; rfl
  have hyt : (tabF l.tab ((p.act l.base : Nat) : Int)).isSome = true := by rw [tabF_nat, hu]; rfl
  clear hu
  have HCH := hide hC
  have HP := hide hP
  have HF := hide hF
  have HG := hide hG
  have HBS := hide hbs
  have HND := hide hnd
  have HT := hide hT
  have hmlt := lk.mp.lt
  obtain ⟨pb, cb, ebv⟩ := owns_slice12 lk.bells
  obtain ⟨pg, cg, egv⟩ := owns_slice12 lk.gens
  have c0 : ∀ o : Obj, (w.alloc o).cell? ⟨g, pre.length * 4, none⟩ = some (.int .i64 ((l.base : Nat) : Int)) := fun o => by rw [World.cell?_of_block (w := w) (a := ⟨g, pre.length * 4, none⟩) (Below.heap_alloc w o g hglt), Nat.mul_comm]; exact lk.c0
  have c1 : ∀ o : Obj, (w.alloc o).cell? ⟨g, pre.length * 4 + 1, none⟩ = some (.map (some (st pre.length).m)) := fun o => by rw [World.cell?_of_block (w := w) (a := ⟨g, pre.length * 4 + 1, none⟩) (Below.heap_alloc w o g hglt), Nat.mul_comm]; exact lk.c1
  have hmp0 := lk.mp.alloc (.cells (i8s p.l) 91)
  have hfe : (rawOf l).f = tabF l.tab := rfl
  rw [hfe] at hmp0
  have hA0 := Arr.new w p.l p.len
  have hcq := (hA0.cell hbase).1
  rw [p.getD_act hbase] at hcq
  generalize hbb : p.act l.base = b at *
  have HBB := hide hbb
  have hwb : IntKind.i64.wrap (b : Int) = (b : Int) := by rw [IntKind.wrap_i64]; omega
  have hbz : (0 : Int) ≤ (l.base : Int) := by omega
  have hbt : ((l.base : Nat) : Int) < 12 := by omega
  have hkn : (pre.length : Int) < (n : Int) := by omega
  have hB2' : ∀ o1 o2 : Obj, Below w.heap.size w ((w.alloc o1).alloc o2) := fun o1 o2 => ((Below.refl _ _).alloc (Nat.le_refl _) o1).alloc (by simp) o2
  unfold pv
  clear hC hP hF hG hbs hnd hT lk hbb
  go_enter Try.func138, Try.ntmps138
  go_wp2_with (first
    | refine wpList_look_ok' rfl _ _ 134 rfl 91 Try.underlying134 (Try.zero91 _) hmp0 (b : Int) rfl rfl (by omega) (by omega) hyv hyt ?_
    | (refine wpList_store_arr rfl _ _ rfl (w.heap.size + 1) zeros12 u.l (Arr.new1 w _ (zs := zeros12) rfl) rfl rfl hyl ?_; intro w2 hY2 hg2))
  have hA2 : Arr w2 w.heap.size p.l := (hA0.alloc _).kept hg2 (by intro e; have := Option.some.inj e; omega)
  have hB2 : Below w.heap.size w w2 := (hB2' _ _).grown hg2 (by simp; omega) (fun k h => by have := Option.some.inj h; omega)
  have hC2 := HCH.out.below hB2 (Nat.le_refl _)
  clear hg2 hA0 hcq c0 c1 hmp0 hB2'
  have hin1 : (Try.prog.info? 91).map (·.size) = some (u.l.map (Value.int .i8)).length := by rw [List.length_map, u.len]; exact Try.size91
  have hin2 : (Try.prog.info? 91).map (·.size) = some (p.l.map (Value.int .i8)).length := by rw [List.length_map, p.len]; exact Try.size91
  have hum : (p.act l.base, u) ∈ l.tab := by rw [HBB.out]; exact lookup_mem HU.out
  have hk1 : (pre.length : Int) + 1 = ((pre.length + 1 : Nat) : Int) := by omega
  have HK1 := hide hk1
  have hwk : IntKind.i64.wrap ((pre.length : Int) + 1) = (pre.length : Int) + 1 := by rw [IntKind.wrap_i64]; omega
  clear hk1
  refine wp_region_held_drew (S := fun W' => Arr W' (w.heap.size + 1) u.l ∧ Arr W' w.heap.size p.l) (by kernel_rfl) ⟨hY2, hA2⟩ (fun hS => ?_)
  refine wpAnyH_take (i := 0) (v := .slice (some ⟨g, 0, none⟩) n n) rfl (by kernel_rfl) (by kernel_rfl) (by kernel_rfl) (fun _ _ _ h => h) (Or.inl ⟨by rfl, fun w' _ => by go_simp⟩) hS ?_
  refine wpAnyH_take (i := 1) (v := .int .i64 (pre.length : Int)) rfl (by kernel_rfl) (by kernel_rfl) (by kernel_rfl) (fun _ _ _ h => h) (Or.inl ⟨by rfl, fun w' _ => by go_simp⟩) hS ?_
  refine wpAnyH_take (i := 2) (v := .int .i64 ((pre.length : Int) + 1)) rfl (by kernel_rfl) (by kernel_rfl) (by kernel_rfl) (fun _ _ _ h => h) (Or.inl ⟨by rfl, fun w' _ => by go_simp⟩) hS ?_
  refine wpAnyH_take (i := 3) rfl (by kernel_rfl) (by kernel_rfl) (by kernel_rfl) (fun _ _ _ h => h) (yieldsIf_load_mid (by rfl) _ _ rfl (w.heap.size + 1) 0 rfl (u.l.map (Value.int .i8)) _ (fun w' h => Arr.range h.1) Try.underlying91 rfl hin1) hS ?_
  refine wpAnyH_take (i := 5) rfl (by kernel_rfl) (by kernel_rfl) (by kernel_rfl) (fun _ _ _ h => h) (yieldsIf_load_mid (by rfl) _ _ rfl w.heap.size 0 rfl (p.l.map (Value.int .i8)) _ (fun w' h => Arr.range h.2) Try.underlying91 rfl hin2) hS ?_
  refine wpAnyH_ready (rs := [4]) (by kernel_rfl) (by simp) ?_
  refine AllReadyH.cons rfl (fun K hK => ?_) AllReadyH.nil
  go_simp
  refine (pback_raw u _).mono ?_
  rintro e w4 ⟨rfl, hb4⟩
  replace hb4 := undrew hb4
  have hY4 := hY2.below hb4 hY2.lt
  have hA4 := hA2.below hb4 hA2.lt
  have hB4 : Below w.heap.size w w4 := hB2.trans (hb4.mono hB2.size)
  refine hK.out _ _ ⟨hY4, hA4⟩ (fun _ => ?_)
  clear hK hb4
  refine wpAnyH_ready (rs := [6]) (by kernel_rfl) (by simp) ?_
  refine AllReadyH.cons rfl (fun K hK => ?_) AllReadyH.nil
  go_simp
  refine (ptimes_raw u⁻¹ p _).mono ?_
  rintro e w5 ⟨rfl, hb5⟩
  have hY5 := hY4.below hb5 hY4.lt
  have hA5 := hA4.below hb5 hA4.lt
  have hB5 : Below w.heap.size w w5 := hB4.trans (hb5.mono hB4.size)
  refine hK.out _ _ ⟨hY5, hA5⟩ (fun _ => ?_)
  clear hK hb5
  refine wpAnyH_ready (rs := [7]) (by kernel_rfl) (by simp) ?_
  refine AllReadyH.cons rfl (fun K hK => ?_) AllReadyH.nil
  have hC5 := HCH.out.below hB5 (Nat.le_refl _)
  have hF5 : Fixes (plus F l.base) (u⁻¹ * p) := fixes_plus.2 ⟨(fixes_sub F).mul ((fixes_sub F).inv (HP.out.ok.fix _ hum)) HF.out, by have h1 : u.act l.base = p.act l.base := HP.out.ok.brings _ hum; rw [Pm.act_mul, ← h1, Pm.inv_act]⟩
  have hTk := HT.out B g (pre ++ [l]) c st (u⁻¹ * p) (plus F l.base) w5 (by simp) (by omega) h12 (by rw [List.append_assoc]; exact HBS.out) (fun x hx => HND.out x (List.mem_cons_of_mem _ hx)) (by rw [List.append_assoc]; exact hC5) HP.out.whole hF5
  rw [← HK1.out] at hTk
  have HTk := hide hTk
  clear hTk
  go_simp
  refine HTk.out.mono ?_
  rintro e w6 ⟨v, rfl, cs', st', hW6, hT6, hC6, hK6, hf6, hn6, hs6⟩
  rw [List.append_assoc] at hC6 hK6
  rw [show (pre ++ [l]).length = pre.length + 1 from by simp] at hK6 hf6 hs6
  have hS6 : Arr w6 (w.heap.size + 1) u.l ∧ Arr w6 w.heap.size p.l := ⟨keep_arr hK6 hY5 (fun x => Foot.not_new HCH.out (by omega) x), keep_arr hK6 hA5 (fun x => Foot.not_new HCH.out (Nat.le_refl _) x)⟩
  refine hK.out _ _ hS6 (fun _ => ?_)
  clear hK
  refine wpAnyH_done (by kernel_rfl) ?_ _
  go_wp2
  have hpo := HP.out.old hum HG.out hW6 hT6
  refine bodyPost_ret (results_none rfl _ _ _) rfl (BringPost.mk hpo.1 hpo.2 hC6 ?_ ?_ ?_ (fun j hj => hs6 j (by omega)))
  · exact (Keep.of_below hB5 (Nat.le_refl _)).trans hK6 (fun b x _ hf => foot_succ hf)
  · intro b' x hb' hf
    exact foot_up (fun hf' => by have h := hf6 b' x (Nat.lt_of_lt_of_le hb' hB5.size); rw [List.append_assoc, List.append_assoc] at h; exact h hf') (hs6 _ (by omega)) hf
  · intro x hx
    rcases List.mem_cons.1 hx with rfl | hx
    · exact HND.out _ List.mem_cons_self
    · exact hn6 x hx
end Go.Proofs.Ytimfoggjocajiaa
