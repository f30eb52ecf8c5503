/- Contract of the answer's Order; the least common multiple of the cycles is the order. -/
import Derived.Test.YtgglbafcocbhbaaRefE
namespace Go.Proofs.Ytgglbafcocbhbaa
open Go.RowKit
set_option maxRecDepth 20000

theorem it_succ' (r : List Int) (n x : Nat) : it r (n + 1) x = it r n (nx r x) := it_add r n 1 x

/-- The row, taken n times. -/
def pw (r : List Int) (n : Nat) : List Int := (List.range r.length).map (fun i => ((it r n i : Nat) : Int))

theorem pw_length (r : List Int) (n : Nat) : (pw r n).length = r.length := by simp [pw]

theorem pw_get {r : List Int} {n i : Nat} (h : i < r.length) : (pw r n).getD i 0 = ((it r n i : Nat) : Int) := by simp [pw, List.getD, h]

theorem pw_one {r : List Int} (hr : isRow r) : pw r 1 = r := by
  refine ext_getD (pw_length r 1) (fun i hi => ?_)
  rw [pw_length] at hi
  rw [pw_get hi]
  have := hr.at hi
  show ((nx r i : Nat) : Int) = _
  unfold nx; omega

theorem pw_succ {r : List Int} (hr : isRow r) (n : Nat) : by_ (pw r n) r = pw r (n + 1) := by
  refine ext_getD (by rw [by_length, pw_length]) (fun i hi => ?_)
  rw [by_length] at hi
  rw [by_get hi, pw_get hi]
  show (pw r n).getD (nx r i) 0 = _
  rw [pw_get (nx_lt hr hi), it_succ']

theorem isRow_pw {r : List Int} (hr : isRow r) (n : Nat) : isRow (pw r n) := by
  constructor
  · intro y hy
    obtain ⟨i, hi, rfl⟩ := List.mem_map.1 hy
    have := it_lt hr (List.mem_range.1 hi) n
    rw [pw_length]; omega
  · rw [List.nodup_iff_pairwise_ne]
    unfold pw
    rw [List.pairwise_map]
    refine List.Pairwise.imp_of_mem ?_ (List.pairwise_lt_range (n := r.length))
    intro i j hi hj hij e
    have := it_inj hr (List.mem_range.1 hi) (List.mem_range.1 hj) n (by omega)
    omega

theorem pw_rnd {r : List Int} {n : Nat} : pw r n = rnd r.length ↔ ∀ x, x < r.length → it r n x = x := by
  constructor
  · intro h x hx
    have h1 := pw_get (r := r) (n := n) hx
    rw [h, rnd_get hx] at h1
    omega
  · intro h
    exact eq_rnd (pw_length r n) (fun j hj => by rw [pw_get hj, h j hj])

theorem it_mul {r : List Int} {x p : Nat} (h : it r p x = x) (d : Nat) : it r (p * d) x = x := by
  induction d with
  | zero => rfl
  | succ d ih => rw [Nat.mul_succ, it_add, h, ih]

theorem per_dvd {r : List Int} (hr : isRow r) {x n : Nat} (hx : x < r.length) : it r n x = x ↔ per r x ∣ n := by
  obtain ⟨q1, _, q3, q4⟩ := per_spec hr hx
  constructor
  · intro h
    have e : n = n % per r x + per r x * (n / per r x) := by rw [Nat.mod_add_div]
    rw [e, it_add, it_mul q3] at h
    have hlt := Nat.mod_lt n q1
    by_cases h0 : n % per r x = 0
    · exact Nat.dvd_of_mod_eq_zero h0
    · exact absurd h (q4 _ (by omega) hlt)
  · rintro ⟨d, rfl⟩
    exact it_mul q3 d

theorem ordTo_dvd (xss : List (List Int)) (n j : Nat) (hj : j ≤ xss.length) : ordTo xss j ∣ n ↔ ∀ i, i < j → (xss.getD i []).length ∣ n := by
  induction j with
  | zero => exact ⟨fun _ i h => by omega, fun _ => Nat.one_dvd n⟩
  | succ j ih =>
    show Nat.lcm (ordTo xss j) (xss.getD j []).length ∣ n ↔ _
    rw [Nat.lcm_dvd_iff, ih (by omega)]
    constructor
    · rintro ⟨h1, h2⟩ i hi
      by_cases e : i = j
      · subst e; exact h2
      · exact h1 i (by omega)
    · intro h
      exact ⟨fun i hi => h i (by omega), h j (by omega)⟩

/-- How often the row must be taken, by its cycles. -/
def ord (r : List Int) : Nat := ordTo (cycsTo r r.length) (cycsTo r r.length).length

theorem ord_pw {r : List Int} (hr : isRow r) (n : Nat) : pw r n = rnd r.length ↔ ord r ∣ n := by
  rw [pw_rnd]
  unfold ord
  rw [ordTo_dvd _ _ _ (Nat.le_refl _)]
  constructor
  · intro h i hi
    have hc : (cycsTo r r.length).getD i [] ∈ cycsTo r r.length := by
      rw [show (cycsTo r r.length).getD i [] = (cycsTo r r.length)[i] from by simp [List.getD, List.getElem?_eq_getElem hi]]
      exact List.getElem_mem hi
    obtain ⟨y, hy, e⟩ := cyc_form hc
    rw [e, orb_length]
    exact (per_dvd hr hy).1 (h y hy)
  · intro h x hx
    obtain ⟨c, hc, hm⟩ := List.mem_flatten.1 (flat_all hr r.length (Nat.le_refl _) x hx)
    obtain ⟨i, hi, e⟩ := List.getElem_of_mem hc
    have hd := h i hi
    rw [show (cycsTo r r.length).getD i [] = c from by simp [List.getD, List.getElem?_eq_getElem hi, e]] at hd
    obtain ⟨y, hy, rfl⟩ := cyc_form hc
    rw [orb_length] at hd
    obtain ⟨j, _, e2⟩ := mem_orb.1 hm
    have e3 : x = it r j y := by omega
    rw [e3, ← it_add, Nat.add_comm, it_add, (per_dvd hr hy).2 hd]

theorem ord_pos {r : List Int} (hr : isRow r) (h12 : r.length ≤ 12) : 1 ≤ ord r ∧ ord r ≤ 1000000000000000 := by
  have hall := cycsTo_len hr r.length (Nat.le_refl _)
  have hbd := ordTo_bound (xss := cycsTo r r.length) (fun x hx => by have := hall x hx; omega) (cycsTo r r.length).length (Nat.le_refl _)
  have hl := cycsTo_length r r.length
  have hpw : 12 ^ (cycsTo r r.length).length ≤ 12 ^ 12 := Nat.pow_le_pow_right (by decide) (by omega)
  have h3 : 12 ^ 12 ≤ 1000000000000000 := by decide
  exact ⟨hbd.1, by unfold ord; omega⟩

theorem dis_row {r : List Int} (hr : isRow r) {i j : Nat} (hi : i < r.length) (hj : j < i) : dis (nx r) i j = if r.getD i 0 < r.getD j 0 then 1 else 0 := by
  have h1 := hr.at hi
  have h2 := hr.at (show j < r.length by omega)
  unfold dis
  rw [decide_eq_false (by omega : ¬ i < j)]
  unfold nx
  by_cases h : r.getD i 0 < r.getD j 0
  · rw [if_pos h, decide_eq_true (by omega)]; rfl
  · rw [if_neg h, decide_eq_false (by omega)]; rfl

theorem S_le {n : Nat} {f : Nat → Nat} {c : Nat} (h : ∀ i, i < n → f i ≤ c) : S n f ≤ n * c := by
  induction n with
  | zero => exact Nat.zero_le _
  | succ n ih =>
    have h1 := ih (fun i hi => h i (by omega))
    have h2 := h n (by omega)
    show S n f + f n ≤ (n + 1) * c
    rw [Nat.add_mul, Nat.one_mul]; omega

theorem dis_le (p : Nat → Nat) (i j : Nat) : dis p i j ≤ 1 := by unfold dis ne; split <;> omega

theorem ret_io {o : Int} {a b : Bool} (h : a = b) : Ending.returned (.tuple #[.int .i64 o, .bool a]) = Ending.returned (.tuple #[.int .i64 o, .bool b]) := by rw [h]

set_option maxRecDepth 20000 in
set_option maxHeartbeats 4000000 in
theorem rorder_ok (v1 : Value) (a : List Int) (w : World) (i1 : Ints w v1 a) (r1 : isRow a) (n1 : 1 ≤ a.length) (n2 : a.length ≤ 12) :
    Calls Try.prog 14 #[v1] w fun e w' => e = .returned (.tuple #[.int .i64 (ord a), .bool (odd a)]) ∧ Below w.heap.size w w' := by
  obtain ⟨i0, hi, hz0, hz1, hz2⟩ := info_parts Try.info3
  have R1 := hide r1
  have HI := hide i1
  obtain ⟨od1, od2⟩ := ord_pos r1 n2
  have HOP := hide (fun n => ord_pw r1 n)
  have HODD := hide (odd_inv r1)
  generalize ord a = M at *
  rcases i1 with ⟨rfl, p, c, rfl⟩ | ⟨b1, o1, cap1, rfl, h01, hcp1, hm1, hb1, hcell1⟩
  · simp at n1
  have HC := hide hcell1
  have HNEW : Hid (∀ j u, (a.map (Value.int .i64))[j]? = some u → (w.alloc (.cells #[] 3)).cell? ((⟨b1, o1, none⟩ : Addr).add j) = some u) := by
    intro j u hu
    rw [List.getElem?_map] at hu
    obtain ⟨y, hy, rfl⟩ := Option.map_eq_some_iff.1 hu
    have hj : j < a.length := (List.getElem?_eq_some_iff.1 hy).1
    rw [Addr.add_lit, World.cell?_of_block (w := w) (a := ⟨b1, o1 + j, none⟩) (Below.heap_alloc w _ b1 hb1), HC.out j hj]
    simp [List.getD, hy]
  have HE : Hid ((w.alloc (.cells #[] 3)).ownsRow w.heap.size 3 1 (.slice (some ⟨w.heap.size, 0, none⟩) 0 0) 0 []) := World.ownsRow_made w #[] 0 (Nat.le_refl _) (by decide) (by simp)
  clear r1 hcell1
  go_enter Try.func14, Try.ntmps14
  go_wp2_with (at_builtin; refine wpList_append_own _ rfl _ _ 22 rfl w.heap.size 3 i0 (.int .i64 0) 1 8 Try.underlying22 hi hz0 hz1 hz2 rfl (by decide) _ _ _ rfl HE.out ⟨b1, o1, none⟩ a.length cap1 (a.map (Value.int .i64)) rfl (by simp) HNEW.out (ints_oneCell .i64 a) ?c3 ?c4 ?c5 ?_)
  case c3 => first | (unfold maxLen; omega) | omega
  case c4 => omega
  case c5 => simp
  · intro v2 w2 hown2 hgrow2 _
    have hb2 : Below w.heap.size w w2 := ((Below.refl _ _).alloc (Nat.le_refl _) _).grown hgrow2 (by simp) (fun k hk => by have e' : w.heap.size = k := Option.some.inj hk; omega)
    have hx2 := Ints.own hown2
    have HR := hide (rrounds_ok a.length w2 (by omega))
    clear hown2 hgrow2 HNEW HE
    go_wp2_with fail
    refine HR.out.mono ?_
    rintro e w3 ⟨v3, rfl, hown3, hb3⟩
    have hx3 := hx2.below hb3
    have hf3 := Ints.own hown3
    have hB3 : Below w.heap.size w w3 := hb2.trans (hb3.mono hb2.size)
    clear HR hown3 hx2 hb3 hb2
    go_wp2
    go_loopw [4, 5] (fun sn sx wr => ∃ k : Nat, 1 ≤ k ∧ k ≤ M ∧ sn = .int .i64 k ∧ Ints wr sx (pw a k) ∧ Below w3.heap.size w3 wr) (fun sn _ _ => M - (intOf sn).toNat)
    case atStart => exact ⟨1, by omega, od1, rfl, by rw [pw_one R1.out]; exact hx3, Below.refl _ _⟩
    case round =>
      clear hx3
      obtain ⟨k, hk1, hk2, rfl, hxk, hbk⟩ := hrel
      have HS := hide (same_any _ _ _ _ wr hxk (hf3.below hbk))
      have hBk : Below w.heap.size w wr := hB3.trans (hbk.mono hB3.size)
      by_cases heq : pw a k = rnd a.length
      · have hkM : k = M := by
          have hd := (HOP.out k).1 heq
          have := Nat.le_of_dvd (by omega) hd
          omega
        rw [decide_eq_true heq] at HS
        subst hkM
        clear heq hxk HOP
        go_wp2_with fail
        refine HS.out.mono ?_
        rintro e w4 ⟨rfl, hb4⟩
        have hB4 : Below w.heap.size w w4 := hBk.trans (hb4.mono hBk.size)
        clear hb4 HS hBk hbk hB3 hf3
        go_wp2
        go_loopw [7, 8] (fun sw si wr => ∃ i : Nat, i ≤ a.length ∧ si = .int .i64 i ∧ sw = .int .i64 (S i (fun i => S i (fun j => dis (nx a) i j)) : Nat) ∧ Below w.heap.size w wr) (fun _ si _ => a.length - (intOf si).toNat)
        case atStart => exact ⟨0, by omega, rfl, rfl, hB4⟩
        case round =>
          clear hB4
          obtain ⟨i, hi', rfl, rfl, hbw⟩ := hrel
          have hsb : S i (fun i => S i (fun j => dis (nx a) i j)) ≤ 144 := by
            have h1 := S_le (n := i) (f := fun i => S i (fun j => dis (nx a) i j)) (c := 12) (fun t ht => by
              have := S_le (n := t) (f := fun j => dis (nx a) t j) (c := 1) (fun j _ => dis_le _ _ _)
              omega)
            omega
          have HSS : Hid (S (i + 1) (fun i => S i (fun j => dis (nx a) i j)) = S i (fun i => S i (fun j => dis (nx a) i j)) + S i (fun j => dis (nx a) i j)) := rfl
          generalize hW : S i (fun i => S i (fun j => dis (nx a) i j)) = W at *
          have HW := hide hW
          clear hW
          by_cases hlt : i < a.length
          · obtain ⟨wo, hwo⟩ : ∃ wo : World, wo = wr := ⟨_, rfl⟩
            go_wp2
            go_loopw [7, 9] (fun sw sk wr => ∃ j : Nat, j ≤ i ∧ sk = .int .i64 j ∧ sw = .int .i64 ((W : Int) + (S j (fun j => dis (nx a) i j) : Nat)) ∧ Below w.heap.size w wr) (fun _ sk _ => i - (intOf sk).toNat)
            case atStart => exact ⟨0, by omega, rfl, by simp [S], hbw⟩
            case round =>
              clear hbw hwo
              obtain ⟨j, hj, rfl, rfl, hbw⟩ := hrel
              have hsj := S_le (n := j) (f := fun j => dis (nx a) i j) (c := 1) (fun j _ => dis_le _ _ _)
              by_cases hji : j < i
              · have hja : j < a.length := by omega
                obtain ⟨q, hq, hcq⟩ := cellAt HC.out hja
                obtain ⟨p, hp, hcp⟩ := cellAt HC.out hlt
                have g1 : wr.cell? ⟨b1, o1 + j, none⟩ = some (.int .i64 q) := (hbw.cell (by exact hb1)).trans hcq
                have g2 : wr.cell? ⟨b1, o1 + i, none⟩ = some (.int .i64 p) := (hbw.cell (by exact hb1)).trans hcp
                have HD : Hid (S (j + 1) (fun j => dis (nx a) i j) = S j (fun j => dis (nx a) i j) + if p < q then 1 else 0) := by
                  show S j (fun j => dis (nx a) i j) + dis (nx a) i j = _
                  rw [dis_row R1.out hlt hji, show a.getD i 0 = p from hp.out, show a.getD j 0 = q from hq.out]
                clear hcq hcp
                generalize S j (fun j => dis (nx a) i j) = V at *
                by_cases hpq : p < q
                · go_wp2
                  go_region
                  all_goals
                    go_wp2
                    go_roundw
                    case rel => exact ⟨j + 1, by omega, by go_num, by rw [HD.out, if_pos hpq]; go_num, by first | exact hbw | exact hbw.drew | exact hbw.drew.drew⟩
                    case measure => simp [intOf]; omega
                · go_wp2
                  go_region
                  all_goals
                    go_wp2
                    go_roundw
                    case rel => exact ⟨j + 1, by omega, by go_num, by rw [HD.out, if_neg (by omega)]; go_num, by first | exact hbw | exact hbw.drew | exact hbw.drew.drew⟩
                    case measure => simp [intOf]; omega
              · obtain rfl : j = i := by omega
                generalize S j (fun j' => dis (nx a) j j') = V at *
                go_wp2
                go_roundw
                case rel => exact ⟨j + 1, by omega, by go_num, by rw [HSS.out]; go_num, hbw⟩
                case measure => simp [intOf]; omega
          · obtain rfl : i = a.length := by omega
            have HO : Hid (W % 2 = if odd a = true then 1 else 0) := by have := HODD.out; unfold inv at this; rw [HW.out] at this; exact this
            cases hod : odd a with
            | true =>
              have hW2 : W % 2 = 1 := by have := HO.out; rw [hod] at this; exact this
              have ht : (((W : Nat) : Int) % 2 == 1) = true := by rw [beq_iff_eq]; omega
              have HOD := hide hod
              clear hW2 hod
              go_wp2
              go_ret2
              exact ⟨ret_io HOD.out.symm, hbw⟩
            | false =>
              have hW2 : W % 2 = 0 := by have := HO.out; rw [hod] at this; exact this
              have ht : (((W : Nat) : Int) % 2 == 1) = false := by rw [beq_eq_false_iff_ne]; omega
              have HOD := hide hod
              clear hW2 hod
              go_wp2
              go_ret2
              exact ⟨ret_io HOD.out.symm, hbw⟩
      · have hkM : k < M := by
          rcases Nat.lt_or_ge k M with h | h
          · exact h
          · exact absurd ((HOP.out k).2 (by rw [show k = M from by omega]; exact Nat.dvd_refl _)) heq
        rw [decide_eq_false heq] at HS
        have HBY := hide (fun w4 (hb : Below wr.heap.size wr w4) => rby_ok _ _ _ _ w4 (hxk.below hb) (HI.out.below (hBk.trans (hb.mono hBk.size))) (fun j hj => by rw [pw_length]; exact R1.out.at hj) (by rw [pw_length]; exact n1) (by omega))
        rw [pw_succ R1.out] at HBY
        clear heq
        go_wp2_with fail
        refine HS.out.mono ?_
        rintro e w4 ⟨rfl, hb4⟩
        go_wp2_with fail
        refine (HBY.out w4 hb4).mono ?_
        rintro e w5 ⟨v5, rfl, hi5, hb5⟩
        have hb35 : Below w3.heap.size w3 w5 := (hbk.trans (hb4.mono hbk.size)).trans (hb5.mono (Nat.le_trans hbk.size hb4.size))
        clear hb4 hb5 HS HBY hxk
        go_wp2
        go_roundw
        case rel => exact ⟨k + 1, by omega, by omega, by go_num, hi5, hb35⟩
        case measure => simp [intOf]; omega

end Go.Proofs.Ytgglbafcocbhbaa
