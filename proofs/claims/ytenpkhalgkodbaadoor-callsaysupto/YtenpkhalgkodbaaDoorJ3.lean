/- Joined: AppK, RunB, SbC, MdA, RefC, RefD, RefE, RefF. -/
import Derived.Test.YtenpkhalgkodbaaDoorJ0
import Derived.Maps.AppendAt
import Derived.Test.YtenpkhalgkodbaaDoorJ2
import Derived.Test.YtenpkhalgkodbaaDoorJ1
import Derived.Deep.RegionLaw
import Derived.Deep.RegionWith
/- append, and where the new slice lies. -/
namespace Go.Proofs.YtenpkhalgkodbaaDoor
open Go.RowKit

theorem run_append_keep {P : Program} (w : World) (base : Nat) (t ty e : TypeId) (i : TypeInfo) (z : Value) (size bytes : Nat) (ht : P.underlying t = some (.slice e)) (hi : P.info? e = some i) (hz : i.zero = some z)
    (hsize : i.size = size) (hby : i.bytes = bytes) (hzs : z.cells.size = size) (hsz : 0 < size)
    (v : Value) (n : Nat) (xs : List Value) (hown : w.ownsRow base e size v n xs)
    (a : Addr) (m c : Nat) (news : List Value) (hl : news.length = m * size) (hnews : ∀ j u, news[j]? = some u → w.cell? (a.add j) = some u) (h1 : ∀ u ∈ news, u.oneCell' = true)
    (h63 : n + m ≤ maxLen) (hbytes : (n + m) * bytes ≤ 140737488355328) (hbase : base ≤ w.heap.size) :
    ∃ v' w', (Builtin.append_ #[t, t] ty #[v, .slice (some a) m c]).run P w = .ok v' w' ∧ w'.ownsRow base e size v' (n + m) (xs ++ news) ∧ w.grownBy w' v.ownBlock ∧
      (v'.ownBlock = v.ownBlock ∨ (v'.ownBlock = some w.heap.size ∧ w.grownBy w' none)) := by
  obtain ⟨v', w', hr, h2, h3, _, h5⟩ := run_append_own_at (P := P) w base t ty e i z size bytes ht hi hz hsize hby hzs hsz v n xs hown a m c news hl hnews h1 h63 hbytes hbase
  refine ⟨v', w', hr, h2, h3, ?_⟩
  subst hsize
  subst hby
  rcases hown.2 with ⟨rfl, rfl⟩ | ⟨g, cap, cur, rfl, hbg, hg, hnc, hcm, hcs, htake⟩
  · exact h5.imp id (fun h => ⟨h, h3⟩)
  · by_cases hroom : n + m ≤ cap
    · have hfit : n * i.size + news.length ≤ cur.size := by rw [hl, hcs, ← Nat.add_mul]; exact Nat.mul_le_mul_right _ hroom
      have hr' := run_append_room (P := P) w t ty e i ht hi g n cap cur hg a m c news hl hnews h1 hroom hfit
      rw [hr] at hr'
      obtain ⟨e1, _⟩ := Result.ok.inj hr'
      left; rw [e1]; rfl
    · have holds : ∀ j u, xs[j]? = some u → w.cell? ((⟨g, 0, none⟩ : Addr).add j) = some u := hown.cells (g := g) rfl
      have hsmall : n + m ≤ 9223372036854775807 := by simp only [maxLen] at h63; omega
      have hr' := run_append_grow (P := P) w t ty e i z ht hi hz ⟨g, 0, none⟩ n cap xs hown.1 holds a m c news hl hnews (by omega) (by omega) (growslice_fits (by omega) hbytes)
      rw [hr] at hr'
      obtain ⟨e1, e2⟩ := Result.ok.inj hr'
      right
      rw [e1, e2]
      exact ⟨rfl, ⟨rfl, rfl, rfl, by simp, fun k hk _ => Below.heap_alloc w.drew _ k hk⟩⟩

theorem wpList_append_keep {P : Program} (w : World) {ops : Array Oper} {rest : List Oper} {o : Oper} {a : Act} {Q : Exit → Act → World → Prop} (hgd : o.guard = none) (s x : Operand) (t : TypeId)
    (ho : o.op = .call { callee := .builtin .append, args := #[s, x], argTypes := #[t, t] })
    (base : Nat) (e : TypeId) (i : TypeInfo) (z : Value) (size bytes : Nat) (ht : P.underlying t = some (.slice e)) (hi : P.info? e = some i) (hz : i.zero = some z)
    (hsize : i.size = size) (hby : i.bytes = bytes) (hzs : z.cells.size = size) (hsz : 0 < size)
    (v : Value) (n : Nat) (xs : List Value) (hs : a.eval s = v) (hown : w.ownsRow base e size v n xs)
    (ad : Addr) (m c : Nat) (news : List Value) (hx : a.eval x = .slice (some ad) m c) (hl : news.length = m * size) (hnews : ∀ j u, news[j]? = some u → w.cell? (ad.add j) = some u) (h1 : ∀ u ∈ news, u.oneCell' = true)
    (h63 : n + m ≤ maxLen) (hbytes : (n + m) * bytes ≤ 140737488355328) (hbase : base ≤ w.heap.size)
    (h : ∀ v' w', w'.ownsRow base e size v' (n + m) (xs ++ news) → w.grownBy w' v.ownBlock → (v'.ownBlock = v.ownBlock ∨ (v'.ownBlock = some w.heap.size ∧ w.grownBy w' none)) → wpList P ops Q rest (a.put o.dst v') w') :
    wpList P ops Q (o :: rest) a w := by
  refine wpList_plain hgd fun K hK => ?_
  obtain ⟨v', w', hr, h2, h3, h4⟩ := run_append_keep (P := P) w base t o.type e i z size bytes ht hi hz hsize hby hzs hsz v n xs hown ad m c news hl hnews h1 h63 hbytes hbase
  unfold Oper.wp execOp
  simp only [ho, resolve, invoke, builtin, Sem.run_bind, Sem.run_pure, Result.andThen_ok, List.map_toArray, List.map_cons, List.map_nil, hs, hx, hr]
  exact hK _ _ (h v' w' h2 h3 h4)

/-- .. as one step of a region that draws. -/
theorem step_append_keep {P : Program} {ops : Array Oper} {o : Oper} {a : Act} {w : World} {K : Act → World → Prop} {Q : Exit → Act → World → Prop} {E : Prop} (hg : o.guard = none) (s x : Operand) (t : TypeId)
    (ho : o.op = .call { callee := .builtin .append, args := #[s, x], argTypes := #[t, t] })
    (base : Nat) (e : TypeId) (i : TypeInfo) (z : Value) (size bytes : Nat) (ht : P.underlying t = some (.slice e)) (hi : P.info? e = some i) (hz : i.zero = some z)
    (hsize : i.size = size) (hby : i.bytes = bytes) (hzs : z.cells.size = size) (hsz : 0 < size)
    (v : Value) (n : Nat) (xs : List Value) (hs : a.eval s = v) (hown : w.ownsRow base e size v n xs)
    (ad : Addr) (m c : Nat) (news : List Value) (hx : a.eval x = .slice (some ad) m c) (hl : news.length = m * size) (hnews : ∀ j u, news[j]? = some u → w.cell? (ad.add j) = some u) (h1 : ∀ u ∈ news, u.oneCell' = true)
    (h63 : n + m ≤ maxLen) (hbytes : (n + m) * bytes ≤ 140737488355328) (hbase : base ≤ w.heap.size)
    (h : ∀ v' w', w'.ownsRow base e size v' (n + m) (xs ++ news) → w.grownBy w' v.ownBlock → (v'.ownBlock = v.ownBlock ∨ (v'.ownBlock = some w.heap.size ∧ w.grownBy w' none)) → K (a.put o.dst v') w') :
    if Region.wanted o (yielded ops a.tmps) = true then Oper.wp P o a w K Q else E := by
  have hw : Region.wanted o (yielded ops a.tmps) = true := by simp [Region.wanted, hg]
  rw [if_pos hw]
  obtain ⟨v', w', hr, h2, h3, h4⟩ := run_append_keep (P := P) w base t o.type e i z size bytes ht hi hz hsize hby hzs hsz v n xs hown ad m c news hl hnews h1 h63 hbytes hbase
  unfold Oper.wp execOp
  simp only [ho, resolve, invoke, builtin, Sem.run_bind, Sem.run_pure, Result.andThen_ok, List.map_toArray, List.map_cons, List.map_nil, hs, hx, hr]
  exact h v' w' h2 h3 h4

end Go.Proofs.YtenpkhalgkodbaaDoor

/- Contracts: the answer's runes, bell. -/
namespace Go.Proofs.YtenpkhalgkodbaaDoor
open Go.RowKit

/-- A string's length. -/
def strLen : Value → Nat
  | .string s => s.size
  | _ => 0

theorem whole_str (s : ByteArray) : s.extract 0 s.size = s := by
  apply ByteArray.ext
  simp only [ByteArray.data_extract]
  exact Array.extract_size

set_option maxRecDepth 20000 in
set_option maxHeartbeats 4000000 in
theorem runes_any (s : ByteArray) (w : World) (hs : s.size ≤ 1048576) :
    Calls Tryd.prog 73 #[.string s] w fun e w' => ∃ v, e = .returned v ∧ w'.ownsRow w.heap.size 3 1 v (arunes s).length ((arunes s).map (Value.int .i64)) ∧ Below w.heap.size w w' := by
  obtain ⟨i0, hi, hz0, hz1, hz2⟩ := info_parts Tryd.info3
  go_enter Tryd.func73, Tryd.ntmps73
  go_wp2
  go_loopw [0, 3] (fun t v wr => ∃ (pos : Nat) (pre : List Int), pos ≤ s.size ∧ Hid (t = .string (s.extract pos s.size)) ∧ Hid (ARunesTo s pre pos) ∧ wr.ownsRow w.heap.size 3 1 v pre.length (pre.map (Value.int .i64)) ∧ Below w.heap.size w wr) (fun t _ _ => strLen t)
  case atStart => exact ⟨0, [], by omega, by show _ = _; rw [whole_str], arunesTo_start s, World.ownsRow_nil _ _ _ _, Below.refl _ _⟩
  case round =>
    obtain ⟨pos, pre, hpos, ht, hA, hown, hbw⟩ := hrel
    have ht' := ht.out
    clear ht
    subst ht'
    have hbs := hbw.size
    have hpl := hA.out.len
    have hts : (s.extract pos s.size).size = s.size - pos := by simp
    have HP := hide (fun k => piece_piece s pos k)
    by_cases hlt : pos < s.size
    · have HDE := hide (decode_piece s pos)
      have hdw := decode_width s pos hlt
      have HN := hide (hA.out.next hlt)
      generalize hT : s.extract pos s.size = t at *
      have HR := hide (runeAt_any t wr (by omega) (by omega))
      rw [HDE.out] at HR
      unfold raV at HR
      generalize Utf8.decode s pos = d at *
      generalize ar d = c at *
      obtain ⟨d1, k⟩ := d
      simp only at hdw HN HR
      clear hA HDE hT
      go_wp2_with fail
      refine HR.out.mono ?_
      rintro e w1 ⟨rfl, rfl⟩
      go_wp2_with (at_builtin; refine wpList_append_own _ rfl _ _ 26 rfl w.heap.size 3 i0 (.int .i64 0) 1 8 Tryd.underlying26 hi hz0 hz1 hz2 rfl (by decide) _ _ _ rfl (hown.alloc _) ⟨wr.heap.size, 0, none⟩ 1 1 [.int .i64 c] rfl rfl ?c1 ?c2 ?c3 ?c4 ?c5 ?_)
      case c1 => exact cell_one_new _ _ _
      case c2 => intro u hu; simp at hu; subst hu; rfl
      case c3 => unfold maxLen; omega
      case c4 => omega
      case c5 => simp; omega
      · intro v' w1 hown' hgrow _
        have hBn := (hbw.alloc hbw.size (.cells #[.int .i64 c] 3)).grown hgrow (by simp; omega) (fun g hg => (hown.lt g hg).1)
        have HOW : Hid (w1.ownsRow w.heap.size 3 1 v' (pre ++ [c]).length ((pre ++ [c]).map (Value.int .i64))) := by
          show World.ownsRow _ _ _ _ _ _ _
          rw [List.length_append, List.map_append]; exact hown'
        have hk1 : k ≤ t.size := by omega
        have hk2 : (k : Int).toNat = k := by omega
        clear hown hown' hgrow
        go_wp2
        go_roundw
        case rel => exact ⟨pos + k, pre ++ [c], by omega, by show _ = _; rw [← HP.out k, hts], HN, HOW.out, hBn⟩
        case measure => simp [strLen]; omega
    · generalize s.extract pos s.size = t at *
      have HE : Hid (arunes s = pre) := hA.out.done hlt
      have ht0 : t.size = 0 := by omega
      clear hA
      go_wp2
      go_ret
      exact ⟨_, rfl, by rw [HE.out]; exact hown, hbw⟩

set_option maxRecDepth 100000 in
theorem si_bl : ∀ c : Fin 128, si c.val = if bl c.val.toUInt8 < 12 then ((bl c.val.toUInt8 : Nat) : Int) else -1 := by decide

theorem si_high {c : Nat} (h : 127 < c) : si c = -1 := by unfold si; rw [if_neg (by omega)]

/-- The bell of a rune, as the answer tells it. -/
def sa (c : Int) : Int := if 0 ≤ c then si c.toNat else -1

end Go.Proofs.YtenpkhalgkodbaaDoor

/- Contract: the answer's IsName. -/
namespace Go.Proofs.YtenpkhalgkodbaaDoor
open Go.RowKit
set_option maxRecDepth 20000
set_option linter.unusedVariables false

/-- A rune that may stand in a name. -/
def okR (c : Int) : Bool := decide ((65 ≤ c ∧ c ≤ 90) ∨ (97 ≤ c ∧ c ≤ 122) ∨ (48 ≤ c ∧ c ≤ 57) ∨ c = 32 ∨ (192 ≤ c ∧ c ≤ 382 ∧ c ≠ 215 ∧ c ≠ 247))

/-- A name, by its runes. -/
def isN (l : List Int) : Bool := decide (1 ≤ l.length ∧ l.length ≤ 20 ∧ l.getD 0 0 ≠ 32 ∧ l.getD (l.length - 1) 0 ≠ 32) && l.all okR

theorem isN_bad {l : List Int} {k : Nat} (hk : k < l.length) (h : okR (l.getD k 0) = false) : isN l = false := by
  unfold isN
  have : l.all okR = false := by
    rw [List.all_eq_false]
    refine ⟨l[k], List.getElem_mem hk, ?_⟩
    have e : l.getD k 0 = l[k] := by simp [List.getD, hk]
    rw [e] at h
    simp [h]
  rw [this, Bool.and_false]

theorem isN_good {l : List Int} (h1 : 1 ≤ l.length ∧ l.length ≤ 20 ∧ l.getD 0 0 ≠ 32 ∧ l.getD (l.length - 1) 0 ≠ 32) (h : ∀ k, k < l.length → okR (l.getD k 0) = true) : isN l = true := by
  unfold isN
  rw [decide_eq_true h1, Bool.true_and, List.all_eq_true]
  intro x hx
  obtain ⟨k, hk, rfl⟩ := List.getElem_of_mem hx
  have := h k hk
  have e : l.getD k 0 = l[k] := by simp [List.getD, hk]
  rw [e] at this
  exact this

theorem isN_form {l : List Int} (h1 : ¬ (1 ≤ l.length ∧ l.length ≤ 20 ∧ l.getD 0 0 ≠ 32 ∧ l.getD (l.length - 1) 0 ≠ 32)) : isN l = false := by
  unfold isN
  rw [decide_eq_false h1, Bool.false_and]

set_option maxHeartbeats 8000000 in
theorem isName_any (s : ByteArray) (w : World) (hs : s.size ≤ 1048576) :
    Calls Tryd.prog 50 #[.string s] w fun e w' => e = .returned (.bool (isN (arunes s))) ∧ Below w.heap.size w w' := by
  have HR := hide (runes_any s w hs)
  generalize arunes s = l at *
  by_cases hl0 : l.length = 0
  · have HN : Hid (isN l = false) := isN_form (by omega)
    rw [HN.out]
    go_enter Tryd.func50, Tryd.ntmps50
    go_wp2_with fail
    refine HR.out.mono ?_
    rintro e w1 ⟨v, rfl, hown, hb1⟩
    obtain ⟨p, c, rfl⟩ : ∃ p c, v = .slice p 0 c := by
      rw [hl0] at hown
      rcases hown.2 with ⟨e, _⟩ | ⟨g, c, cur, e, _⟩
      · exact ⟨_, _, e⟩
      · exact ⟨_, _, e⟩
    clear hown
    go_wp2
    go_ret
    exact ⟨rfl, hb1⟩
  · by_cases hl20 : 20 < l.length
    · have HN : Hid (isN l = false) := isN_form (by omega)
      rw [HN.out]
      obtain ⟨m, hm⟩ : ∃ m, Hid (l.length = m) := ⟨_, rfl⟩
      go_enter Tryd.func50, Tryd.ntmps50
      go_wp2_with fail
      refine HR.out.mono ?_
      rintro e w1 ⟨v, rfl, hown, hb1⟩
      obtain ⟨g, c, rfl, hg1, hg2, hc1, hc2⟩ := owns_form hown (by omega)
      clear hown
      have hm2 : 20 < m := by rw [← hm.out]; exact hl20
      rw [hm.out] at *
      have hm3 : m ≤ 9223372036854775807 := by omega
      go_wp2
      go_ret
      exact ⟨rfl, hb1⟩
    · obtain ⟨m, hm⟩ : ∃ m, Hid (l.length = m) := ⟨_, rfl⟩
      have hm1 : 1 ≤ m := by rw [← hm.out]; omega
      have hm2 : m ≤ 20 := by rw [← hm.out]; omega
      obtain ⟨km, hkm⟩ : ∃ km, m = km + 1 := ⟨m - 1, by omega⟩
      obtain ⟨x0, hx0⟩ : ∃ y, Hid (l.getD 0 0 = y) := ⟨_, rfl⟩
      obtain ⟨x9, hx9⟩ : ∃ y, Hid (l.getD (l.length - 1) 0 = y) := ⟨_, rfl⟩
      have HB := fun k (hk : k < m) (h : okR (l.getD k 0) = false) => hide (isN_bad (l := l) (k := k) (by rw [hm.out]; exact hk) h)
      have HF := fun (h1 : ¬ (x0 ≠ 32 ∧ x9 ≠ 32)) => hide (isN_form (l := l) (by rw [hx0.out, hx9.out]; exact fun e => h1 e.2.2))
      have HG := fun (h1 : x0 ≠ 32 ∧ x9 ≠ 32) (h : ∀ k, k < m → okR (l.getD k 0) = true) => hide (isN_good (l := l) ⟨by rw [hm.out]; exact hm1, by rw [hm.out]; exact hm2, by rw [hx0.out]; exact h1.1, by rw [hx9.out]; exact h1.2⟩ (by rw [hm.out]; exact h))
      generalize isN l = R at *
      go_enter Tryd.func50, Tryd.ntmps50
      go_wp2_with fail
      refine HR.out.mono ?_
      rintro e w1 ⟨v, rfl, hown, hb1⟩
      rw [hm.out] at hown
      obtain ⟨g, c, rfl, hg1, hg2, hc1, hc2⟩ := owns_form hown (by omega)
      have HC : Hid (∀ j, j < m → w1.cell? ⟨g, j, none⟩ = some (.int .i64 (l.getD j 0))) := fun j hj => (owns_cell hown hj).1
      have c0 : w1.cell? ⟨g, 0, none⟩ = some (.int .i64 x0) := by rw [HC.out 0 (by omega), hx0.out]
      have c9 : w1.cell? ⟨g, km, none⟩ = some (.int .i64 x9) := by rw [HC.out km (by omega), ← hx9.out, hm.out, hkm]; rfl
      clear hown HR
      by_cases h0 : x0 = 32
      · have HF := HF (fun e => e.1 h0)
        subst hkm
        go_wp2
        go_ret
        exact ⟨by rw [HF.out]; rfl, hb1⟩
      · by_cases h9 : x9 = 32
        · have HF := HF (fun e => e.2 h9)
          subst hkm
          go_wp2
          go_ret
          exact ⟨by rw [HF.out]; rfl, hb1⟩
        · have HG := HG ⟨h0, h9⟩
          clear HF
          have b0 : (x0 == 32) = false := by simpa using h0
          have b9 : (x9 == 32) = false := by simpa using h9
          subst hkm
          go_wp2
          go_loop [4] (fun i => ∃ k : Nat, k ≤ km + 1 ∧ i = .int .i64 k ∧ Hid (∀ j, j < k → okR (l.getD j 0) = true)) (fun i => km + 1 - (intOf i).toNat)
          case atStart => exact ⟨0, by omega, rfl, fun j hj => absurd hj (Nat.not_lt_zero j)⟩
          case round =>
            obtain ⟨k, hk, rfl, hi⟩ := hrel
            clear c0 c9 h0 h9 b0 b9
            by_cases hlt : k < km + 1
            · have hcx := HC.out k hlt
              have HBk := HB k hlt
              have HK : okR (l.getD k 0) = true → Hid (∀ j, j < k + 1 → okR (l.getD j 0) = true) := fun h j hj => by
                rcases Nat.lt_or_ge j k with h1 | h1
                · exact hi.out j h1
                · rw [show j = k by omega]; exact h
              generalize l.getD k 0 = x at *
              clear HG HB HC hx0 hx9
              by_cases d0 : 65 ≤ x ∧ x ≤ 90
              · have e0 : 65 ≤ x := by omega
                have e1 : x ≤ 90 := by omega
                have hp := HK (by unfold okR; exact decide_eq_true (by omega))
                clear HK HBk hi d0
                go_wp2
                go_round
                case rel => exact ⟨k + 1, by omega, by go_num, hp⟩
                case measure => simp [intOf]; omega
              by_cases d1 : 97 ≤ x ∧ x ≤ 122
              · have e0 : 65 ≤ x := by omega
                have e1 : ¬ x ≤ 90 := by omega
                have e2 : 97 ≤ x := by omega
                have e3 : x ≤ 122 := by omega
                have hp := HK (by unfold okR; exact decide_eq_true (by omega))
                clear HK HBk hi d0 d1
                go_wp2
                go_round
                case rel => exact ⟨k + 1, by omega, by go_num, hp⟩
                case measure => simp [intOf]; omega
              by_cases d2 : 122 < x ∧ x < 192
              · have e0 : 65 ≤ x := by omega
                have e1 : ¬ x ≤ 90 := by omega
                have e2 : 97 ≤ x := by omega
                have e3 : ¬ x ≤ 122 := by omega
                have e4 : 48 ≤ x := by omega
                have e5 : ¬ x ≤ 57 := by omega
                have e6 : (x == 32) = false := by simp; omega
                have e7 : x < 192 := by omega
                have hp := HBk (by unfold okR; exact decide_eq_false (by omega))
                clear HK HBk hi d0 d1 d2
                go_wp2
                go_ret
                exact ⟨ret_bool hp.out.symm, hb1⟩
              by_cases d3 : 382 < x
              · have e0 : 65 ≤ x := by omega
                have e1 : ¬ x ≤ 90 := by omega
                have e2 : 97 ≤ x := by omega
                have e3 : ¬ x ≤ 122 := by omega
                have e4 : 48 ≤ x := by omega
                have e5 : ¬ x ≤ 57 := by omega
                have e6 : (x == 32) = false := by simp; omega
                have e7 : ¬ x < 192 := by omega
                have e8 : 382 < x := by omega
                have hp := HBk (by unfold okR; exact decide_eq_false (by omega))
                clear HK HBk hi d0 d1 d2 d3
                go_wp2
                go_ret
                exact ⟨ret_bool hp.out.symm, hb1⟩
              by_cases d4 : x = 215
              · have e0 : 65 ≤ x := by omega
                have e1 : ¬ x ≤ 90 := by omega
                have e2 : 97 ≤ x := by omega
                have e3 : ¬ x ≤ 122 := by omega
                have e4 : 48 ≤ x := by omega
                have e5 : ¬ x ≤ 57 := by omega
                have e6 : (x == 32) = false := by simp; omega
                have e7 : ¬ x < 192 := by omega
                have e8 : ¬ 382 < x := by omega
                have e9 : (x == 215) = true := by simp; omega
                have hp := HBk (by unfold okR; exact decide_eq_false (by omega))
                clear HK HBk hi d0 d1 d2 d3 d4
                go_wp2
                go_ret
                exact ⟨ret_bool hp.out.symm, hb1⟩
              by_cases d5 : x = 247
              · have e0 : 65 ≤ x := by omega
                have e1 : ¬ x ≤ 90 := by omega
                have e2 : 97 ≤ x := by omega
                have e3 : ¬ x ≤ 122 := by omega
                have e4 : 48 ≤ x := by omega
                have e5 : ¬ x ≤ 57 := by omega
                have e6 : (x == 32) = false := by simp; omega
                have e7 : ¬ x < 192 := by omega
                have e8 : ¬ 382 < x := by omega
                have e9 : (x == 215) = false := by simp; omega
                have e10 : (x == 247) = true := by simp; omega
                have hp := HBk (by unfold okR; exact decide_eq_false (by omega))
                clear HK HBk hi d0 d1 d2 d3 d4 d5
                go_wp2
                go_ret
                exact ⟨ret_bool hp.out.symm, hb1⟩
              by_cases d6 : 192 ≤ x
              · have e0 : 65 ≤ x := by omega
                have e1 : ¬ x ≤ 90 := by omega
                have e2 : 97 ≤ x := by omega
                have e3 : ¬ x ≤ 122 := by omega
                have e4 : 48 ≤ x := by omega
                have e5 : ¬ x ≤ 57 := by omega
                have e6 : (x == 32) = false := by simp; omega
                have e7 : ¬ x < 192 := by omega
                have e8 : ¬ 382 < x := by omega
                have e9 : (x == 215) = false := by simp; omega
                have e10 : (x == 247) = false := by simp; omega
                have hp := HK (by unfold okR; exact decide_eq_true (by omega))
                clear HK HBk hi d0 d1 d2 d3 d4 d5 d6
                go_wp2
                go_round
                case rel => exact ⟨k + 1, by omega, by go_num, hp⟩
                case measure => simp [intOf]; omega
              by_cases d7 : 90 < x
              · have e0 : 65 ≤ x := by omega
                have e1 : ¬ x ≤ 90 := by omega
                have e2 : ¬ 97 ≤ x := by omega
                have e3 : 48 ≤ x := by omega
                have e4 : ¬ x ≤ 57 := by omega
                have e5 : (x == 32) = false := by simp; omega
                have e6 : x < 192 := by omega
                have hp := HBk (by unfold okR; exact decide_eq_false (by omega))
                clear HK HBk hi d0 d1 d2 d3 d4 d5 d6 d7
                go_wp2
                go_ret
                exact ⟨ret_bool hp.out.symm, hb1⟩
              by_cases d8 : 48 ≤ x ∧ x ≤ 57
              · have e0 : ¬ 65 ≤ x := by omega
                have e1 : ¬ 97 ≤ x := by omega
                have e2 : 48 ≤ x := by omega
                have e3 : x ≤ 57 := by omega
                have hp := HK (by unfold okR; exact decide_eq_true (by omega))
                clear HK HBk hi d0 d1 d2 d3 d4 d5 d6 d7 d8
                go_wp2
                go_round
                case rel => exact ⟨k + 1, by omega, by go_num, hp⟩
                case measure => simp [intOf]; omega
              by_cases d9 : 48 ≤ x
              · have e0 : ¬ 65 ≤ x := by omega
                have e1 : ¬ 97 ≤ x := by omega
                have e2 : 48 ≤ x := by omega
                have e3 : ¬ x ≤ 57 := by omega
                have e4 : (x == 32) = false := by simp; omega
                have e5 : x < 192 := by omega
                have hp := HBk (by unfold okR; exact decide_eq_false (by omega))
                clear HK HBk hi d0 d1 d2 d3 d4 d5 d6 d7 d8 d9
                go_wp2
                go_ret
                exact ⟨ret_bool hp.out.symm, hb1⟩
              by_cases d10 : x = 32
              · have e0 : ¬ 65 ≤ x := by omega
                have e1 : ¬ 97 ≤ x := by omega
                have e2 : ¬ 48 ≤ x := by omega
                have e3 : (x == 32) = true := by simp; omega
                have hp := HK (by unfold okR; exact decide_eq_true (by omega))
                clear HK HBk hi d0 d1 d2 d3 d4 d5 d6 d7 d8 d9 d10
                go_wp2
                go_round
                case rel => exact ⟨k + 1, by omega, by go_num, hp⟩
                case measure => simp [intOf]; omega
              have e0 : ¬ 65 ≤ x := by omega
              have e1 : ¬ 97 ≤ x := by omega
              have e2 : ¬ 48 ≤ x := by omega
              have e3 : (x == 32) = false := by simp; omega
              have e4 : x < 192 := by omega
              have hp := HBk (by unfold okR; exact decide_eq_false (by omega))
              clear HK HBk hi d0 d1 d2 d3 d4 d5 d6 d7 d8 d9 d10
              go_wp2
              go_ret
              exact ⟨ret_bool hp.out.symm, hb1⟩
            · have hp := HG (fun j hj => hi.out j (by omega))
              clear HG HB HC hi hx0 hx9
              go_wp2
              go_ret
              exact ⟨ret_bool hp.out.symm, hb1⟩

end Go.Proofs.YtenpkhalgkodbaaDoor

/- Plain: both sides hold the same texts for names. -/
namespace Go.Proofs.YtenpkhalgkodbaaDoor
open Go.RowKit Go.Lib
set_option maxRecDepth 100000
set_option linter.unusedVariables false

set_option maxHeartbeats 4000000 in
theorem dec_32 (n b0 b1 b2 b3 : Nat) (hn : 1 ≤ n) (h0 : b0 < 256) : (decodeN n b0 b1 b2 b3).1 = 32 ↔ b0 = 32 := by
  unfold decodeN
  repeat' split
  all_goals (first | (simp; done) | (simp; omega) | (dsimp only; omega))

set_option maxHeartbeats 4000000 in
theorem dec_more (n b0 b1 b2 b3 : Nat) (hn : 1 ≤ n) : ((decodeN n b0 b1 b2 b3).2 = 1) ∨ ((decodeN n b0 b1 b2 b3).2 = 2 ∧ 128 ≤ b1 ∧ 128 ≤ b0) ∨ ((decodeN n b0 b1 b2 b3).2 = 3 ∧ 128 ≤ b2 ∧ 128 ≤ b0) ∨ ((decodeN n b0 b1 b2 b3).2 = 4 ∧ 128 ≤ b3 ∧ 128 ≤ b0) := by
  unfold decodeN
  repeat' split
  all_goals (first | (simp; done) | (simp; omega) | (dsimp only; omega))

theorem bt_get2 (s : ByteArray) {k : Nat} (h : k < s.size) : bt s k = (s.get! k).toNat := by
  rw [← byte_get s k h]; exact (bt_get h).symm

theorem first_32 (s : ByteArray) (h : 0 < s.size) : (runesOf s).getD 0 0 = 32 ↔ bt s 0 = 32 := by
  unfold runesOf
  obtain ⟨m, hm⟩ : ∃ m, s.size = m + 1 := ⟨s.size - 1, by omega⟩
  rw [hm]
  unfold rns
  rw [if_pos h]
  show (Utf8.decode s 0).1 = 32 ↔ _
  rw [decode_at, dec_32 _ _ _ _ _ (by omega) (by have := (s.get! 0).toNat_lt; omega), bt_get2 s h]

theorem last_32 (s : ByteArray) : ∀ f pos, pos < s.size → s.size - pos ≤ f → ((rns s f pos).getD ((rns s f pos).length - 1) 0 = 32 ↔ bt s (s.size - 1) = 32) ∧ 1 ≤ (rns s f pos).length
  | 0, pos, h, hf => by omega
  | f + 1, pos, h, hf => by
    obtain ⟨w1, w2⟩ := decode_width s pos h
    have hd := decode_at s pos
    have hmore := dec_more (s.size - pos) (s.get! pos).toNat (s.get! (pos + 1)).toNat (s.get! (pos + 2)).toNat (s.get! (pos + 3)).toNat (by omega)
    have h32 := dec_32 (s.size - pos) (s.get! pos).toNat (s.get! (pos + 1)).toNat (s.get! (pos + 2)).toNat (s.get! (pos + 3)).toNat (by omega) (by have := (s.get! pos).toNat_lt; omega)
    rw [← hd] at hmore h32
    unfold rns
    rw [if_pos h]
    rcases Nat.lt_or_ge (pos + (Utf8.decode s pos).2) s.size with h9 | h9
    · obtain ⟨ih, ih2⟩ := last_32 s f (pos + (Utf8.decode s pos).2) h9 (by omega)
      refine ⟨?_, by simp⟩
      rw [← ih, List.length_cons, Nat.add_sub_cancel]
      obtain ⟨q, hq⟩ : ∃ q, (rns s f (pos + (Utf8.decode s pos).2)).length = q + 1 := ⟨_, (Nat.sub_add_cancel ih2).symm⟩
      rw [hq, List.getD_cons_succ, Nat.add_sub_cancel]
    · have he : rns s f (pos + (Utf8.decode s pos).2) = [] := by
        cases f with
        | zero => rfl
        | succ f => unfold rns; rw [if_neg (by omega)]
      rw [he]
      refine ⟨?_, by simp⟩
      show (Utf8.decode s pos).1 = 32 ↔ _
      rw [h32]
      have hlast : ∀ j, pos + j = s.size - 1 → bt s (s.size - 1) = (s.get! (pos + j)).toNat := fun j hj => by rw [← hj]; exact bt_get2 s (by omega)
      rcases hmore with h1 | ⟨h1, h2, h3⟩ | ⟨h1, h2, h3⟩ | ⟨h1, h2, h3⟩
      · rw [hlast 0 (by omega)]; exact Iff.rfl
      · rw [hlast 1 (by omega)]; omega
      · rw [hlast 2 (by omega)]; omega
      · rw [hlast 3 (by omega)]; omega

theorem ofn_okR (r : Nat) : okR (r : Int) = ofn r := by
  unfold okR ofn
  rw [decide_eq_decide]
  omega

theorem all_names (s : ByteArray) : (arunes s).all okR = (runesOf s).all ofn := by
  have hl := arunes_length s
  rw [Bool.eq_iff_iff, List.all_eq_true, List.all_eq_true]
  constructor
  · intro h r hr
    obtain ⟨j, hj, e⟩ := List.getElem_of_mem hr
    have h1 : (runesOf s).getD j 0 = r := by rw [List.getD, List.getElem?_eq_getElem hj, Option.getD_some, e]
    have hj2 : j < (arunes s).length := by omega
    have h2 : (arunes s).getD j 0 ∈ arunes s := by rw [List.getD, List.getElem?_eq_getElem hj2, Option.getD_some]; exact List.getElem_mem _
    have h3 := h _ h2
    rcases arunes_at s j hj with h4 | ⟨h4, _⟩
    · rw [h4, h1, ofn_okR] at h3; exact h3
    · rw [h4] at h3; cases h3
  · intro h r hr
    obtain ⟨j, hj, e⟩ := List.getElem_of_mem hr
    have h1 : (arunes s).getD j 0 = r := by rw [List.getD, List.getElem?_eq_getElem hj, Option.getD_some, e]
    have hj2 : j < (runesOf s).length := by omega
    have h2 : (runesOf s).getD j 0 ∈ runesOf s := by rw [List.getD, List.getElem?_eq_getElem hj2, Option.getD_some]; exact List.getElem_mem _
    have h3 := h _ h2
    rcases arunes_at s j hj2 with h4 | ⟨_, h4⟩
    · rw [← h1, h4, ofn_okR]; exact h3
    · rw [h4] at h3; exact absurd h3 (by decide)

/-- A rune that is no blank. -/
theorem at_32 (s : ByteArray) (j : Nat) (h : j < (runesOf s).length) : (arunes s).getD j 0 = 32 ↔ (runesOf s).getD j 0 = 32 := by
  rcases arunes_at s j h with h4 | ⟨h4, h5⟩
  · rw [h4]; omega
  · rw [h4, h5]; constructor <;> (intro h; omega)

theorem nm_isN (s : ByteArray) : isN (arunes s) = nm s := by
  unfold isN nm
  rw [all_names, arunes_length, Bool.and_comm]
  congr 1
  rw [decide_eq_decide]
  constructor
  · rintro ⟨h1, h2, h3, h4⟩
    have hs : 0 < s.size := Nat.lt_of_lt_of_le h1 (runesOf_length s)
    refine ⟨h1, h2, ?_, ?_⟩
    · exact fun h => h3 ((at_32 s 0 (by omega)).2 ((first_32 s hs).2 h))
    · exact fun h => h4 ((at_32 s _ (by omega)).2 ((last_32 s s.size 0 hs (by omega)).1.2 h))
  · rintro ⟨h1, h2, h3, h4⟩
    have hs : 0 < s.size := Nat.lt_of_lt_of_le h1 (runesOf_length s)
    refine ⟨h1, h2, ?_, ?_⟩
    · rw [Ne, at_32 s 0 (by omega), first_32 s hs]
      exact h3
    · rw [Ne, at_32 s _ (by omega)]
      exact fun h => h4 ((last_32 s s.size 0 hs (by omega)).1.1 h)

end Go.Proofs.YtenpkhalgkodbaaDoor

/- Contracts of the answer's functions: Rank, At. -/
namespace Go.Proofs.YtenpkhalgkodbaaDoor
open Go.RowKit
set_option maxRecDepth 20000

theorem cnt_append (x : Int) (l m : List Int) : cnt x (l ++ m) = cnt x l + cnt x m := by
  unfold cnt; rw [List.filter_append, List.length_append]

theorem cnt_rnd {n m : Nat} (h : m ≤ n) : cnt (m : Int) (rnd n) = m := by
  induction n with
  | zero => have : m = 0 := by omega
            subst this; rfl
  | succ n ih =>
    rw [rnd_snoc, cnt_append]
    by_cases e : m ≤ n
    · rw [ih e, show cnt (m : Int) [(n : Int)] = 0 from by unfold cnt; rw [List.filter_eq_nil_iff.2 (fun y hy => by have := List.mem_singleton.1 hy; subst this; simp; omega)]; rfl]; rfl
    · have e2 : m = n + 1 := by omega
      subst e2
      have h1 : cnt ((n + 1 : Nat) : Int) (rnd n) = n := by
        unfold cnt
        rw [List.filter_eq_self.2 (fun y hy => by
          obtain ⟨i, hi, rfl⟩ := List.mem_map.1 hy
          have := List.mem_range.1 hi
          simp; omega), rnd_length]
      have h2 : cnt ((n + 1 : Nat) : Int) [(n : Int)] = 1 := by
        unfold cnt
        rw [List.filter_eq_self.2 (fun y hy => by have := List.mem_singleton.1 hy; subst this; simp; omega)]; rfl
      rw [h1, h2]

theorem row_perm_rnd {a : List Int} (h : isRow a) : a.Perm (rnd a.length) :=
  perm_of_sub a (rnd a.length) h.2 (fun x hx => by have := h.1 x hx; exact List.mem_map.2 ⟨x.toNat, List.mem_range.2 (by omega), by omega⟩) (rnd_length _).symm

/-- Of a row: the lower ones ahead of a place, and behind it. -/
theorem cnt_split {a : List Int} (h : isRow a) {i m : Nat} (hi : i < a.length) (hm : a[i]?.getD 0 = (m : Int)) : cnt (m : Int) (a.take i) + cnt (m : Int) (a.drop (i + 1)) = m := by
  have hml : m < a.length := by
    have := h.at hi
    rw [show a.getD i 0 = (m : Int) from hm] at this
    omega
  have h1 : cnt (m : Int) a = m := by rw [cnt_perm (row_perm_rnd h), cnt_rnd (by omega)]
  have e : a = a.take i ++ ((m : Int) :: a.drop (i + 1)) := by
    have e2 : a[i] = (m : Int) := by rw [← hm]; simp [List.getElem?_eq_getElem hi]
    rw [← e2, ← List.drop_eq_getElem_cons hi, List.take_append_drop]
  rw [e, cnt_append] at h1
  have h2 : cnt (m : Int) ((m : Int) :: a.drop (i + 1)) = cnt (m : Int) (a.drop (i + 1)) := by
    unfold cnt; rw [List.filter_cons_of_neg (by simp)]
  rw [h2] at h1
  exact h1

theorem rankR_drop {a : List Int} {i m : Nat} (hi : i < a.length) (hm : a[i]?.getD 0 = (m : Int)) : rankR (a.drop i) = cnt (m : Int) (a.drop (i + 1)) * fct (a.length - 1 - i) + rankR (a.drop (i + 1)) := by
  have e2 : a[i] = (m : Int) := by rw [← hm]; simp [List.getElem?_eq_getElem hi]
  rw [List.drop_eq_getElem_cons hi, e2]
  show cnt (m : Int) (a.drop (i + 1)) * fct (a.drop (i + 1)).length + rankR (a.drop (i + 1)) = _
  rw [List.length_drop, show a.length - (i + 1) = a.length - 1 - i from by omega]

theorem rankR_le (a : List Int) (h : a.length ≤ 12) : rankR a ≤ 479001600 := by
  rw [← rkTo_all]; exact rkTo_le a a.length (Nat.le_refl _) h

/-- 'append' to a row of the call's own, as one step of a region that draws. -/
theorem step_append_own {P : Program} {ops : Array Oper} {o : Oper} {a : Act} {w : World} {K : Act → World → Prop} {Q : Exit → Act → World → Prop} {E : Prop} (hg : o.guard = none) (s x : Operand) (t : TypeId)
    (ho : o.op = .call { callee := .builtin .append, args := #[s, x], argTypes := #[t, t] })
    (base : Nat) (e : TypeId) (i : TypeInfo) (z : Value) (size bytes : Nat) (ht : P.underlying t = some (.slice e)) (hi : P.info? e = some i) (hz : i.zero = some z)
    (hsize : i.size = size) (hby : i.bytes = bytes) (hzs : z.cells.size = size) (hsz : 0 < size)
    (v : Value) (n : Nat) (xs : List Value) (hs : a.eval s = v) (hown : w.ownsRow base e size v n xs)
    (ad : Addr) (m c : Nat) (news : List Value) (hx : a.eval x = .slice (some ad) m c) (hl : news.length = m * size) (hnews : ∀ j u, news[j]? = some u → w.cell? (ad.add j) = some u) (h1 : ∀ u ∈ news, u.oneCell' = true)
    (h63 : n + m ≤ maxLen) (hbytes : (n + m) * bytes ≤ 140737488355328) (hbase : base ≤ w.heap.size)
    (h : ∀ v' w', w'.ownsRow base e size v' (n + m) (xs ++ news) → w.grownBy w' v.ownBlock → K (a.put o.dst v') w') :
    if Region.wanted o (yielded ops a.tmps) = true then Oper.wp P o a w K Q else E := by
  have hw : Region.wanted o (yielded ops a.tmps) = true := by simp [Region.wanted, hg]
  rw [if_pos hw]
  exact wp_append_own w s x t ho base e i z size bytes ht hi hz hsize hby hzs hsz v n xs hs hown ad m c news hx hl hnews h1 h63 hbytes hbase (fun v' w' h2 h3 _ => h v' w' h2 h3)

theorem own_at {w : World} {base e g n cap : Nat} {xs : List Value} (h : w.ownsRow base e 1 (.slice (some ⟨g, 0, none⟩) n cap) n xs) (w4 : World) (hw : w4.heap[g]? = w.heap[g]?) {j : Nat} {u : Value} (hu : xs[j]? = some u) : w4.cell? ⟨g, j, none⟩ = some u := by
  have h1 := h.cells (g := g) rfl j u hu
  rw [Addr.add_lit, Nat.zero_add] at h1
  rw [World.cell?_of_block (w := w) (a := ⟨g, j, none⟩) hw]
  exact h1

theorem own_ne {u v : Option Nat} {B : Nat} (hu : ∀ k, u = some k → k < B) (hv : ∀ k, v = some k → B ≤ k) : u = none ∨ u ≠ v := by
  cases u with
  | none => exact Or.inl rfl
  | some k =>
    refine Or.inr (fun e => ?_)
    have h1 := hu k rfl
    have h2 := hv k e.symm
    omega

theorem first_at {w : World} {base g n cap q : Nat} {L : List Int} (h : w.ownsRow base 3 1 (.slice (some ⟨g, 0, none⟩) n cap) n (L.map (Value.int .i64))) (w4 : World) (hw : w4.heap[g]? = w.heap[g]?) :
    ∀ j u, ((L.take q).map (Value.int .i64))[j]? = some u → w4.cell? ((⟨g, 0, none⟩ : Addr).add j) = some u := by
  intro j u hu
  rw [Addr.add_lit, Nat.zero_add]
  refine own_at h w4 hw ?_
  rw [List.map_take, List.getElem?_take] at hu
  split at hu
  · exact hu
  · cases hu

theorem rest_at {w : World} {base g n cap q : Nat} {L : List Int} (h : w.ownsRow base 3 1 (.slice (some ⟨g, 0, none⟩) n cap) n (L.map (Value.int .i64))) (hl : L.length = n) (hc : n ≤ cap) :
    ∃ A : Addr, (if cap = q + 1 then some (⟨g, 0, none⟩ : Addr) else some ⟨g, q + 1, none⟩) = some A ∧ Hid (∀ j u, ((L.drop (q + 1)).map (Value.int .i64))[j]? = some u → ∀ w4 : World, w4.heap[g]? = w.heap[g]? → w4.cell? (A.add j) = some u) := by
  by_cases e : cap = q + 1
  · refine ⟨⟨g, 0, none⟩, by simp [e], fun j u hu w4 _ => ?_⟩
    rw [List.drop_eq_nil_of_le (by omega)] at hu
    simp at hu
  · refine ⟨⟨g, q + 1, none⟩, by simp [e], fun j u hu w4 hw => ?_⟩
    rw [Addr.add_lit]
    refine own_at h w4 hw ?_
    rw [List.map_drop, List.getElem?_drop] at hu
    exact hu

end Go.Proofs.YtenpkhalgkodbaaDoor

/- Contracts of the answer's functions: SameAll, Cycles. -/
namespace Go.Proofs.YtenpkhalgkodbaaDoor
open Go.RowKit
set_option maxRecDepth 20000

/-- The slice value v holds these values. -/
def Vals (w : World) (v : Value) (vs : List Value) : Prop :=
  (vs = [] ∧ ∃ p c, v = .slice p 0 c) ∨
  ∃ b off cap, v = .slice (some ⟨b, off, none⟩) vs.length cap ∧ 0 < vs.length ∧ vs.length ≤ cap ∧ cap ≤ 9223372036854775807 ∧ b < w.heap.size ∧
    ∀ j, j < vs.length → w.cell? ⟨b, off + j, none⟩ = some (vs.getD j undef)

/-- The slice value v reads as a list of lists. -/
def IntsAll (w : World) (v : Value) (xss : List (List Int)) : Prop :=
  ∃ vs, Vals w v vs ∧ vs.length = xss.length ∧ ∀ j, j < xss.length → Ints w (vs.getD j undef) (xss.getD j [])

theorem Vals.below {w w' : World} {v : Value} {vs : List Value} (h : Vals w v vs) (hb : Below w.heap.size w w') : Vals w' v vs := by
  rcases h with h | ⟨b, off, cap, h1, h2, h3, h4, h5, h6⟩
  · exact Or.inl h
  · refine Or.inr ⟨b, off, cap, h1, h2, h3, h4, Nat.lt_of_lt_of_le h5 hb.size, fun j hj => ?_⟩
    rw [hb.cell (p := ⟨b, off + j, none⟩) h5]
    exact h6 j hj

theorem IntsAll.below {w w' : World} {v : Value} {xss : List (List Int)} (h : IntsAll w v xss) (hb : Below w.heap.size w w') : IntsAll w' v xss := by
  obtain ⟨vs, h1, h2, h3⟩ := h
  exact ⟨vs, h1.below hb, h2, fun j hj => (h3 j hj).below hb⟩

theorem Vals.form {w : World} {v : Value} {vs : List Value} (h : Vals w v vs) : ∃ p cap, v = .slice p vs.length cap := by
  rcases h with ⟨rfl, p, c, rfl⟩ | ⟨b, off, cap, h1, _⟩
  · exact ⟨p, c, rfl⟩
  · exact ⟨_, cap, h1⟩

theorem Vals.own {w : World} {base e : Nat} {v : Value} {vs : List Value} (h : w.ownsRow base e 1 v vs.length vs) : Vals w v vs := by
  rcases h.2 with ⟨rfl, h0⟩ | ⟨g, cap, cur, hv, _, hh, hn, hm, hs, ht⟩
  · exact Or.inl ⟨List.length_eq_zero_iff.1 h0, none, 0, rfl⟩
  · rcases Nat.eq_zero_or_pos vs.length with h0 | h0
    · exact Or.inl ⟨List.length_eq_zero_iff.1 h0, _, cap, by rw [hv, h0]⟩
    · refine Or.inr ⟨g, 0, cap, hv, h0, hn, by unfold maxLen at hm; omega, (Array.getElem?_eq_some_iff.1 hh).1, fun j hj => ?_⟩
      rw [Nat.zero_add]
      rw [hv] at h
      exact owns_val h hj

theorem IntsAll.own {w : World} {base e : Nat} {v : Value} {vs : List Value} {xss : List (List Int)} (h : w.ownsRow base e 1 v vs.length vs) (ha : OwnAll w base vs xss) : IntsAll w v xss :=
  ⟨vs, Vals.own h, OwnAll.length ha, fun j hj => Ints.own (ownAll_at ha (by rw [OwnAll.length ha]; exact hj))⟩

theorem takes_eq_snoc {xs ys : List (List Int)} {k : Nat} (h : xs.take k = ys.take k) (hx : k < xs.length) (hy : k < ys.length) (e : xs.getD k [] = ys.getD k []) : xs.take (k + 1) = ys.take (k + 1) := by
  rw [List.take_succ_eq_append_getElem hx, List.take_succ_eq_append_getElem hy, h]
  simp only [List.getD, List.getElem?_eq_getElem hx, List.getElem?_eq_getElem hy, Option.getD_some] at e
  rw [e]

theorem elAt {w : World} {b off k : Nat} {vs : List Value} (hcell : ∀ j, j < vs.length → w.cell? ⟨b, off + j, none⟩ = some (vs.getD j undef)) (h : k < vs.length) {X : List Int} (hi : Ints w (vs.getD k undef) X) :
    ∃ p c, w.cell? ⟨b, off + k, none⟩ = some (.slice p X.length c) ∧ Hid (Ints w (.slice p X.length c) X) := by
  obtain ⟨p, c, e⟩ := hi.form
  refine ⟨p, c, by rw [hcell k h, e], ?_⟩
  rw [← e]; exact hi

set_option maxRecDepth 20000 in
set_option maxHeartbeats 2000000 in
theorem sameAll_any (v1 v2 : Value) (xs ys : List (List Int)) (w : World) (h1 : IntsAll w v1 xs) (h2 : IntsAll w v2 ys) :
    Calls Tryd.prog 15 #[v1, v2] w fun e w' => e = .returned (.bool (decide (xs = ys))) ∧ Below w.heap.size w w' := by
  obtain ⟨vs, hv1, hl1, he1⟩ := h1
  obtain ⟨us, hv2, hl2, he2⟩ := h2
  by_cases hlen : xs.length = ys.length
  · have hvu : vs.length = us.length := by omega
    have hl : (((vs.length : Nat) : Int) != ((us.length : Nat) : Int)) = false := by rw [hvu]; simp
    rcases hv1 with ⟨rfl, p, c, rfl⟩ | ⟨b, off, cap, rfl, h0, hc, hm, hb, hcell⟩
    · obtain rfl : xs = [] := List.length_eq_zero_iff.1 (by simpa using hl1.symm)
      obtain rfl : ys = [] := List.length_eq_zero_iff.1 (by simpa using hlen.symm)
      obtain rfl : us = [] := List.length_eq_zero_iff.1 (by simpa using hl2)
      obtain ⟨p2, c2, rfl⟩ := hv2.form
      clear hv2 he1 he2 hl1 hl2 hlen hvu hl
      go_enter Tryd.func15, Tryd.ntmps15
      go_wp2
      go_loop [5] (fun i => i = .int .i64 0) (fun _ => 0)
      case atStart => rfl
      case round =>
        subst hrel
        go_wp2
        go_ret
        exact ⟨rfl, Below.refl _ _⟩
    · rcases hv2 with ⟨rfl, p, c, rfl⟩ | ⟨b2, off2, cap2, rfl, h02, hc2, hm2, hb2, hcell2⟩
      · simp at hvu; subst hvu; simp at h0
      · have HX := hide hl1
        have HY := hide hl2
        have HL := hide hlen
        have HVU := hide hvu
        have HE1 := hide he1
        have HE2 := hide he2
        have HC1 := hide hcell
        have HC2 := hide hcell2
        clear hlen hl1 hl2 he1 he2 hcell hcell2 hvu
        go_enter Tryd.func15, Tryd.ntmps15
        go_wp2
        go_loopw [5] (fun i wr => ∃ k : Nat, k ≤ vs.length ∧ i = .int .i64 k ∧ Hid (xs.take k = ys.take k) ∧ Below w.heap.size w wr) (fun i _ => vs.length - (intOf i).toNat)
        case atStart => exact ⟨0, by omega, rfl, by simp [Hid], Below.refl _ _⟩
        case round =>
          obtain ⟨k, hk, rfl, ht, hbw⟩ := hrel
          by_cases hlt : k < vs.length
          · have hlt2 : k < us.length := by have := HVU.out; omega
            obtain ⟨p1, c1, hcx, hix⟩ := elAt HC1.out hlt (HE1.out k (by have := HX.out; omega))
            obtain ⟨p2, c2, hcy, hiy⟩ := elAt HC2.out hlt2 (HE2.out k (by have := HY.out; omega))
            have gx : wr.cell? ⟨b, off + k, none⟩ = some (.slice p1 (xs.getD k []).length c1) := (hbw.cell (by exact hb)).trans hcx
            have gy : wr.cell? ⟨b2, off2 + k, none⟩ = some (.slice p2 (ys.getD k []).length c2) := (hbw.cell (by exact hb2)).trans hcy
            have HS := hide (same_any _ _ _ _ wr.drew (hix.out.below hbw.drew) (hiy.out.below hbw.drew))
            have hkx : k < xs.length := by have := HX.out; omega
            have hky : k < ys.length := by have := HY.out; omega
            have HT := hide (takes_eq_snoc ht.out hkx hky)
            have HN : Hid (xs.getD k [] ≠ ys.getD k [] → decide (xs = ys) = false) := fun hne => by
              rw [decide_eq_false_iff_not]; intro e; exact hne (by rw [e])
            generalize xs.getD k [] = X at *
            generalize ys.getD k [] = Y at *
            generalize X.length = lx at *
            generalize Y.length = ly at *
            clear hcx hcy hix hiy
            by_cases hxy : X = Y
            · rw [decide_eq_true hxy] at HS
              have HT' := hide (HT.out hxy)
              clear hxy HT HN
              go_wp2
              go_region_with (go_at_call 22; refine HS.out.mono ?_; rintro e w1 ⟨rfl, hb1⟩)
              all_goals
                have hB1 : Below w.heap.size w w1 := hbw.drew.trans (hb1.mono hbw.size)
                clear hb1
                go_wp2
                go_roundw
                case rel =>
                  have hfin : ∃ k' : Nat, k' ≤ vs.length ∧ Value.int .i64 ((k : Int) + 1) = .int .i64 (k' : Int) ∧ Hid (xs.take k' = ys.take k') ∧ Below w.heap.size w w1 := ⟨k + 1, by omega, by go_num, HT', hB1⟩
                  first
                    | exact hfin
                    | ((repeat apply Exists.intro); exact ⟨hfin, rfl⟩)
                case measure => simp [intOf]; omega
            · rw [decide_eq_false hxy] at HS
              have HN' := hide (HN.out hxy)
              clear hxy HT HN
              go_wp2
              go_region_with (go_at_call 22; refine HS.out.mono ?_; rintro e w1 ⟨rfl, hb1⟩)
              all_goals
                have hB1 : Below w.heap.size w w1 := hbw.drew.trans (hb1.mono hbw.size)
                clear hb1
                go_wp2
                go_ret
                exact ⟨ret_bool HN'.out.symm, hB1⟩
          · go_wp2
            go_ret
            refine ⟨ret_bool ?_, hbw⟩
            symm
            rw [decide_eq_true_iff]
            have h3 := ht.out
            have h4 := HX.out
            have h5 := HY.out
            have h6 := HVU.out
            rwa [List.take_of_length_le (by omega), List.take_of_length_le (by omega)] at h3
  · obtain ⟨p1, c1, rfl⟩ := hv1.form
    obtain ⟨p2, c2, rfl⟩ := hv2.form
    have hl : (((vs.length : Nat) : Int) != ((us.length : Nat) : Int)) = true := by rw [bne_iff_ne]; omega
    have hd : decide (xs = ys) = false := by rw [decide_eq_false_iff_not]; intro e; exact hlen (by rw [e])
    have HD := hide hd
    clear hlen hv1 hv2 he1 he2 hl1 hl2 hd
    go_enter Tryd.func15, Tryd.ntmps15
    go_wp2
    go_ret
    exact ⟨ret_bool HD.out.symm, Below.refl _ _⟩

end Go.Proofs.YtenpkhalgkodbaaDoor

/- Contract of the answer's Cycles. -/
namespace Go.Proofs.YtenpkhalgkodbaaDoor
open Go.RowKit
set_option maxRecDepth 20000

/-- Is x the least of the first k bells of its cycle? -/
def lst (a : List Int) (x : Nat) : Nat → Bool
  | 0 => true
  | 1 => true
  | k + 2 => lst a x (k + 1) && decide (x < it a (k + 1) x)

theorem lst_succ {a : List Int} {x k : Nat} (h : 1 ≤ k) : lst a x (k + 1) = (lst a x k && decide (x < it a k x)) := by
  match k, h with
  | k + 1, _ => rfl

theorem lst_true {a : List Int} {x k : Nat} : lst a x k = true ↔ ∀ i, 1 ≤ i → i < k → x < it a i x := by
  induction k with
  | zero => exact ⟨fun _ i h1 h2 => by omega, fun _ => rfl⟩
  | succ k ih =>
    by_cases hk : 1 ≤ k
    · rw [lst_succ hk, Bool.and_eq_true, ih, decide_eq_true_iff]
      constructor
      · rintro ⟨h1, h2⟩ i hi hik
        by_cases e : i = k
        · subst e; exact h2
        · exact h1 i hi (by omega)
      · intro h
        exact ⟨fun i hi hik => h i hi (by omega), h k hk (by omega)⟩
    · have e : k = 0 := by omega
      subst e
      exact ⟨fun _ i h1 h2 => by omega, fun _ => rfl⟩

theorem flat_backs {r : List Int} (hr : isRow r) {k x : Nat} (hk : k ≤ r.length) (hx : x < r.length) (i : Nat) (h : ((it r i x : Nat) : Int) ∈ (cycsTo r k).flatten) : (x : Int) ∈ (cycsTo r k).flatten := by
  induction i with
  | zero => exact h
  | succ i ih => exact ih (flat_back hr hk (it_lt hr hx i) h)

theorem lst_flat {a : List Int} (hr : isRow a) {x : Nat} (hx : x < a.length) : lst a x (per a x) = true ↔ ¬ (x : Int) ∈ (cycsTo a x).flatten := by
  rw [lst_true]
  constructor
  · intro h hm
    obtain ⟨c, hc, hm⟩ := List.mem_flatten.1 hm
    obtain ⟨y, hy, rfl⟩ := cyc_form hc
    obtain ⟨i, hi, e⟩ := mem_orb.1 hm
    have e' : x = it a i y := by omega
    obtain ⟨_, _, p3, _⟩ := per_spec hr (show y < a.length by omega)
    obtain ⟨q1, _, q3, _⟩ := per_spec hr hx
    have hj : it a (per a y - i) x = y := by rw [e', ← it_add, show per a y - i + i = per a y from by omega, p3]
    -- y is one of the bells of x's own cycle
    have hmod : ∀ n, it a n x = it a (n % per a x) x := by
      intro n
      have key : ∀ d, it a (per a x * d) x = x := by
        intro d
        induction d with
        | zero => rfl
        | succ d ih => rw [Nat.mul_succ, it_add, q3, ih]
      have : n = n % per a x + per a x * (n / per a x) := by rw [Nat.mod_add_div]
      rw [this, it_add, key, Nat.add_mul_mod_self_left, Nat.mod_mod]
    rw [hmod] at hj
    have hlt := Nat.mod_lt (per a y - i) q1
    by_cases h0 : (per a y - i) % per a x = 0
    · rw [h0] at hj
      have : x = y := hj
      omega
    · have := h _ (by omega) hlt
      omega
  · intro hn i h1 h2
    rcases Nat.lt_trichotomy x (it a i x) with h | h | h
    · exact h
    · exact absurd h.symm ((per_spec hr hx).2.2.2 i h1 h2)
    · exact absurd (flat_backs hr (by omega) hx i (flat_all hr x (by omega) (it a i x) h)) hn

theorem owns_len1 {w : World} {base e n : Nat} {v : Value} {xs : List Value} (h : w.ownsRow base e 1 v n xs) (hn : 1 ≤ n) : ∃ g cap, v = .slice (some ⟨g, 0, none⟩) n cap := by
  obtain ⟨g, cap, e, _⟩ := owns_form h hn
  exact ⟨g, cap, e⟩

end Go.Proofs.YtenpkhalgkodbaaDoor

/- Contract of the answer's Order; the least common multiple of the cycles is the order. -/
namespace Go.Proofs.YtenpkhalgkodbaaDoor
open Go.RowKit
set_option maxRecDepth 20000

theorem it_succ' (r : List Int) (n x : Nat) : it r (n + 1) x = it r n (nx r x) := it_add r n 1 x

/-- The row, taken n times. -/
def pw (r : List Int) (n : Nat) : List Int := (List.range r.length).map (fun i => ((it r n i : Nat) : Int))

theorem pw_length (r : List Int) (n : Nat) : (pw r n).length = r.length := by simp [pw]

theorem pw_get {r : List Int} {n i : Nat} (h : i < r.length) : (pw r n).getD i 0 = ((it r n i : Nat) : Int) := by simp [pw, List.getD, h]

theorem pw_one {r : List Int} (hr : isRow r) : pw r 1 = r := by
  refine ext_getD (pw_length r 1) (fun i hi => ?_)
  rw [pw_length] at hi
  rw [pw_get hi]
  have := hr.at hi
  show ((nx r i : Nat) : Int) = _
  unfold nx; omega

theorem pw_succ {r : List Int} (hr : isRow r) (n : Nat) : by_ (pw r n) r = pw r (n + 1) := by
  refine ext_getD (by rw [by_length, pw_length]) (fun i hi => ?_)
  rw [by_length] at hi
  rw [by_get hi, pw_get hi]
  show (pw r n).getD (nx r i) 0 = _
  rw [pw_get (nx_lt hr hi), it_succ']

theorem isRow_pw {r : List Int} (hr : isRow r) (n : Nat) : isRow (pw r n) := by
  constructor
  · intro y hy
    obtain ⟨i, hi, rfl⟩ := List.mem_map.1 hy
    have := it_lt hr (List.mem_range.1 hi) n
    rw [pw_length]; omega
  · rw [List.nodup_iff_pairwise_ne]
    unfold pw
    rw [List.pairwise_map]
    refine List.Pairwise.imp_of_mem ?_ (List.pairwise_lt_range (n := r.length))
    intro i j hi hj hij e
    have := it_inj hr (List.mem_range.1 hi) (List.mem_range.1 hj) n (by omega)
    omega

theorem pw_rnd {r : List Int} {n : Nat} : pw r n = rnd r.length ↔ ∀ x, x < r.length → it r n x = x := by
  constructor
  · intro h x hx
    have h1 := pw_get (r := r) (n := n) hx
    rw [h, rnd_get hx] at h1
    omega
  · intro h
    exact eq_rnd (pw_length r n) (fun j hj => by rw [pw_get hj, h j hj])

theorem it_mul {r : List Int} {x p : Nat} (h : it r p x = x) (d : Nat) : it r (p * d) x = x := by
  induction d with
  | zero => rfl
  | succ d ih => rw [Nat.mul_succ, it_add, h, ih]

theorem per_dvd {r : List Int} (hr : isRow r) {x n : Nat} (hx : x < r.length) : it r n x = x ↔ per r x ∣ n := by
  obtain ⟨q1, _, q3, q4⟩ := per_spec hr hx
  constructor
  · intro h
    have e : n = n % per r x + per r x * (n / per r x) := by rw [Nat.mod_add_div]
    rw [e, it_add, it_mul q3] at h
    have hlt := Nat.mod_lt n q1
    by_cases h0 : n % per r x = 0
    · exact Nat.dvd_of_mod_eq_zero h0
    · exact absurd h (q4 _ (by omega) hlt)
  · rintro ⟨d, rfl⟩
    exact it_mul q3 d

theorem ordTo_dvd (xss : List (List Int)) (n j : Nat) (hj : j ≤ xss.length) : ordTo xss j ∣ n ↔ ∀ i, i < j → (xss.getD i []).length ∣ n := by
  induction j with
  | zero => exact ⟨fun _ i h => by omega, fun _ => Nat.one_dvd n⟩
  | succ j ih =>
    show Nat.lcm (ordTo xss j) (xss.getD j []).length ∣ n ↔ _
    rw [Nat.lcm_dvd_iff, ih (by omega)]
    constructor
    · rintro ⟨h1, h2⟩ i hi
      by_cases e : i = j
      · subst e; exact h2
      · exact h1 i (by omega)
    · intro h
      exact ⟨fun i hi => h i (by omega), h j (by omega)⟩

/-- How often the row must be taken, by its cycles. -/
def ord (r : List Int) : Nat := ordTo (cycsTo r r.length) (cycsTo r r.length).length

theorem ord_pw {r : List Int} (hr : isRow r) (n : Nat) : pw r n = rnd r.length ↔ ord r ∣ n := by
  rw [pw_rnd]
  unfold ord
  rw [ordTo_dvd _ _ _ (Nat.le_refl _)]
  constructor
  · intro h i hi
    have hc : (cycsTo r r.length).getD i [] ∈ cycsTo r r.length := by
      rw [show (cycsTo r r.length).getD i [] = (cycsTo r r.length)[i] from by simp [List.getD, List.getElem?_eq_getElem hi]]
      exact List.getElem_mem hi
    obtain ⟨y, hy, e⟩ := cyc_form hc
    rw [e, orb_length]
    exact (per_dvd hr hy).1 (h y hy)
  · intro h x hx
    obtain ⟨c, hc, hm⟩ := List.mem_flatten.1 (flat_all hr r.length (Nat.le_refl _) x hx)
    obtain ⟨i, hi, e⟩ := List.getElem_of_mem hc
    have hd := h i hi
    rw [show (cycsTo r r.length).getD i [] = c from by simp [List.getD, List.getElem?_eq_getElem hi, e]] at hd
    obtain ⟨y, hy, rfl⟩ := cyc_form hc
    rw [orb_length] at hd
    obtain ⟨j, _, e2⟩ := mem_orb.1 hm
    have e3 : x = it r j y := by omega
    rw [e3, ← it_add, Nat.add_comm, it_add, (per_dvd hr hy).2 hd]

theorem ord_pos {r : List Int} (hr : isRow r) (h12 : r.length ≤ 12) : 1 ≤ ord r ∧ ord r ≤ 1000000000000000 := by
  have hall := cycsTo_len hr r.length (Nat.le_refl _)
  have hbd := ordTo_bound (xss := cycsTo r r.length) (fun x hx => by have := hall x hx; omega) (cycsTo r r.length).length (Nat.le_refl _)
  have hl := cycsTo_length r r.length
  have hpw : 12 ^ (cycsTo r r.length).length ≤ 12 ^ 12 := Nat.pow_le_pow_right (by decide) (by omega)
  have h3 : 12 ^ 12 ≤ 1000000000000000 := by decide
  exact ⟨hbd.1, by unfold ord; omega⟩

theorem dis_row {r : List Int} (hr : isRow r) {i j : Nat} (hi : i < r.length) (hj : j < i) : dis (nx r) i j = if r.getD i 0 < r.getD j 0 then 1 else 0 := by
  have h1 := hr.at hi
  have h2 := hr.at (show j < r.length by omega)
  unfold dis
  rw [decide_eq_false (by omega : ¬ i < j)]
  unfold nx
  by_cases h : r.getD i 0 < r.getD j 0
  · rw [if_pos h, decide_eq_true (by omega)]; rfl
  · rw [if_neg h, decide_eq_false (by omega)]; rfl

theorem S_le {n : Nat} {f : Nat → Nat} {c : Nat} (h : ∀ i, i < n → f i ≤ c) : S n f ≤ n * c := by
  induction n with
  | zero => exact Nat.zero_le _
  | succ n ih =>
    have h1 := ih (fun i hi => h i (by omega))
    have h2 := h n (by omega)
    show S n f + f n ≤ (n + 1) * c
    rw [Nat.add_mul, Nat.one_mul]; omega

theorem dis_le (p : Nat → Nat) (i j : Nat) : dis p i j ≤ 1 := by unfold dis ne; split <;> omega

theorem ret_io {o : Int} {a b : Bool} (h : a = b) : Ending.returned (.tuple #[.int .i64 o, .bool a]) = Ending.returned (.tuple #[.int .i64 o, .bool b]) := by rw [h]

end Go.Proofs.YtenpkhalgkodbaaDoor
