/- Joined: AppK, RunB, SbC, MdA, MrA, MrB, MrC, BrA, MrD. -/
import Derived.Test.YtffnfchekbafmaaGreatDoorJ0
import Derived.Maps.AppendAt
import Derived.Test.YtffnfchekbafmaaGreatDoorJ4
import Derived.Test.YtffnfchekbafmaaGreatDoorJ1
import Derived.Test.YtffnfchekbafmaaGreatDoorJ2
import Derived.Test.YtffnfchekbafmaaGreatDoorJ3
import Derived.Lib.SplitLaws
import Derived.Lib.AtoiAll
/- append, and where the new slice lies. -/
namespace Go.Proofs.YtffnfchekbafmaaGreatDoor
open Go.RowKit

theorem run_append_keep {P : Program} (w : World) (base : Nat) (t ty e : TypeId) (i : TypeInfo) (z : Value) (size bytes : Nat) (ht : P.underlying t = some (.slice e)) (hi : P.info? e = some i) (hz : i.zero = some z)
    (hsize : i.size = size) (hby : i.bytes = bytes) (hzs : z.cells.size = size) (hsz : 0 < size)
    (v : Value) (n : Nat) (xs : List Value) (hown : w.ownsRow base e size v n xs)
    (a : Addr) (m c : Nat) (news : List Value) (hl : news.length = m * size) (hnews : ∀ j u, news[j]? = some u → w.cell? (a.add j) = some u) (h1 : ∀ u ∈ news, u.oneCell' = true)
    (h63 : n + m ≤ maxLen) (hbytes : (n + m) * bytes ≤ 140737488355328) (hbase : base ≤ w.heap.size) :
    ∃ v' w', (Builtin.append_ #[t, t] ty #[v, .slice (some a) m c]).run P w = .ok v' w' ∧ w'.ownsRow base e size v' (n + m) (xs ++ news) ∧ w.grownBy w' v.ownBlock ∧
      (v'.ownBlock = v.ownBlock ∨ (v'.ownBlock = some w.heap.size ∧ w.grownBy w' none)) := by
  obtain ⟨v', w', hr, h2, h3, _, h5⟩ := run_append_own_at (P := P) w base t ty e i z size bytes ht hi hz hsize hby hzs hsz v n xs hown a m c news hl hnews h1 h63 hbytes hbase
  refine ⟨v', w', hr, h2, h3, ?_⟩
  subst hsize
  subst hby
  rcases hown.2 with ⟨rfl, rfl⟩ | ⟨g, cap, cur, rfl, hbg, hg, hnc, hcm, hcs, htake⟩
  · exact h5.imp id (fun h => ⟨h, h3⟩)
  · by_cases hroom : n + m ≤ cap
    · have hfit : n * i.size + news.length ≤ cur.size := by rw [hl, hcs, ← Nat.add_mul]; exact Nat.mul_le_mul_right _ hroom
      have hr' := run_append_room (P := P) w t ty e i ht hi g n cap cur hg a m c news hl hnews h1 hroom hfit
      rw [hr] at hr'
      obtain ⟨e1, _⟩ := Result.ok.inj hr'
      left; rw [e1]; rfl
    · have holds : ∀ j u, xs[j]? = some u → w.cell? ((⟨g, 0, none⟩ : Addr).add j) = some u := hown.cells (g := g) rfl
      have hsmall : n + m ≤ 9223372036854775807 := by simp only [maxLen] at h63; omega
      have hr' := run_append_grow (P := P) w t ty e i z ht hi hz ⟨g, 0, none⟩ n cap xs hown.1 holds a m c news hl hnews (by omega) (by omega) (growslice_fits (by omega) hbytes)
      rw [hr] at hr'
      obtain ⟨e1, e2⟩ := Result.ok.inj hr'
      right
      rw [e1, e2]
      exact ⟨rfl, ⟨rfl, rfl, rfl, by simp, fun k hk _ => Below.heap_alloc w.drew _ k hk⟩⟩

theorem wpList_append_keep {P : Program} (w : World) {ops : Array Oper} {rest : List Oper} {o : Oper} {a : Act} {Q : Exit → Act → World → Prop} (hgd : o.guard = none) (s x : Operand) (t : TypeId)
    (ho : o.op = .call { callee := .builtin .append, args := #[s, x], argTypes := #[t, t] })
    (base : Nat) (e : TypeId) (i : TypeInfo) (z : Value) (size bytes : Nat) (ht : P.underlying t = some (.slice e)) (hi : P.info? e = some i) (hz : i.zero = some z)
    (hsize : i.size = size) (hby : i.bytes = bytes) (hzs : z.cells.size = size) (hsz : 0 < size)
    (v : Value) (n : Nat) (xs : List Value) (hs : a.eval s = v) (hown : w.ownsRow base e size v n xs)
    (ad : Addr) (m c : Nat) (news : List Value) (hx : a.eval x = .slice (some ad) m c) (hl : news.length = m * size) (hnews : ∀ j u, news[j]? = some u → w.cell? (ad.add j) = some u) (h1 : ∀ u ∈ news, u.oneCell' = true)
    (h63 : n + m ≤ maxLen) (hbytes : (n + m) * bytes ≤ 140737488355328) (hbase : base ≤ w.heap.size)
    (h : ∀ v' w', w'.ownsRow base e size v' (n + m) (xs ++ news) → w.grownBy w' v.ownBlock → (v'.ownBlock = v.ownBlock ∨ (v'.ownBlock = some w.heap.size ∧ w.grownBy w' none)) → wpList P ops Q rest (a.put o.dst v') w') :
    wpList P ops Q (o :: rest) a w := by
  refine wpList_plain hgd fun K hK => ?_
  obtain ⟨v', w', hr, h2, h3, h4⟩ := run_append_keep (P := P) w base t o.type e i z size bytes ht hi hz hsize hby hzs hsz v n xs hown ad m c news hl hnews h1 h63 hbytes hbase
  unfold Oper.wp execOp
  simp only [ho, resolve, invoke, builtin, Sem.run_bind, Sem.run_pure, Result.andThen_ok, List.map_toArray, List.map_cons, List.map_nil, hs, hx, hr]
  exact hK _ _ (h v' w' h2 h3 h4)

/-- .. as one step of a region that draws. -/
theorem step_append_keep {P : Program} {ops : Array Oper} {o : Oper} {a : Act} {w : World} {K : Act → World → Prop} {Q : Exit → Act → World → Prop} {E : Prop} (hg : o.guard = none) (s x : Operand) (t : TypeId)
    (ho : o.op = .call { callee := .builtin .append, args := #[s, x], argTypes := #[t, t] })
    (base : Nat) (e : TypeId) (i : TypeInfo) (z : Value) (size bytes : Nat) (ht : P.underlying t = some (.slice e)) (hi : P.info? e = some i) (hz : i.zero = some z)
    (hsize : i.size = size) (hby : i.bytes = bytes) (hzs : z.cells.size = size) (hsz : 0 < size)
    (v : Value) (n : Nat) (xs : List Value) (hs : a.eval s = v) (hown : w.ownsRow base e size v n xs)
    (ad : Addr) (m c : Nat) (news : List Value) (hx : a.eval x = .slice (some ad) m c) (hl : news.length = m * size) (hnews : ∀ j u, news[j]? = some u → w.cell? (ad.add j) = some u) (h1 : ∀ u ∈ news, u.oneCell' = true)
    (h63 : n + m ≤ maxLen) (hbytes : (n + m) * bytes ≤ 140737488355328) (hbase : base ≤ w.heap.size)
    (h : ∀ v' w', w'.ownsRow base e size v' (n + m) (xs ++ news) → w.grownBy w' v.ownBlock → (v'.ownBlock = v.ownBlock ∨ (v'.ownBlock = some w.heap.size ∧ w.grownBy w' none)) → K (a.put o.dst v') w') :
    if Region.wanted o (yielded ops a.tmps) = true then Oper.wp P o a w K Q else E := by
  have hw : Region.wanted o (yielded ops a.tmps) = true := by simp [Region.wanted, hg]
  rw [if_pos hw]
  obtain ⟨v', w', hr, h2, h3, h4⟩ := run_append_keep (P := P) w base t o.type e i z size bytes ht hi hz hsize hby hzs hsz v n xs hown ad m c news hl hnews h1 h63 hbytes hbase
  unfold Oper.wp execOp
  simp only [ho, resolve, invoke, builtin, Sem.run_bind, Sem.run_pure, Result.andThen_ok, List.map_toArray, List.map_cons, List.map_nil, hs, hx, hr]
  exact h v' w' h2 h3 h4

end Go.Proofs.YtffnfchekbafmaaGreatDoor

/- Contracts: the answer's runes, bell. -/
namespace Go.Proofs.YtffnfchekbafmaaGreatDoor
open Go.RowKit

/-- A string's length. -/
def strLen : Value → Nat
  | .string s => s.size
  | _ => 0

theorem whole_str (s : ByteArray) : s.extract 0 s.size = s := by
  apply ByteArray.ext
  simp only [ByteArray.data_extract]
  exact Array.extract_size

set_option maxRecDepth 20000 in
set_option maxHeartbeats 4000000 in
theorem runes_any (s : ByteArray) (w : World) (hs : s.size ≤ 1048576) :
    Calls Tryz.prog 53 #[.string s] w fun e w' => ∃ v, e = .returned v ∧ w'.ownsRow w.heap.size 3 1 v (arunes s).length ((arunes s).map (Value.int .i64)) ∧ Below w.heap.size w w' := by
  obtain ⟨i0, hi, hz0, hz1, hz2⟩ := info_parts Tryz.info3
  go_enter Tryz.func53, Tryz.ntmps53
  go_wp2
  go_loopw [0, 3] (fun t v wr => ∃ (pos : Nat) (pre : List Int), pos ≤ s.size ∧ Hid (t = .string (s.extract pos s.size)) ∧ Hid (ARunesTo s pre pos) ∧ wr.ownsRow w.heap.size 3 1 v pre.length (pre.map (Value.int .i64)) ∧ Below w.heap.size w wr) (fun t _ _ => strLen t)
  case atStart => exact ⟨0, [], by omega, by show _ = _; rw [whole_str], arunesTo_start s, World.ownsRow_nil _ _ _ _, Below.refl _ _⟩
  case round =>
    obtain ⟨pos, pre, hpos, ht, hA, hown, hbw⟩ := hrel
    have ht' := ht.out
    clear ht
    subst ht'
    have hbs := hbw.size
    have hpl := hA.out.len
    have hts : (s.extract pos s.size).size = s.size - pos := by simp
    have HP := hide (fun k => piece_piece s pos k)
    by_cases hlt : pos < s.size
    · have HDE := hide (decode_piece s pos)
      have hdw := decode_width s pos hlt
      have HN := hide (hA.out.next hlt)
      generalize hT : s.extract pos s.size = t at *
      have HR := hide (runeAt_any t wr (by omega) (by omega))
      rw [HDE.out] at HR
      unfold raV at HR
      generalize Utf8.decode s pos = d at *
      generalize ar d = c at *
      obtain ⟨d1, k⟩ := d
      simp only at hdw HN HR
      clear hA HDE hT
      go_wp2_with fail
      refine HR.out.mono ?_
      rintro e w1 ⟨rfl, rfl⟩
      go_wp2_with (at_builtin; refine wpList_append_own _ rfl _ _ 94 rfl w.heap.size 3 i0 (.int .i64 0) 1 8 Tryz.underlying94 hi hz0 hz1 hz2 rfl (by decide) _ _ _ rfl (hown.alloc _) ⟨wr.heap.size, 0, none⟩ 1 1 [.int .i64 c] rfl rfl ?c1 ?c2 ?c3 ?c4 ?c5 ?_)
      case c1 => exact cell_one_new _ _ _
      case c2 => intro u hu; simp at hu; subst hu; rfl
      case c3 => unfold maxLen; omega
      case c4 => omega
      case c5 => simp; omega
      · intro v' w1 hown' hgrow _
        have hBn := (hbw.alloc hbw.size (.cells #[.int .i64 c] 3)).grown hgrow (by simp; omega) (fun g hg => (hown.lt g hg).1)
        have HOW : Hid (w1.ownsRow w.heap.size 3 1 v' (pre ++ [c]).length ((pre ++ [c]).map (Value.int .i64))) := by
          show World.ownsRow _ _ _ _ _ _ _
          rw [List.length_append, List.map_append]; exact hown'
        have hk1 : k ≤ t.size := by omega
        have hk2 : (k : Int).toNat = k := by omega
        clear hown hown' hgrow
        go_wp2
        go_roundw
        case rel => exact ⟨pos + k, pre ++ [c], by omega, by show _ = _; rw [← HP.out k, hts], HN, HOW.out, hBn⟩
        case measure => simp [strLen]; omega
    · generalize s.extract pos s.size = t at *
      have HE : Hid (arunes s = pre) := hA.out.done hlt
      have ht0 : t.size = 0 := by omega
      clear hA
      go_wp2
      go_ret
      exact ⟨_, rfl, by rw [HE.out]; exact hown, hbw⟩

set_option maxRecDepth 100000 in
theorem si_bl : ∀ c : Fin 128, si c.val = if bl c.val.toUInt8 < 12 then ((bl c.val.toUInt8 : Nat) : Int) else -1 := by decide

theorem si_high {c : Nat} (h : 127 < c) : si c = -1 := by unfold si; rw [if_neg (by omega)]

/-- The bell of a rune, as the answer tells it. -/
def sa (c : Int) : Int := if 0 ≤ c then si c.toNat else -1

end Go.Proofs.YtffnfchekbafmaaGreatDoor

/- Contract: the answer's IsName. -/
namespace Go.Proofs.YtffnfchekbafmaaGreatDoor
open Go.RowKit
set_option maxRecDepth 20000
set_option linter.unusedVariables false

/-- A rune that may stand in a name. -/
def okR (c : Int) : Bool := decide ((65 ≤ c ∧ c ≤ 90) ∨ (97 ≤ c ∧ c ≤ 122) ∨ (48 ≤ c ∧ c ≤ 57) ∨ c = 32 ∨ (192 ≤ c ∧ c ≤ 382 ∧ c ≠ 215 ∧ c ≠ 247))

/-- A name, by its runes. -/
def isN (l : List Int) : Bool := decide (1 ≤ l.length ∧ l.length ≤ 20 ∧ l.getD 0 0 ≠ 32 ∧ l.getD (l.length - 1) 0 ≠ 32) && l.all okR

theorem isN_bad {l : List Int} {k : Nat} (hk : k < l.length) (h : okR (l.getD k 0) = false) : isN l = false := by
  unfold isN
  have : l.all okR = false := by
    rw [List.all_eq_false]
    refine ⟨l[k], List.getElem_mem hk, ?_⟩
    have e : l.getD k 0 = l[k] := by simp [List.getD, hk]
    rw [e] at h
    simp [h]
  rw [this, Bool.and_false]

theorem isN_good {l : List Int} (h1 : 1 ≤ l.length ∧ l.length ≤ 20 ∧ l.getD 0 0 ≠ 32 ∧ l.getD (l.length - 1) 0 ≠ 32) (h : ∀ k, k < l.length → okR (l.getD k 0) = true) : isN l = true := by
  unfold isN
  rw [decide_eq_true h1, Bool.true_and, List.all_eq_true]
  intro x hx
  obtain ⟨k, hk, rfl⟩ := List.getElem_of_mem hx
  have := h k hk
  have e : l.getD k 0 = l[k] := by simp [List.getD, hk]
  rw [e] at this
  exact this

theorem isN_form {l : List Int} (h1 : ¬ (1 ≤ l.length ∧ l.length ≤ 20 ∧ l.getD 0 0 ≠ 32 ∧ l.getD (l.length - 1) 0 ≠ 32)) : isN l = false := by
  unfold isN
  rw [decide_eq_false h1, Bool.false_and]

set_option maxHeartbeats 8000000 in
theorem isName_any (s : ByteArray) (w : World) (hs : s.size ≤ 1048576) :
    Calls Tryz.prog 37 #[.string s] w fun e w' => e = .returned (.bool (isN (arunes s))) ∧ Below w.heap.size w w' := by
  have HR := hide (runes_any s w hs)
  generalize arunes s = l at *
  by_cases hl0 : l.length = 0
  · have HN : Hid (isN l = false) := isN_form (by omega)
    rw [HN.out]
    go_enter Tryz.func37, Tryz.ntmps37
    go_wp2_with fail
    refine HR.out.mono ?_
    rintro e w1 ⟨v, rfl, hown, hb1⟩
    obtain ⟨p, c, rfl⟩ : ∃ p c, v = .slice p 0 c := by
      rw [hl0] at hown
      rcases hown.2 with ⟨e, _⟩ | ⟨g, c, cur, e, _⟩
      · exact ⟨_, _, e⟩
      · exact ⟨_, _, e⟩
    clear hown
    go_wp2
    go_ret
    exact ⟨rfl, hb1⟩
  · by_cases hl20 : 20 < l.length
    · have HN : Hid (isN l = false) := isN_form (by omega)
      rw [HN.out]
      obtain ⟨m, hm⟩ : ∃ m, Hid (l.length = m) := ⟨_, rfl⟩
      go_enter Tryz.func37, Tryz.ntmps37
      go_wp2_with fail
      refine HR.out.mono ?_
      rintro e w1 ⟨v, rfl, hown, hb1⟩
      obtain ⟨g, c, rfl, hg1, hg2, hc1, hc2⟩ := owns_form hown (by omega)
      clear hown
      have hm2 : 20 < m := by rw [← hm.out]; exact hl20
      rw [hm.out] at *
      have hm3 : m ≤ 9223372036854775807 := by omega
      go_wp2
      go_ret
      exact ⟨rfl, hb1⟩
    · obtain ⟨m, hm⟩ : ∃ m, Hid (l.length = m) := ⟨_, rfl⟩
      have hm1 : 1 ≤ m := by rw [← hm.out]; omega
      have hm2 : m ≤ 20 := by rw [← hm.out]; omega
      obtain ⟨km, hkm⟩ : ∃ km, m = km + 1 := ⟨m - 1, by omega⟩
      obtain ⟨x0, hx0⟩ : ∃ y, Hid (l.getD 0 0 = y) := ⟨_, rfl⟩
      obtain ⟨x9, hx9⟩ : ∃ y, Hid (l.getD (l.length - 1) 0 = y) := ⟨_, rfl⟩
      have HB := fun k (hk : k < m) (h : okR (l.getD k 0) = false) => hide (isN_bad (l := l) (k := k) (by rw [hm.out]; exact hk) h)
      have HF := fun (h1 : ¬ (x0 ≠ 32 ∧ x9 ≠ 32)) => hide (isN_form (l := l) (by rw [hx0.out, hx9.out]; exact fun e => h1 e.2.2))
      have HG := fun (h1 : x0 ≠ 32 ∧ x9 ≠ 32) (h : ∀ k, k < m → okR (l.getD k 0) = true) => hide (isN_good (l := l) ⟨by rw [hm.out]; exact hm1, by rw [hm.out]; exact hm2, by rw [hx0.out]; exact h1.1, by rw [hx9.out]; exact h1.2⟩ (by rw [hm.out]; exact h))
      generalize isN l = R at *
      go_enter Tryz.func37, Tryz.ntmps37
      go_wp2_with fail
      refine HR.out.mono ?_
      rintro e w1 ⟨v, rfl, hown, hb1⟩
      rw [hm.out] at hown
      obtain ⟨g, c, rfl, hg1, hg2, hc1, hc2⟩ := owns_form hown (by omega)
      have HC : Hid (∀ j, j < m → w1.cell? ⟨g, j, none⟩ = some (.int .i64 (l.getD j 0))) := fun j hj => (owns_cell hown hj).1
      have c0 : w1.cell? ⟨g, 0, none⟩ = some (.int .i64 x0) := by rw [HC.out 0 (by omega), hx0.out]
      have c9 : w1.cell? ⟨g, km, none⟩ = some (.int .i64 x9) := by rw [HC.out km (by omega), ← hx9.out, hm.out, hkm]; rfl
      clear hown HR
      by_cases h0 : x0 = 32
      · have HF := HF (fun e => e.1 h0)
        subst hkm
        go_wp2
        go_ret
        exact ⟨by rw [HF.out]; rfl, hb1⟩
      · by_cases h9 : x9 = 32
        · have HF := HF (fun e => e.2 h9)
          subst hkm
          go_wp2
          go_ret
          exact ⟨by rw [HF.out]; rfl, hb1⟩
        · have HG := HG ⟨h0, h9⟩
          clear HF
          have b0 : (x0 == 32) = false := by simpa using h0
          have b9 : (x9 == 32) = false := by simpa using h9
          subst hkm
          go_wp2
          go_loop [4] (fun i => ∃ k : Nat, k ≤ km + 1 ∧ i = .int .i64 k ∧ Hid (∀ j, j < k → okR (l.getD j 0) = true)) (fun i => km + 1 - (intOf i).toNat)
          case atStart => exact ⟨0, by omega, rfl, fun j hj => absurd hj (Nat.not_lt_zero j)⟩
          case round =>
            obtain ⟨k, hk, rfl, hi⟩ := hrel
            clear c0 c9 h0 h9 b0 b9
            by_cases hlt : k < km + 1
            · have hcx := HC.out k hlt
              have HBk := HB k hlt
              have HK : okR (l.getD k 0) = true → Hid (∀ j, j < k + 1 → okR (l.getD j 0) = true) := fun h j hj => by
                rcases Nat.lt_or_ge j k with h1 | h1
                · exact hi.out j h1
                · rw [show j = k by omega]; exact h
              generalize l.getD k 0 = x at *
              clear HG HB HC hx0 hx9
              by_cases d0 : 65 ≤ x ∧ x ≤ 90
              · have e0 : 65 ≤ x := by omega
                have e1 : x ≤ 90 := by omega
                have hp := HK (by unfold okR; exact decide_eq_true (by omega))
                clear HK HBk hi d0
                go_wp2
                go_round
                case rel => exact ⟨k + 1, by omega, by go_num, hp⟩
                case measure => simp [intOf]; omega
              by_cases d1 : 97 ≤ x ∧ x ≤ 122
              · have e0 : 65 ≤ x := by omega
                have e1 : ¬ x ≤ 90 := by omega
                have e2 : 97 ≤ x := by omega
                have e3 : x ≤ 122 := by omega
                have hp := HK (by unfold okR; exact decide_eq_true (by omega))
                clear HK HBk hi d0 d1
                go_wp2
                go_round
                case rel => exact ⟨k + 1, by omega, by go_num, hp⟩
                case measure => simp [intOf]; omega
              by_cases d2 : 122 < x ∧ x < 192
              · have e0 : 65 ≤ x := by omega
                have e1 : ¬ x ≤ 90 := by omega
                have e2 : 97 ≤ x := by omega
                have e3 : ¬ x ≤ 122 := by omega
                have e4 : 48 ≤ x := by omega
                have e5 : ¬ x ≤ 57 := by omega
                have e6 : (x == 32) = false := by simp; omega
                have e7 : x < 192 := by omega
                have hp := HBk (by unfold okR; exact decide_eq_false (by omega))
                clear HK HBk hi d0 d1 d2
                go_wp2
                go_ret
                exact ⟨ret_bool hp.out.symm, hb1⟩
              by_cases d3 : 382 < x
              · have e0 : 65 ≤ x := by omega
                have e1 : ¬ x ≤ 90 := by omega
                have e2 : 97 ≤ x := by omega
                have e3 : ¬ x ≤ 122 := by omega
                have e4 : 48 ≤ x := by omega
                have e5 : ¬ x ≤ 57 := by omega
                have e6 : (x == 32) = false := by simp; omega
                have e7 : ¬ x < 192 := by omega
                have e8 : 382 < x := by omega
                have hp := HBk (by unfold okR; exact decide_eq_false (by omega))
                clear HK HBk hi d0 d1 d2 d3
                go_wp2
                go_ret
                exact ⟨ret_bool hp.out.symm, hb1⟩
              by_cases d4 : x = 215
              · have e0 : 65 ≤ x := by omega
                have e1 : ¬ x ≤ 90 := by omega
                have e2 : 97 ≤ x := by omega
                have e3 : ¬ x ≤ 122 := by omega
                have e4 : 48 ≤ x := by omega
                have e5 : ¬ x ≤ 57 := by omega
                have e6 : (x == 32) = false := by simp; omega
                have e7 : ¬ x < 192 := by omega
                have e8 : ¬ 382 < x := by omega
                have e9 : (x == 215) = true := by simp; omega
                have hp := HBk (by unfold okR; exact decide_eq_false (by omega))
                clear HK HBk hi d0 d1 d2 d3 d4
                go_wp2
                go_ret
                exact ⟨ret_bool hp.out.symm, hb1⟩
              by_cases d5 : x = 247
              · have e0 : 65 ≤ x := by omega
                have e1 : ¬ x ≤ 90 := by omega
                have e2 : 97 ≤ x := by omega
                have e3 : ¬ x ≤ 122 := by omega
                have e4 : 48 ≤ x := by omega
                have e5 : ¬ x ≤ 57 := by omega
                have e6 : (x == 32) = false := by simp; omega
                have e7 : ¬ x < 192 := by omega
                have e8 : ¬ 382 < x := by omega
                have e9 : (x == 215) = false := by simp; omega
                have e10 : (x == 247) = true := by simp; omega
                have hp := HBk (by unfold okR; exact decide_eq_false (by omega))
                clear HK HBk hi d0 d1 d2 d3 d4 d5
                go_wp2
                go_ret
                exact ⟨ret_bool hp.out.symm, hb1⟩
              by_cases d6 : 192 ≤ x
              · have e0 : 65 ≤ x := by omega
                have e1 : ¬ x ≤ 90 := by omega
                have e2 : 97 ≤ x := by omega
                have e3 : ¬ x ≤ 122 := by omega
                have e4 : 48 ≤ x := by omega
                have e5 : ¬ x ≤ 57 := by omega
                have e6 : (x == 32) = false := by simp; omega
                have e7 : ¬ x < 192 := by omega
                have e8 : ¬ 382 < x := by omega
                have e9 : (x == 215) = false := by simp; omega
                have e10 : (x == 247) = false := by simp; omega
                have hp := HK (by unfold okR; exact decide_eq_true (by omega))
                clear HK HBk hi d0 d1 d2 d3 d4 d5 d6
                go_wp2
                go_round
                case rel => exact ⟨k + 1, by omega, by go_num, hp⟩
                case measure => simp [intOf]; omega
              by_cases d7 : 90 < x
              · have e0 : 65 ≤ x := by omega
                have e1 : ¬ x ≤ 90 := by omega
                have e2 : ¬ 97 ≤ x := by omega
                have e3 : 48 ≤ x := by omega
                have e4 : ¬ x ≤ 57 := by omega
                have e5 : (x == 32) = false := by simp; omega
                have e6 : x < 192 := by omega
                have hp := HBk (by unfold okR; exact decide_eq_false (by omega))
                clear HK HBk hi d0 d1 d2 d3 d4 d5 d6 d7
                go_wp2
                go_ret
                exact ⟨ret_bool hp.out.symm, hb1⟩
              by_cases d8 : 48 ≤ x ∧ x ≤ 57
              · have e0 : ¬ 65 ≤ x := by omega
                have e1 : ¬ 97 ≤ x := by omega
                have e2 : 48 ≤ x := by omega
                have e3 : x ≤ 57 := by omega
                have hp := HK (by unfold okR; exact decide_eq_true (by omega))
                clear HK HBk hi d0 d1 d2 d3 d4 d5 d6 d7 d8
                go_wp2
                go_round
                case rel => exact ⟨k + 1, by omega, by go_num, hp⟩
                case measure => simp [intOf]; omega
              by_cases d9 : 48 ≤ x
              · have e0 : ¬ 65 ≤ x := by omega
                have e1 : ¬ 97 ≤ x := by omega
                have e2 : 48 ≤ x := by omega
                have e3 : ¬ x ≤ 57 := by omega
                have e4 : (x == 32) = false := by simp; omega
                have e5 : x < 192 := by omega
                have hp := HBk (by unfold okR; exact decide_eq_false (by omega))
                clear HK HBk hi d0 d1 d2 d3 d4 d5 d6 d7 d8 d9
                go_wp2
                go_ret
                exact ⟨ret_bool hp.out.symm, hb1⟩
              by_cases d10 : x = 32
              · have e0 : ¬ 65 ≤ x := by omega
                have e1 : ¬ 97 ≤ x := by omega
                have e2 : ¬ 48 ≤ x := by omega
                have e3 : (x == 32) = true := by simp; omega
                have hp := HK (by unfold okR; exact decide_eq_true (by omega))
                clear HK HBk hi d0 d1 d2 d3 d4 d5 d6 d7 d8 d9 d10
                go_wp2
                go_round
                case rel => exact ⟨k + 1, by omega, by go_num, hp⟩
                case measure => simp [intOf]; omega
              have e0 : ¬ 65 ≤ x := by omega
              have e1 : ¬ 97 ≤ x := by omega
              have e2 : ¬ 48 ≤ x := by omega
              have e3 : (x == 32) = false := by simp; omega
              have e4 : x < 192 := by omega
              have hp := HBk (by unfold okR; exact decide_eq_false (by omega))
              clear HK HBk hi d0 d1 d2 d3 d4 d5 d6 d7 d8 d9 d10
              go_wp2
              go_ret
              exact ⟨ret_bool hp.out.symm, hb1⟩
            · have hp := HG (fun j hj => hi.out j (by omega))
              clear HG HB HC hi hx0 hx9
              go_wp2
              go_ret
              exact ⟨ret_bool hp.out.symm, hb1⟩

end Go.Proofs.YtffnfchekbafmaaGreatDoor

/- Plain: both sides hold the same texts for names. -/
namespace Go.Proofs.YtffnfchekbafmaaGreatDoor
open Go.RowKit Go.Lib
set_option maxRecDepth 100000
set_option linter.unusedVariables false

set_option maxHeartbeats 4000000 in
theorem dec_32 (n b0 b1 b2 b3 : Nat) (hn : 1 ≤ n) (h0 : b0 < 256) : (decodeN n b0 b1 b2 b3).1 = 32 ↔ b0 = 32 := by
  unfold decodeN
  repeat' split
  all_goals (first | (simp; done) | (simp; omega) | (dsimp only; omega))

set_option maxHeartbeats 4000000 in
theorem dec_more (n b0 b1 b2 b3 : Nat) (hn : 1 ≤ n) : ((decodeN n b0 b1 b2 b3).2 = 1) ∨ ((decodeN n b0 b1 b2 b3).2 = 2 ∧ 128 ≤ b1 ∧ 128 ≤ b0) ∨ ((decodeN n b0 b1 b2 b3).2 = 3 ∧ 128 ≤ b2 ∧ 128 ≤ b0) ∨ ((decodeN n b0 b1 b2 b3).2 = 4 ∧ 128 ≤ b3 ∧ 128 ≤ b0) := by
  unfold decodeN
  repeat' split
  all_goals (first | (simp; done) | (simp; omega) | (dsimp only; omega))

theorem first_32 (s : ByteArray) (h : 0 < s.size) : (runesOf s).getD 0 0 = 32 ↔ bt s 0 = 32 := by
  unfold runesOf
  obtain ⟨m, hm⟩ : ∃ m, s.size = m + 1 := ⟨s.size - 1, by omega⟩
  rw [hm]
  unfold rns
  rw [if_pos h]
  show (Utf8.decode s 0).1 = 32 ↔ _
  rw [decode_at, dec_32 _ _ _ _ _ (by omega) (by have := (s.get! 0).toNat_lt; omega), bt_get2 s h]

theorem last_32 (s : ByteArray) : ∀ f pos, pos < s.size → s.size - pos ≤ f → ((rns s f pos).getD ((rns s f pos).length - 1) 0 = 32 ↔ bt s (s.size - 1) = 32) ∧ 1 ≤ (rns s f pos).length
  | 0, pos, h, hf => by omega
  | f + 1, pos, h, hf => by
    obtain ⟨w1, w2⟩ := decode_width s pos h
    have hd := decode_at s pos
    have hmore := dec_more (s.size - pos) (s.get! pos).toNat (s.get! (pos + 1)).toNat (s.get! (pos + 2)).toNat (s.get! (pos + 3)).toNat (by omega)
    have h32 := dec_32 (s.size - pos) (s.get! pos).toNat (s.get! (pos + 1)).toNat (s.get! (pos + 2)).toNat (s.get! (pos + 3)).toNat (by omega) (by have := (s.get! pos).toNat_lt; omega)
    rw [← hd] at hmore h32
    unfold rns
    rw [if_pos h]
    rcases Nat.lt_or_ge (pos + (Utf8.decode s pos).2) s.size with h9 | h9
    · obtain ⟨ih, ih2⟩ := last_32 s f (pos + (Utf8.decode s pos).2) h9 (by omega)
      refine ⟨?_, by simp⟩
      rw [← ih, List.length_cons, Nat.add_sub_cancel]
      obtain ⟨q, hq⟩ : ∃ q, (rns s f (pos + (Utf8.decode s pos).2)).length = q + 1 := ⟨_, (Nat.sub_add_cancel ih2).symm⟩
      rw [hq, List.getD_cons_succ, Nat.add_sub_cancel]
    · have he : rns s f (pos + (Utf8.decode s pos).2) = [] := by
        cases f with
        | zero => rfl
        | succ f => unfold rns; rw [if_neg (by omega)]
      rw [he]
      refine ⟨?_, by simp⟩
      show (Utf8.decode s pos).1 = 32 ↔ _
      rw [h32]
      have hlast : ∀ j, pos + j = s.size - 1 → bt s (s.size - 1) = (s.get! (pos + j)).toNat := fun j hj => by rw [← hj]; exact bt_get2 s (by omega)
      rcases hmore with h1 | ⟨h1, h2, h3⟩ | ⟨h1, h2, h3⟩ | ⟨h1, h2, h3⟩
      · rw [hlast 0 (by omega)]; exact Iff.rfl
      · rw [hlast 1 (by omega)]; omega
      · rw [hlast 2 (by omega)]; omega
      · rw [hlast 3 (by omega)]; omega

theorem ofn_okR (r : Nat) : okR (r : Int) = ofn r := by
  unfold okR ofn
  rw [decide_eq_decide]
  omega

theorem all_names (s : ByteArray) : (arunes s).all okR = (runesOf s).all ofn := by
  have hl := arunes_length s
  rw [Bool.eq_iff_iff, List.all_eq_true, List.all_eq_true]
  constructor
  · intro h r hr
    obtain ⟨j, hj, e⟩ := List.getElem_of_mem hr
    have h1 : (runesOf s).getD j 0 = r := by rw [List.getD, List.getElem?_eq_getElem hj, Option.getD_some, e]
    have hj2 : j < (arunes s).length := by omega
    have h2 : (arunes s).getD j 0 ∈ arunes s := by rw [List.getD, List.getElem?_eq_getElem hj2, Option.getD_some]; exact List.getElem_mem _
    have h3 := h _ h2
    rcases arunes_at s j hj with h4 | ⟨h4, _⟩
    · rw [h4, h1, ofn_okR] at h3; exact h3
    · rw [h4] at h3; cases h3
  · intro h r hr
    obtain ⟨j, hj, e⟩ := List.getElem_of_mem hr
    have h1 : (arunes s).getD j 0 = r := by rw [List.getD, List.getElem?_eq_getElem hj, Option.getD_some, e]
    have hj2 : j < (runesOf s).length := by omega
    have h2 : (runesOf s).getD j 0 ∈ runesOf s := by rw [List.getD, List.getElem?_eq_getElem hj2, Option.getD_some]; exact List.getElem_mem _
    have h3 := h _ h2
    rcases arunes_at s j hj2 with h4 | ⟨_, h4⟩
    · rw [← h1, h4, ofn_okR]; exact h3
    · rw [h4] at h3; exact absurd h3 (by decide)

/-- A rune that is no blank. -/
theorem at_32 (s : ByteArray) (j : Nat) (h : j < (runesOf s).length) : (arunes s).getD j 0 = 32 ↔ (runesOf s).getD j 0 = 32 := by
  rcases arunes_at s j h with h4 | ⟨h4, h5⟩
  · rw [h4]; omega
  · rw [h4, h5]; constructor <;> (intro h; omega)

theorem nm_isN (s : ByteArray) : isN (arunes s) = nm s := by
  unfold isN nm
  rw [all_names, arunes_length, Bool.and_comm]
  congr 1
  rw [decide_eq_decide]
  constructor
  · rintro ⟨h1, h2, h3, h4⟩
    have hs : 0 < s.size := Nat.lt_of_lt_of_le h1 (runesOf_length s)
    refine ⟨h1, h2, ?_, ?_⟩
    · exact fun h => h3 ((at_32 s 0 (by omega)).2 ((first_32 s hs).2 h))
    · exact fun h => h4 ((at_32 s _ (by omega)).2 ((last_32 s s.size 0 hs (by omega)).1.2 h))
  · rintro ⟨h1, h2, h3, h4⟩
    have hs : 0 < s.size := Nat.lt_of_lt_of_le h1 (runesOf_length s)
    refine ⟨h1, h2, ?_, ?_⟩
    · rw [Ne, at_32 s 0 (by omega), first_32 s hs]
      exact h3
    · rw [Ne, at_32 s _ (by omega)]
      exact fun h => h4 ((last_32 s s.size 0 hs (by omega)).1.1 h)

end Go.Proofs.YtffnfchekbafmaaGreatDoor

/- Plain: a text cut at each '|', and decimal numbers. -/
namespace Go.Proofs.YtffnfchekbafmaaGreatDoor
open Go.RowKit Go.Lib
set_option maxRecDepth 100000
set_option linter.unusedVariables false

/-- A text cut at each '|'. -/
def cutL : List UInt8 → List (List UInt8)
  | [] => [[]]
  | b :: l => if b = 124 then [] :: cutL l else match cutL l with
    | [] => [[b]]
    | h :: t => (b :: h) :: t

theorem cutL_miss : ∀ (a : List UInt8), (∀ b ∈ a, b ≠ 124) → cutL a = [a]
  | [], _ => rfl
  | b :: l, h => by
    have h1 : b ≠ 124 := h b (by simp)
    rw [cutL, if_neg h1, cutL_miss l (fun x hx => h x (by simp [hx]))]

theorem cutL_hit (r : List UInt8) : ∀ (a : List UInt8), (∀ b ∈ a, b ≠ 124) → cutL (a ++ 124 :: r) = a :: cutL r
  | [], _ => by simp [cutL]
  | b :: l, h => by
    have h1 : b ≠ 124 := h b (by simp)
    rw [List.cons_append, cutL, if_neg h1, cutL_hit r l (fun x hx => h x (by simp [hx]))]

/-- A list has a first '|', or none. -/
theorem cut_cases : ∀ (s : List UInt8), (∀ b ∈ s, b ≠ 124) ∨ ∃ a r, s = a ++ 124 :: r ∧ ∀ b ∈ a, b ≠ 124
  | [] => Or.inl (fun b h => by cases h)
  | c :: l => by
    by_cases hc : c = 124
    · exact Or.inr ⟨[], l, by simp [hc], fun b h => by cases h⟩
    · rcases cut_cases l with h | ⟨a, r, rfl, h⟩
      · exact Or.inl (fun b hb => by rcases List.mem_cons.1 hb with rfl | hb; exact hc; exact h b hb)
      · exact Or.inr ⟨c :: a, r, rfl, fun b hb => by rcases List.mem_cons.1 hb with rfl | hb; exact hc; exact h b hb⟩

theorem index_miss : ∀ (s : List UInt8), (∀ b ∈ s, b ≠ 124) → Go.Lib.index s [124] = -1
  | [], _ => rfl
  | b :: l, h => by
    have h1 : b ≠ 124 := h b (by simp)
    have h2 := index_miss l (fun x hx => h x (by simp [hx]))
    unfold Go.Lib.index
    rw [if_neg (by simp [List.isPrefixOf]; exact fun e => h1 e.symm), h2]
    rfl

theorem index_hit (r : List UInt8) : ∀ (a : List UInt8), (∀ b ∈ a, b ≠ 124) → Go.Lib.index (a ++ 124 :: r) [124] = a.length
  | [], _ => by simp [Go.Lib.index, List.isPrefixOf]
  | b :: l, h => by
    have h1 : b ≠ 124 := h b (by simp)
    have h2 := index_hit r l (fun x hx => h x (by simp [hx]))
    rw [List.cons_append]
    unfold Go.Lib.index
    rw [if_neg (by simp [List.isPrefixOf]; exact fun e => h1 e.symm), h2, if_neg (by simp)]
    simp

theorem split_cut : ∀ (m : Nat) (s : List UInt8), s.count 124 = m → Go.Lib.splitK [124] 0 m s = cutL s
  | 0, s, h => by
    have : ∀ b ∈ s, b ≠ 124 := fun b hb e => by
      subst e
      exact absurd (List.count_pos_iff.2 hb) (by omega)
    rw [cutL_miss s this]; rfl
  | m + 1, s, h => by
    rcases cut_cases s with h1 | ⟨a, r, rfl, h1⟩
    · exact absurd (List.count_eq_zero.2 (fun hm => h1 _ hm rfl)) (by omega)
    · have h0 : a.count 124 = 0 := List.count_eq_zero.2 (fun hm => h1 _ hm rfl)
      rw [List.count_append, List.count_cons_self, h0] at h
      rw [cutL_hit r a h1, ← split_cut m r (by omega), Go.Lib.splitK, index_hit r a h1, if_neg (by simp)]
      simp

theorem cutL_length (s : List UInt8) : (cutL s).length = s.count 124 + 1 := by
  rw [← split_cut _ s rfl]
  generalize hm : s.count 124 = m
  induction m generalizing s with
  | zero => rfl
  | succ m ih =>
    rcases cut_cases s with h1 | ⟨a, r, rfl, h1⟩
    · exact absurd (List.count_eq_zero.2 (fun hx => h1 _ hx rfl)) (by omega)
    · have h0 : a.count 124 = 0 := List.count_eq_zero.2 (fun hx => h1 _ hx rfl)
      rw [List.count_append, List.count_cons_self, h0] at hm
      rw [Go.Lib.splitK, index_hit r a h1, if_neg (by simp)]
      simp [ih r (by omega)]

def cutB (s : ByteArray) : List ByteArray := (cutL s.data.toList).map (fun l => ⟨l.toArray⟩)

theorem splitB_cut (s : ByteArray) : Go.Lib.splitB ⟨#[124]⟩ 0 (Go.Lib.countB s ⟨#[124]⟩) s = cutB s := by
  have h := Go.Lib.splitB_data ⟨#[124]⟩ 0 (Go.Lib.countB s ⟨#[124]⟩) s
  have hc : Go.Lib.countB s ⟨#[124]⟩ = s.data.toList.count 124 := Go.Lib.count_one 124 s.data.toList
  rw [show (⟨#[124]⟩ : ByteArray).data.toList = [124] from rfl, split_cut _ _ hc.symm] at h
  unfold cutB
  rw [← h, List.map_map]
  symm
  exact (List.map_congr_left (fun b _ => rfl)).trans (List.map_id _)

theorem cutB_length (s : ByteArray) : (cutB s).length = Go.Lib.countB s ⟨#[124]⟩ + 1 := by
  rw [cutB, List.length_map, cutL_length]
  exact congrArg (· + 1) (Go.Lib.count_one 124 s.data.toList).symm
def dgt (b : UInt8) : Bool := decide (48 ≤ b.toNat ∧ b.toNat ≤ 57)
def dcm (l : List UInt8) : Bool := l.all dgt && decide (l = [48] ∨ (l ≠ [] ∧ l.headD 0 ≠ 48))
def valF (a : Nat) (l : List UInt8) : Nat := l.foldl (fun a b => a * 10 + (b.toNat - 48)) a

theorem valF_le (l : List UInt8) : ∀ a, a ≤ valF a l := by
  induction l with
  | nil => intro a; exact Nat.le_refl _
  | cons b l ih => intro a; have := ih (a * 10 + (b.toNat - 48)); show a ≤ valF (a * 10 + (b.toNat - 48)) l; omega

def capF (a : Nat) (l : List UInt8) : Nat := l.foldl (fun a b => min (a * 10 + (b.toNat - 48)) 1000000000) a

theorem capF_val (l : List UInt8) : ∀ a c, c = min a 1000000000 → capF c l = min (valF a l) 1000000000 := by
  induction l with
  | nil => intro a c h; exact h
  | cons b l ih =>
    intro a c h
    show capF (min (c * 10 + (b.toNat - 48)) 1000000000) l = min (valF (a * 10 + (b.toNat - 48)) l) 1000000000
    apply ih
    subst h
    generalize b.toNat - 48 = d
    omega

theorem parse_dgt : ∀ (l : List UInt8) (a : Nat), (∀ b ∈ l, dgt b = true) → a < 18446744073709551616 → Go.Lib.parseUint10 a l = if valF a l < 18446744073709551616 then .ok (valF a l) else .range
  | [], a, _, ha => by show Go.Lib.NumEnd.ok a = _; rw [if_pos (by exact ha)]; rfl
  | b :: l, a, h, ha => by
    have hb : 48 ≤ b.toNat ∧ b.toNat ≤ 57 := of_decide_eq_true (h b (by simp))
    have hle := valF_le l (a * 10 + (b.toNat - 48))
    have e : valF a (b :: l) = valF (a * 10 + (b.toNat - 48)) l := rfl
    rw [e, Go.Lib.parseUint10, if_pos hb]
    by_cases h1 : 1844674407370955162 ≤ a
    · rw [if_pos h1, if_neg (by omega)]
    · rw [if_neg h1]
      by_cases h2 : 18446744073709551616 ≤ a * 10 + (b.toNat - 48)
      · rw [if_pos h2, if_neg (by omega)]
      · rw [if_neg h2]
        exact parse_dgt l _ (fun x hx => h x (by simp [hx])) (by omega)

theorem atoi_dgt {l : List UInt8} (h : ∀ b ∈ l, dgt b = true) (h0 : l ≠ []) : Go.Lib.atoiAll l = if valF 0 l < 9223372036854775808 then .ok (valF 0 l) else .range := by
  match l, h, h0 with
  | c :: r, h, _ =>
    have hb : 48 ≤ c.toNat ∧ c.toNat ≤ 57 := of_decide_eq_true (h c (by simp))
    have e1 : ¬ (c.toNat = 43 ∨ c.toNat = 45) := by omega
    have e2 : ¬ c.toNat = 45 := by omega
    simp only [Go.Lib.atoiAll, if_neg e1, Go.Lib.parseMag, if_neg (List.cons_ne_nil c r), parse_dgt (c :: r) 0 h (by decide)]
    by_cases hv : valF 0 (c :: r) < 18446744073709551616
    · simp only [if_pos hv]
      by_cases hw : valF 0 (c :: r) < 9223372036854775808
      · simp [e2, hw]
      · simp [e2, hw]
    · rw [if_neg hv, if_neg (by omega)]

theorem sat_dgt {l : List UInt8} (h : ∀ b ∈ l, dgt b = true) (h0 : l ≠ []) : Go.Lib.atoiSat l = 9223372036854775807 := by
  match l, h, h0 with
  | c :: r, h, _ =>
    have hb : 48 ≤ c.toNat ∧ c.toNat ≤ 57 := of_decide_eq_true (h c (by simp))
    unfold Go.Lib.atoiSat
    exact if_neg (by rw [List.head?_cons, Option.map_some]; intro e; injection e; omega)

set_option maxHeartbeats 4000000 in
theorem dec_dig (n b0 b1 b2 b3 : Nat) (hn : 1 ≤ n) (h0 : b0 < 256) : (48 ≤ (decodeN n b0 b1 b2 b3).1 ∧ (decodeN n b0 b1 b2 b3).1 ≤ 57 ↔ 48 ≤ b0 ∧ b0 ≤ 57) ∧ (48 ≤ b0 ∧ b0 ≤ 57 → (decodeN n b0 b1 b2 b3).2 = 1 ∧ (decodeN n b0 b1 b2 b3).1 = b0) := by
  unfold decodeN
  repeat' split
  all_goals (first | (simp; done) | (simp; omega) | (dsimp only; omega))

end Go.Proofs.YtffnfchekbafmaaGreatDoor

/- Contracts: method.decimal, the answer's digits. -/
namespace Go.Proofs.YtffnfchekbafmaaGreatDoor
open Go.RowKit Go.Lib
set_option maxRecDepth 20000
set_option linter.unusedVariables false

theorem dig_at (s : ByteArray) (pos : Nat) (h : pos < s.size) : (48 ≤ (Utf8.decode s pos).1 ∧ (Utf8.decode s pos).1 ≤ 57 ↔ 48 ≤ bt s pos ∧ bt s pos ≤ 57) ∧ (48 ≤ bt s pos ∧ bt s pos ≤ 57 → (Utf8.decode s pos).2 = 1) := by
  have hd := decode_at s pos
  have hl := (s.get! pos).toNat_lt
  obtain ⟨h1, h2⟩ := dec_dig (s.size - pos) (s.get! pos).toNat (s.get! (pos + 1)).toNat (s.get! (pos + 2)).toNat (s.get! (pos + 3)).toNat (by omega) (by omega)
  rw [← hd] at h1 h2
  rw [bt_get2 s h]
  exact ⟨h1, fun h3 => (h2 h3).1⟩

theorem bt_list (s : ByteArray) {k : Nat} (h : k < s.size) : ∃ b, s.data.toList[k]? = some b ∧ b.toNat = bt s k := by
  have h' : k < s.data.toList.length := by rw [Array.length_toList]; exact h
  refine ⟨s.data.toList[k], List.getElem?_eq_getElem h', ?_⟩
  unfold bt
  rw [List.getElem?_eq_getElem h', Option.getD_some]

theorem take_dgt {l : List UInt8} {k : Nat} {b : UInt8} (hb : l[k]? = some b) (h : ∀ x ∈ l.take k, dgt x = true) (hd : dgt b = true) : ∀ x ∈ l.take (k + 1), dgt x = true := by
  rw [List.take_add_one, hb]
  intro x hx
  rcases List.mem_append.1 hx with hx | hx
  · exact h x hx
  · simp at hx; rw [hx]; exact hd

theorem dcm_bad {l : List UInt8} {k : Nat} {b : UInt8} (hb : l[k]? = some b) (hd : dgt b = false) : dcm l = false := by
  unfold dcm
  rw [show l.all dgt = false from by rw [List.all_eq_false]; exact ⟨b, List.mem_of_getElem? hb, by simp [hd]⟩]
  rfl

theorem dcm_all {l : List UInt8} (h : ∀ x ∈ l, dgt x = true) : dcm l = decide (l = [48] ∨ (l ≠ [] ∧ l.headD 0 ≠ 48)) := by
  unfold dcm
  rw [List.all_eq_true.2 h, Bool.true_and]

theorem take_all {s : ByteArray} {k : Nat} (h : s.size ≤ k) : s.data.toList.take k = s.data.toList := List.take_of_length_le (by rw [Array.length_toList]; exact h)

structure DecRel (w wr : World) (s : ByteArray) (pos : Nat) : Prop where
  iter : wr.heap[w.heap.size]? = some (.stringIter s pos)
  all : ∀ x ∈ s.data.toList.take pos, dgt x = true
  size : w.heap.size < wr.heap.size
  below : Below w.heap.size w wr

theorem str_zero (s : ByteArray) (h : 0 < s.size) : (s = ⟨#[48]⟩ ↔ s.size = 1 ∧ bt s 0 = 48) ∧ (s.data.toList = [48] ↔ s.size = 1 ∧ bt s 0 = 48) := by
  have e : (s.data.toList = [48] ↔ s.size = 1 ∧ bt s 0 = 48) := by
    have hl : s.data.toList.length = s.size := by rw [Array.length_toList]; rfl
    unfold bt
    constructor
    · intro h1
      rw [h1] at hl
      exact ⟨hl.symm, by rw [h1]; rfl⟩
    · rintro ⟨h1, h2⟩
      rw [h1] at hl
      obtain ⟨a, ha⟩ := List.length_eq_one_iff.1 hl
      rw [ha] at h2 ⊢
      simp at h2
      rw [show a = 48 from UInt8.toNat_inj.1 h2]
  refine ⟨⟨fun h1 => e.1 (by rw [h1]), fun h1 => ?_⟩, e⟩
  have := e.2 h1
  cases s with
  | mk d => congr 1; apply Array.ext'; exact this

theorem eqs_iff (s t : ByteArray) : (s.toList == t.toList) = decide (s = t) := by
  rw [ByteArray.toList_eq, ByteArray.toList_eq]
  by_cases h : s = t
  · rw [h]; simp
  · rw [decide_eq_false h]
    apply beq_eq_false_iff_ne.2
    intro e
    apply h
    cases s; cases t
    congr 1
    exact Array.ext' e

theorem eqs_t {s t : ByteArray} (h : s = t) : (s.toList == t.toList) = true := by rw [eqs_iff, decide_eq_true h]
theorem eqs_f {s t : ByteArray} (h : s ≠ t) : (s.toList == t.toList) = false := by rw [eqs_iff, decide_eq_false h]
theorem lst1 (s : ByteArray) : (s.toList == [48]) = (s.toList == (⟨#[48]⟩ : ByteArray).toList) := by rw [ByteArray.toList_eq ⟨#[48]⟩]
theorem lst0 (s : ByteArray) : (s.toList == []) = (s.toList == (⟨#[]⟩ : ByteArray).toList) := by rw [ByteArray.toList_eq ⟨#[]⟩]

theorem head_bt (s : ByteArray) : (s.data.toList.headD 0).toNat = bt s 0 := by
  unfold bt
  cases s.data.toList <;> rfl

/-- What is left where all are digits. -/
theorem dcm_end {s : ByteArray} (h : ∀ x ∈ s.data.toList, dgt x = true) : dcm s.data.toList = decide (0 < s.size ∧ (s.size = 1 ∧ bt s 0 = 48 ∨ bt s 0 ≠ 48)) := by
  rw [dcm_all h]
  apply decide_eq_decide.2
  have hl : s.data.toList.length = s.size := by rw [Array.length_toList]; rfl
  rcases Nat.eq_zero_or_pos s.size with h0 | h0
  · have : s.data.toList = [] := List.length_eq_zero_iff.1 (by omega)
    rw [this]; simp; omega
  · have hne : s.data.toList ≠ [] := fun e => by rw [e] at hl; simp at hl; omega
    rw [(str_zero s h0).2, ← head_bt]
    constructor
    · rintro (h1 | ⟨_, h1⟩)
      · exact ⟨h0, Or.inl h1⟩
      · exact ⟨h0, Or.inr (fun e => h1 (UInt8.toNat_inj.1 e))⟩
    · rintro ⟨_, h1 | h1⟩
      · exact Or.inl h1
      · exact Or.inr ⟨hne, fun e => h1 (by rw [e]; rfl)⟩

end Go.Proofs.YtffnfchekbafmaaGreatDoor

/- Contracts: the answer's digits. -/
namespace Go.Proofs.YtffnfchekbafmaaGreatDoor
open Go.RowKit
set_option maxRecDepth 20000
set_option linter.unusedVariables false

/-- What the answer says of a text as a number. -/
def dgE (l : List UInt8) : Int := if dcm l = true then ((capF 0 l : Nat) : Int) else -1

theorem capF_succ {l : List UInt8} {k : Nat} {b : UInt8} (hb : l[k]? = some b) (a : Nat) : capF a (l.take (k + 1)) = min (capF a (l.take k) * 10 + (b.toNat - 48)) 1000000000 := by
  rw [List.take_add_one, hb]
  unfold capF
  rw [List.foldl_append]
  rfl

theorem capF_le (l : List UInt8) : ∀ a, a ≤ 1000000000 → capF a l ≤ 1000000000 := by
  induction l with
  | nil => intro a h; exact h
  | cons b l ih => intro a h; exact ih _ (Nat.min_le_right _ _)

set_option maxHeartbeats 4000000 in
theorem digits_none (s : ByteArray) (w : World) (h : s.size = 0) : Calls Tryz.prog 23 #[.string s] w fun e w' => e = .returned (.int .i64 (-1)) ∧ w = w' := by
  have hse : s = ⟨#[]⟩ := by
    cases s with
    | mk d => congr 1; exact Array.size_eq_zero_iff.1 h
  have t1 := eqs_t hse
  have t1' := (lst0 s).trans t1
  clear hse
  go_enter Tryz.func23, Tryz.ntmps23
  go_wp2
  go_ret
  exact ⟨rfl, rfl⟩

set_option maxHeartbeats 4000000 in
theorem digits_nought (s : ByteArray) (w : World) (h : 1 < s.size) (hb : bt s 0 = 48) : Calls Tryz.prog 23 #[.string s] w fun e w' => e = .returned (.int .i64 (-1)) ∧ w = w' := by
  have h0 : 0 < s.size := by omega
  have t1 := eqs_f (s := s) (t := ⟨#[]⟩) (fun e => by rw [e] at h0; exact absurd h0 (by decide))
  have t1' := (lst0 s).trans t1
  have hn0 : (((s[0]'h0).toNat : Int) == 48) = true := by rw [bt_get h0, hb]; rfl
  clear hb
  go_enter Tryz.func23, Tryz.ntmps23
  go_wp2
  go_ret
  exact ⟨rfl, rfl⟩

set_option maxHeartbeats 4000000 in
theorem digits_loop (s : ByteArray) (w : World) (hs : s.size ≤ 9223372036854775807) (h0 : 0 < s.size) (hb : s.size = 1 ∨ bt s 0 ≠ 48) : Calls Tryz.prog 23 #[.string s] w fun e w' => e = .returned (.int .i64 (dgE s.data.toList)) ∧ w = w' := by
  have HB := hide hb
  have t1 := eqs_f (s := s) (t := ⟨#[]⟩) (fun e => by rw [e] at h0; exact absurd h0 (by decide))
  have t1' := (lst0 s).trans t1
  have hq : bt s 0 = (s[0]'h0).toNat := (bt_get h0).symm
  have hc : s.size = 1 ∨ (1 < (s.size : Int) ∧ (((s[0]'h0).toNat : Int) == 48) = false) := by
    rcases hb with hb | hb
    · exact Or.inl hb
    · rcases Nat.lt_or_ge 1 s.size with h9 | h9
      · exact Or.inr ⟨by omega, by rw [← hq]; exact beq_eq_false_iff_ne.2 (by omega)⟩
      · exact Or.inl (by omega)
  clear hb hq
  have key : ∀ k n : Nat, True := fun _ _ => trivial
  go_enter Tryz.func23, Tryz.ntmps23
  have h1 : decide (1 < (s.size : Int)) = true ∨ decide (1 < (s.size : Int)) = false := by cases decide (1 < (s.size : Int)) <;> simp
  rcases hc with hc | ⟨hc1, hc2⟩
  all_goals
    first
      | (have hc3 : decide (1 < (s.size : Int)) = false := by rw [hc]; rfl)
      | (have hc3 : decide (1 < (s.size : Int)) = true := decide_eq_true hc1)
    clear h1
    go_wp2
    go_loop [3, 4] (fun n i => ∃ k : Nat, k ≤ s.size ∧ i = .int .i64 k ∧ n = .int .i64 ((capF 0 (s.data.toList.take k) : Nat) : Int) ∧ Hid (∀ x ∈ s.data.toList.take k, dgt x = true)) (fun _ i => s.size - (intOf i).toNat)
    case atStart => exact ⟨0, by omega, rfl, rfl, fun x hx => by simp at hx⟩
    case round =>
      obtain ⟨k, hk, rfl, rfl, hA⟩ := hrel
      by_cases hlt : k < s.size
      · obtain ⟨bb, hbb, hbt⟩ := bt_list s hlt
        have hix := index_byte s k hlt w
        rw [bt_get hlt, ← hbt] at hix
        have hb256 := bb.toNat_lt
        have hcl := capF_le (s.data.toList.take k) 0 (by omega)
        have HSU := hide (capF_succ hbb 0)
        generalize capF 0 (s.data.toList.take k) = n0 at *
        by_cases hd : 48 ≤ bb.toNat ∧ bb.toNat ≤ 57
        · have HAA := hide (take_dgt hbb hA.out (by unfold dgt; exact decide_eq_true hd))
          clear hbb hbt
          generalize bb.toNat = b at *
          obtain ⟨d1, d2⟩ := hd
          have q1 : ¬ (b : Int) < 48 := by omega
          have q2 : ¬ 57 < (b : Int) := by omega
          by_cases hg : 1000000000 < (n0 : Int) * 10 + ((b : Int) - 48)
          · have HN : Hid (capF 0 (s.data.toList.take (k + 1)) = 1000000000) := by show _ = _; rw [HSU.out]; omega
            clear HSU
            go_wp2
            go_round
            case rel => exact ⟨k + 1, by omega, by go_num, by rw [HN.out]; rfl, HAA⟩
            case measure => simp [intOf]; omega
          · have HN : Hid (((capF 0 (s.data.toList.take (k + 1)) : Nat) : Int) = (n0 : Int) * 10 + ((b : Int) - 48)) := by show _ = _; rw [HSU.out]; omega
            clear HSU
            go_wp2
            go_round
            case rel => exact ⟨k + 1, by omega, by go_num, by rw [HN.out], HAA⟩
            case measure => simp [intOf]; omega
        · have HF : Hid (dgE s.data.toList = -1) := by
            show _ = _
            unfold dgE
            rw [dcm_bad hbb (by unfold dgt; exact decide_eq_false hd)]
            rfl
          clear hbb hbt HSU
          generalize bb.toNat = b at *
          by_cases q1 : (b : Int) < 48
          · go_wp2
            go_ret
            exact ⟨ret_int HF.out.symm, rfl⟩
          · have q2 : 57 < (b : Int) := by omega
            go_wp2
            go_ret
            exact ⟨ret_int HF.out.symm, rfl⟩
      · have HF : Hid (dgE s.data.toList = ((capF 0 (s.data.toList.take k) : Nat) : Int)) := by
          show _ = _
          have hA' := hA.out
          rw [take_all (by omega)] at hA' ⊢
          unfold dgE
          rw [dcm_end hA', if_pos]
          exact decide_eq_true ⟨h0, by have := HB.out; omega⟩
        generalize capF 0 (s.data.toList.take k) = n0 at *
        go_wp2
        go_ret
        exact ⟨ret_int HF.out.symm, rfl⟩

theorem digits_any (s : ByteArray) (w : World) (hs : s.size ≤ 9223372036854775807) : Calls Tryz.prog 23 #[.string s] w fun e w' => e = .returned (.int .i64 (dgE s.data.toList)) ∧ w = w' := by
  have hl : s.data.toList.length = s.size := by rw [Array.length_toList]; rfl
  rcases Nat.eq_zero_or_pos s.size with h | h
  · rw [show dgE s.data.toList = -1 from by rw [List.length_eq_zero_iff.1 (show s.data.toList.length = 0 by omega)]; rfl]
    exact digits_none s w h
  · by_cases hb : s.size = 1 ∨ bt s 0 ≠ 48
    · exact digits_loop s w hs h hb
    · have h48 : bt s 0 = 48 := by omega
      have : dgE s.data.toList = -1 := by
        unfold dgE
        rw [if_neg]
        intro hd
        unfold dcm at hd
        have := of_decide_eq_true (Bool.and_eq_true_iff.1 hd).2
        rcases this with h9 | ⟨_, h9⟩
        · rw [h9] at hl; simp at hl; omega
        · exact h9 (UInt8.toNat_inj.1 (by rw [head_bt, h48]; rfl))
      rw [this]
      exact digits_nought s w (by omega) h48

end Go.Proofs.YtffnfchekbafmaaGreatDoor

/- Plain: a text cut at each byte of a kind, and how a record's line is cut. -/
namespace Go.Proofs.YtffnfchekbafmaaGreatDoor
open Go.RowKit Go.Lib
set_option maxRecDepth 100000
set_option linter.unusedVariables false

/-- A text cut at each byte of a kind. -/
def cutG (c : UInt8) : List UInt8 → List (List UInt8)
  | [] => [[]]
  | b :: l => if b = c then [] :: cutG c l else match cutG c l with
    | [] => [[b]]
    | h :: t => (b :: h) :: t

theorem cutG_miss (c : UInt8) : ∀ (a : List UInt8), (∀ b ∈ a, b ≠ c) → cutG c a = [a]
  | [], _ => rfl
  | b :: l, h => by
    have h1 : b ≠ c := h b (by simp)
    rw [cutG, if_neg h1, cutG_miss c l (fun x hx => h x (by simp [hx]))]

theorem cutG_hit (c : UInt8) (r : List UInt8) : ∀ (a : List UInt8), (∀ b ∈ a, b ≠ c) → cutG c (a ++ c :: r) = a :: cutG c r
  | [], _ => by simp [cutG]
  | b :: l, h => by
    have h1 : b ≠ c := h b (by simp)
    rw [List.cons_append, cutG, if_neg h1, cutG_hit c r l (fun x hx => h x (by simp [hx]))]

theorem cutG_ne (c : UInt8) : ∀ (a : List UInt8), cutG c a ≠ []
  | [] => by simp [cutG]
  | b :: l => by
    rw [cutG]
    split
    · simp
    · split <;> simp

theorem cutG_jn (c : UInt8) : ∀ (r : List (List UInt8)) (x : List UInt8), (∀ y, y ∈ x :: r → ∀ b ∈ y, b ≠ c) → cutG c (jnF c x r) = x :: r
  | [], x, h => cutG_miss c x (h x (by simp))
  | y :: r, x, h => by
    show cutG c (x ++ c :: jnF c y r) = _
    rw [cutG_hit c _ x (h x (by simp)), cutG_jn c r y (fun z hz => h z (List.mem_cons_of_mem _ hz))]

theorem cutG_length (c : UInt8) : ∀ (s : List UInt8), (cutG c s).length ≤ s.length + 1
  | [] => by simp [cutG]
  | b :: l => by
    have ih := cutG_length c l
    rw [cutG]
    split
    · simp; exact ih
    · split
      · simp
      · rename_i h t e
        rw [e] at ih
        simp only [List.length_cons] at ih ⊢
        omega

theorem cutG_small (c : UInt8) : ∀ (s : List UInt8) (x : List UInt8), x ∈ cutG c s → x.length ≤ s.length
  | [], x, h => by simp [cutG] at h; subst h; simp
  | b :: l, x, h => by
    have ih := cutG_small c l
    rw [cutG] at h
    split at h
    · rcases List.mem_cons.1 h with rfl | h
      · simp
      · have := ih x h; simp only [List.length_cons]; omega
    · split at h
      · simp at h; subst h; simp
      · rename_i hd t e
        rcases List.mem_cons.1 h with rfl | h
        · have := ih hd (by rw [e]; simp); simp only [List.length_cons]; omega
        · have := ih x (by rw [e]; exact List.mem_cons_of_mem _ h); simp only [List.length_cons]; omega

/-- The same of texts. -/
def cutT (c : UInt8) (s : ByteArray) : List ByteArray := (cutG c s.data.toList).map (fun l => ⟨l.toArray⟩)

theorem cutT_length (c : UInt8) (s : ByteArray) : (cutT c s).length ≤ s.size + 1 := by
  unfold cutT
  rw [List.length_map]
  exact cutG_length c s.data.toList

theorem cutT_ne (c : UInt8) (s : ByteArray) : cutT c s ≠ [] := by
  unfold cutT
  intro h
  exact cutG_ne c _ (List.map_eq_nil_iff.1 h)

theorem cutT_small (c : UInt8) (s : ByteArray) (x : ByteArray) (h : x ∈ cutT c s) : x.size ≤ s.size := by
  unfold cutT at h
  obtain ⟨l, hl, rfl⟩ := List.mem_map.1 h
  show l.toArray.size ≤ _
  rw [List.size_toArray]
  exact cutG_small c _ l hl

theorem cutT_jn (c : UInt8) (x : ByteArray) (r : List ByteArray) (h : ∀ y, y ∈ x :: r → ∀ b ∈ y.data.toList, b ≠ c) : cutT c (jnB c (x :: r)) = x :: r := by
  have e : ∀ l : List ByteArray, (l.map (fun y => y.data.toList)).map (fun l => (⟨l.toArray⟩ : ByteArray)) = l := fun l => by
    induction l with
    | nil => rfl
    | cons a t ih => rw [List.map_cons, List.map_cons, ih]
  unfold cutT
  rw [jnB_data, cutG_jn c _ _ (fun y hy => by
    rcases List.mem_cons.1 hy with rfl | hy
    · exact h x (by simp)
    · obtain ⟨z, hz, rfl⟩ := List.mem_map.1 hy
      exact h z (List.mem_cons_of_mem _ hz))]
  exact e (x :: r)

theorem decV_val (l : List UInt8) : valF 0 l = decV l := rfl

theorem dcm_dec (d : Nat) : dcm (decDigits d) = true := by
  unfold dcm
  rw [Bool.and_eq_true]
  refine ⟨List.all_eq_true.2 (fun x hx => decide_eq_true (dec_digs d x hx)), decide_eq_true ?_⟩
  by_cases h : d = 0
  · subst h; left; rw [decDigits]; rfl
  · right
    refine ⟨dec_ne d, ?_⟩
    have key : ∀ n, 0 < n → (decDigits n).headD 0 ≠ 48 := fun n => by
      induction n using Nat.strongRecOn with
      | ind n ih =>
        intro hn
        rw [decDigits]
        split
        · intro e
          have := congrArg UInt8.toNat e
          simp only [List.headD_cons] at this
          rw [ofNat_dig (by omega)] at this
          have h48 : (48 : UInt8).toNat = 48 := rfl
          omega
        · have h2 := ih (n / 10) (by omega) (by omega)
          cases hc : decDigits (n / 10) with
          | nil => exact absurd hc (dec_ne _)
          | cons a t => rw [hc] at h2; exact h2
    exact key d (by omega)

theorem dgE_dec {d : Nat} (h : d ≤ 1000000) : dgE (decDigits d) = (d : Int) := by
  unfold dgE
  rw [if_pos (dcm_dec d), capF_val _ 0 0 rfl, decV_val, decV_dec, Nat.min_eq_left (by omega)]

theorem dgE_le (l : List UInt8) : dgE l ≤ 1000000000 := by
  unfold dgE
  split
  · have := capF_le l 0 (by decide); omega
  · omega

/-- HOW A RIGHT LINE IS CUT. -/
theorem cut_back {d c : Nat} {m s : ByteArray} {ring : List ByteArray} (h : MayR (d : Int) (c : Int) m ring) (e : lnB (txB d c m ring) = s ++ ⟨#[10]⟩) :
    (∃ r, cutT 35 s = txB d c m ring :: r) ∧ cutT 124 (txB d c m ring) = [⟨(decDigits d).toArray⟩, ⟨(decDigits c).toArray⟩, m, jnB 44 ring] ∧ cutT 44 (jnB 44 ring) = ring := by
  refine ⟨?_, ?_, ?_⟩
  · have e1 : (lnB (txB d c m ring)).data.toList = s.data.toList ++ [10] := by rw [e]; simp [ByteArray.data_append]
    rw [lnB_data, lnOf_form] at e1
    have e2 := (List.append_inj' e1 rfl).1
    refine ⟨(cutG 35 (decDigits (chkN (txB d c m ring).data.toList))).map (fun l => ⟨l.toArray⟩), ?_⟩
    unfold cutT
    rw [← e2, cutG_hit 35 _ _ (fun b hb => ((tx_cln h) b hb).1), List.map_cons]
  · unfold txB
    refine cutT_jn 124 _ _ (fun y hy => ?_)
    simp only [List.mem_cons, List.not_mem_nil, or_false] at hy
    rcases hy with rfl | rfl | rfl | rfl
    · exact fun b hb => dec_sign d (c := 124) (Or.inr (by decide)) b (by simpa using hb)
    · exact fun b hb => dec_sign c (c := 124) (Or.inr (by decide)) b (by simpa using hb)
    · exact nm_sign h.name (by decide) (by decide)
    · exact ring_sign h (by decide) (by decide) (by decide)
  · match ring, h with
    | [], h => exact absurd h.some (by decide)
    | x :: r, h => exact cutT_jn 44 x r (fun y hy => nm_sign (h.names y hy) (by decide) (by decide))

end Go.Proofs.YtffnfchekbafmaaGreatDoor

/- Contract: the answer's cutAt. -/
namespace Go.Proofs.YtffnfchekbafmaaGreatDoor
open Go.RowKit
set_option maxRecDepth 20000
set_option linter.unusedVariables false

theorem infoStr : (Tryz.prog.info? 9).map (fun i => (i.zero, i.size, i.bytes)) = some (some (.string ByteArray.empty), 1, 16) := by kernel_rfl

/-- Texts as values. -/
def sVals (l : List ByteArray) : List Value := l.map Value.string

/-- How far a text is cut: the pieces so far, where the next one begins, no cut in it yet. -/
structure CutRel (s : ByteArray) (out : List ByteArray) (last i : Nat) : Prop where
  le : last ≤ i
  hi : i ≤ s.size
  eq : cutB s = out ++ (cutL (s.data.toList.drop last)).map (fun l => ⟨l.toArray⟩)
  no : ∀ x ∈ (s.data.toList.drop last).take (i - last), x ≠ 124
  len : out.length ≤ last

theorem ext_list (s : ByteArray) (a b : Nat) (h : a ≤ b) (hb : b ≤ s.size) : s.extract a b = ⟨((s.data.toList.drop a).take (b - a)).toArray⟩ := by
  have h1 : (s.extract a b).data.toList = (s.data.toList.drop a).take (b - a) := by
    rw [Go.Lib.extract_data]
  cases hx : s.extract a b with
  | mk d => rw [hx] at h1; congr 1; apply Array.ext'; rw [← h1]

theorem CutRel.start (s : ByteArray) : CutRel s [] 0 0 := ⟨Nat.le_refl _, Nat.zero_le _, by simp [cutB], fun x hx => by simp at hx, Nat.le_refl _⟩

theorem CutRel.go {s : ByteArray} {out : List ByteArray} {last i : Nat} (h : CutRel s out last i) (hi : i < s.size) (hb : bt s i ≠ 124) : CutRel s out last (i + 1) := by
  obtain ⟨b, hbb, hbt⟩ := bt_list s hi
  refine ⟨by have := h.le; omega, hi, h.eq, fun x hx => ?_, h.len⟩
  rw [show i + 1 - last = (i - last) + 1 from by have := h.le; omega, List.take_add_one] at hx
  rcases List.mem_append.1 hx with hx | hx
  · exact h.no x hx
  · rw [List.getElem?_drop, show last + (i - last) = i from by have := h.le; omega, hbb] at hx
    simp at hx
    subst hx
    intro e
    rw [e] at hbt
    exact hb hbt.symm

theorem CutRel.hit {s : ByteArray} {out : List ByteArray} {last i : Nat} (h : CutRel s out last i) (hi : i < s.size) (hb : bt s i = 124) : CutRel s (out ++ [s.extract last i]) (i + 1) (i + 1) := by
  obtain ⟨b, hbb, hbt⟩ := bt_list s hi
  have hle := h.le
  refine ⟨Nat.le_refl _, hi, ?_, fun x hx => by simp at hx, by rw [List.length_append]; have := h.len; simp; omega⟩
  have e : s.data.toList.drop last = (s.data.toList.drop last).take (i - last) ++ 124 :: s.data.toList.drop (i + 1) := by
    have h1 := (List.take_append_drop (i - last) (s.data.toList.drop last)).symm
    rw [List.drop_drop, show last + (i - last) = i from by omega] at h1
    have hl : i < s.data.toList.length := by rw [Array.length_toList]; exact hi
    rw [List.drop_eq_getElem_cons hl] at h1
    rw [List.getElem?_eq_getElem hl] at hbb
    have hb1 : s.data.toList[i] = 124 := by
      have := Option.some.inj hbb
      rw [this]
      exact UInt8.toNat_inj.1 (by rw [hbt, hb]; rfl)
    rw [hb1] at h1
    exact h1
  rw [h.eq, e, cutL_hit _ _ h.no, ext_list s last i hle (by omega), List.map_cons, List.append_assoc]
  rfl

theorem CutRel.done {s : ByteArray} {out : List ByteArray} {last : Nat} (h : CutRel s out last s.size) : cutB s = out ++ [s.extract last s.size] := by
  have hle := h.le
  have e : (s.data.toList.drop last).take (s.size - last) = s.data.toList.drop last := List.take_of_length_le (by rw [List.length_drop, Array.length_toList]; exact Nat.le_refl _)
  have hno := h.no
  rw [e] at hno
  rw [h.eq, cutL_miss _ hno, ext_list s last s.size hle (Nat.le_refl _), e]
  rfl

structure CutW (w wr : World) (s : ByteArray) (v : Value) (out : List ByteArray) : Prop where
  own : wr.ownsRow w.heap.size 9 1 v out.length (sVals out)
  below : Below w.heap.size w wr

set_option maxHeartbeats 4000000 in
theorem cutAt_any (s : ByteArray) (w : World) (hs : s.size ≤ 1048576) :
    Calls Tryz.prog 22 #[.string s, .int .u8 124] w fun e w' => ∃ v, e = .returned v ∧ w'.ownsRow w.heap.size 9 1 v (cutB s).length (sVals (cutB s)) ∧ Below w.heap.size w w' := by
  obtain ⟨i0, hi, hz0, hz1, hz2⟩ := info_parts infoStr
  go_enter Tryz.func22, Tryz.ntmps22
  go_wp2
  go_loopw [5, 6, 7] (fun v l i wr => ∃ (out : List ByteArray) (last k : Nat), l = .int .i64 last ∧ i = .int .i64 k ∧ Hid (CutRel s out last k) ∧ Hid (CutW w wr s v out)) (fun _ _ i _ => s.size - (intOf i).toNat)
  case atStart => exact ⟨[], 0, 0, rfl, rfl, CutRel.start s, ⟨World.ownsRow_nil _ _ _ _, Below.refl _ _⟩⟩
  case round =>
    obtain ⟨out, last, k, rfl, rfl, hC, hW⟩ := hrel
    have hle := hC.out.le
    have hks := hC.out.hi
    have hol := hC.out.len
    by_cases hlt : k < s.size
    · have hix := index_byte s k hlt wr
      rw [bt_get hlt] at hix
      have hbl := bt_lt s k
      by_cases hb : bt s k = 124
      · have HC := hide (hC.out.hit hlt hb)
        rw [hb] at hix
        have hrow := hW.out.own
        have hbw := hW.out.below
        have hbs := hbw.size
        have HW := hide hW.out
        have HOL : Hid ((sVals out).length = out.length) := List.length_map _
        obtain ⟨vp, vc, rfl⟩ := owns_slice hrow
        generalize hL : out.length = L at *
        replace hL := hide hL
        clear hb hbl hC hW HOL
        go_wp2_with (at_builtin; refine wpList_append_own _ rfl _ _ 42 rfl w.heap.size 9 i0 (.string ByteArray.empty) 1 16 Tryz.underlying42 hi hz0 hz1 hz2 rfl (by decide) _ _ _ rfl (hrow.alloc _) ⟨wr.heap.size, 0, none⟩ 1 1 [.string (s.extract last k)] rfl rfl ?c1 ?c2 ?c3 ?c4 ?c5 ?_)
        case c1 => exact cell_one_new _ _ _
        case c2 => intro u hu; simp at hu; subst hu; rfl
        case c3 => unfold maxLen; omega
        case c4 => omega
        case c5 => simp; omega
        intro v' w5 hown5 hgrow _
        have HW5 : Hid (CutW w w5 s v' (out ++ [s.extract last k])) := by
          refine ⟨?_, ?_⟩
          · rw [List.length_append, hL.out, sVals, List.map_append]; exact hown5
          · exact (hbw.alloc hbs _).grown hgrow (by simp; omega) (fun g hg => (hrow.lt g hg).1)
        clear hown5 hgrow hrow HW
        go_wp2
        go_roundw
        case rel =>
          have hfin : ∃ (out : List ByteArray) (last k' : Nat), Value.int .i64 ((k : Int) + 1) = .int .i64 last ∧ Value.int .i64 ((k : Int) + 1) = .int .i64 k' ∧ Hid (CutRel s out last k') ∧ Hid (CutW w w5 s v' out) := ⟨_, k + 1, k + 1, by go_num, by go_num, HC, HW5⟩
          first
            | exact hfin
            | ((repeat apply Exists.intro); exact ⟨hfin, rfl⟩)
        case measure => simp [intOf]; omega
      · have HC := hide (hC.out.go hlt hb)
        have hne : (((bt s k : Nat) : Int) == 124) = false := beq_eq_false_iff_ne.2 (by omega)
        clear hC hb
        generalize bt s k = bk at *
        go_wp2
        go_roundw
        case rel => exact ⟨out, last, k + 1, rfl, by go_num, HC, hW⟩
        case measure => simp [intOf]; omega
    · obtain rfl : k = s.size := by omega
      have HD := hide hC.out.done
      have hrow := hW.out.own
      have hbw := hW.out.below
      have hbs := hbw.size
      have HOL : Hid ((sVals out).length = out.length) := List.length_map _
      obtain ⟨vp, vc, rfl⟩ := owns_slice hrow
      generalize hL : out.length = L at *
      replace hL := hide hL
      clear hC hW HOL
      go_wp2_with (at_builtin; refine wpList_append_own _ rfl _ _ 42 rfl w.heap.size 9 i0 (.string ByteArray.empty) 1 16 Tryz.underlying42 hi hz0 hz1 hz2 rfl (by decide) _ _ _ rfl (hrow.alloc _) ⟨wr.heap.size, 0, none⟩ 1 1 [.string (s.extract last s.size)] rfl rfl ?d1 ?d2 ?d3 ?d4 ?d5 ?_)
      case d1 => exact cell_one_new _ _ _
      case d2 => intro u hu; simp at hu; subst hu; rfl
      case d3 => unfold maxLen; omega
      case d4 => omega
      case d5 => simp; omega
      intro v' w5 hown5 hgrow _
      have HF : Hid (w5.ownsRow w.heap.size 9 1 v' (cutB s).length (sVals (cutB s)) ∧ Below w.heap.size w w5) := by
        refine ⟨?_, ?_⟩
        · rw [HD.out, List.length_append, hL.out, sVals, List.map_append]; exact hown5
        · exact (hbw.alloc hbs _).grown hgrow (by simp; omega) (fun g hg => (hrow.lt g hg).1)
      clear hown5 hgrow hrow HD
      go_wp2
      go_ret
      exact ⟨_, rfl, HF.out.1, HF.out.2⟩

end Go.Proofs.YtffnfchekbafmaaGreatDoor
