/- Joined: BrB, RefC, RefD, RefE, RefF, Til, I6, Chng, ChRow, ChMay, PSa, Mat, IAl, SbE, MMay, Meth, MdB, TtE, Sgn, TtG, TtJ, PickB, Pick, Raw, TtC, TtK, MdC, MdD. -/
import Derived.Test.YtffnfchekbafmaaGreatDoorJ5
import Derived.Test.YtffnfchekbafmaaGreatDoorJ2
import Derived.Deep.RegionLaw
import Derived.Deep.RegionWith
import Derived.Deep.Matrix
import Derived.OpenShut
import Derived.BigQuiet
import Derived.Test.YtffnfchekbafmaaGreatDoorJ0
import Derived.Deep.RegionHeld3
import Derived.Deep.QuietTactic
import Derived.Deep.CutRange
/- Contract: the answer's cutAt, at each byte of whichever kind. -/
namespace Go.Proofs.YtffnfchekbafmaaGreatDoor
open Go.RowKit
set_option maxRecDepth 20000
set_option linter.unusedVariables false

/-- How far a text is cut: the pieces so far, where the next one begins, no cut in it yet. -/
structure CutGR (c : UInt8) (s : ByteArray) (out : List ByteArray) (last i : Nat) : Prop where
  le : last ≤ i
  hi : i ≤ s.size
  eq : cutT c s = out ++ (cutG c (s.data.toList.drop last)).map (fun l => ⟨l.toArray⟩)
  no : ∀ x ∈ (s.data.toList.drop last).take (i - last), x ≠ c
  len : out.length ≤ last

theorem CutGR.start (c : UInt8) (s : ByteArray) : CutGR c s [] 0 0 := ⟨Nat.le_refl _, Nat.zero_le _, by simp [cutT], fun x hx => by simp at hx, Nat.le_refl _⟩

theorem CutGR.go {c : UInt8} {s : ByteArray} {out : List ByteArray} {last i : Nat} (h : CutGR c s out last i) (hi : i < s.size) (hb : bt s i ≠ c.toNat) : CutGR c s out last (i + 1) := by
  obtain ⟨b, hbb, hbt⟩ := bt_list s hi
  refine ⟨by have := h.le; omega, hi, h.eq, fun x hx => ?_, h.len⟩
  rw [show i + 1 - last = (i - last) + 1 from by have := h.le; omega, List.take_add_one] at hx
  rcases List.mem_append.1 hx with hx | hx
  · exact h.no x hx
  · rw [List.getElem?_drop, show last + (i - last) = i from by have := h.le; omega, hbb] at hx
    simp at hx
    subst hx
    intro e
    rw [e] at hbt
    exact hb hbt.symm

theorem CutGR.hit {c : UInt8} {s : ByteArray} {out : List ByteArray} {last i : Nat} (h : CutGR c s out last i) (hi : i < s.size) (hb : bt s i = c.toNat) : CutGR c s (out ++ [s.extract last i]) (i + 1) (i + 1) := by
  obtain ⟨b, hbb, hbt⟩ := bt_list s hi
  have hle := h.le
  refine ⟨Nat.le_refl _, hi, ?_, fun x hx => by simp at hx, by rw [List.length_append]; have := h.len; simp; omega⟩
  have e : s.data.toList.drop last = (s.data.toList.drop last).take (i - last) ++ c :: s.data.toList.drop (i + 1) := by
    have h1 := (List.take_append_drop (i - last) (s.data.toList.drop last)).symm
    rw [List.drop_drop, show last + (i - last) = i from by omega] at h1
    have hl : i < s.data.toList.length := by rw [Array.length_toList]; exact hi
    rw [List.drop_eq_getElem_cons hl] at h1
    rw [List.getElem?_eq_getElem hl] at hbb
    have hb1 : s.data.toList[i] = c := by
      have := Option.some.inj hbb
      rw [this]
      exact UInt8.toNat_inj.1 (by rw [hbt, hb])
    rw [hb1] at h1
    exact h1
  rw [h.eq, e, cutG_hit c _ _ h.no, ext_list s last i hle (by omega), List.map_cons, List.append_assoc]
  rfl

theorem CutGR.done {c : UInt8} {s : ByteArray} {out : List ByteArray} {last : Nat} (h : CutGR c s out last s.size) : cutT c s = out ++ [s.extract last s.size] := by
  have hle := h.le
  have e : (s.data.toList.drop last).take (s.size - last) = s.data.toList.drop last := List.take_of_length_le (by rw [List.length_drop, Array.length_toList]; exact Nat.le_refl _)
  have hno := h.no
  rw [e] at hno
  rw [h.eq, cutG_miss c _ hno, ext_list s last s.size hle (Nat.le_refl _), e]
  rfl

structure CutGW (w wr : World) (s : ByteArray) (v : Value) (out : List ByteArray) : Prop where
  own : wr.ownsRow w.heap.size 9 1 v out.length (sVals out)
  below : Below w.heap.size w wr

set_option maxHeartbeats 4000000 in
theorem cutG_any (c : UInt8) (s : ByteArray) (w : World) (hs : s.size ≤ 1048576) :
    Calls Tryz.prog 22 #[.string s, .int .u8 (c.toNat : Int)] w fun e w' => ∃ v, e = .returned v ∧ w'.ownsRow w.heap.size 9 1 v (cutT c s).length (sVals (cutT c s)) ∧ Below w.heap.size w w' := by
  obtain ⟨i0, hi, hz0, hz1, hz2⟩ := info_parts infoStr
  go_enter Tryz.func22, Tryz.ntmps22
  go_wp2
  go_loopw [5, 6, 7] (fun v l i wr => ∃ (out : List ByteArray) (last k : Nat), l = .int .i64 last ∧ i = .int .i64 k ∧ Hid (CutGR c s out last k) ∧ Hid (CutGW w wr s v out)) (fun _ _ i _ => s.size - (intOf i).toNat)
  case atStart => exact ⟨[], 0, 0, rfl, rfl, CutGR.start c s, ⟨World.ownsRow_nil _ _ _ _, Below.refl _ _⟩⟩
  case round =>
    obtain ⟨out, last, k, rfl, rfl, hC, hW⟩ := hrel
    have hle := hC.out.le
    have hks := hC.out.hi
    have hol := hC.out.len
    by_cases hlt : k < s.size
    · have hix := index_byte s k hlt wr
      rw [bt_get hlt] at hix
      have hbl := bt_lt s k
      by_cases hb : bt s k = c.toNat
      · have HC := hide (hC.out.hit hlt hb)
        rw [hb] at hix
        have hrow := hW.out.own
        have hbw := hW.out.below
        have hbs := hbw.size
        have HW := hide hW.out
        have HOL : Hid ((sVals out).length = out.length) := List.length_map _
        obtain ⟨vp, vc, rfl⟩ := owns_slice hrow
        generalize hL : out.length = L at *
        replace hL := hide hL
        clear hb hbl hC hW HOL
        go_wp2_with (at_builtin; refine wpList_append_own _ rfl _ _ 42 rfl w.heap.size 9 i0 (.string ByteArray.empty) 1 16 Tryz.underlying42 hi hz0 hz1 hz2 rfl (by decide) _ _ _ rfl (hrow.alloc _) ⟨wr.heap.size, 0, none⟩ 1 1 [.string (s.extract last k)] rfl rfl ?c1 ?c2 ?c3 ?c4 ?c5 ?_)
        case c1 => exact cell_one_new _ _ _
        case c2 => intro u hu; simp at hu; subst hu; rfl
        case c3 => unfold maxLen; omega
        case c4 => omega
        case c5 => simp; omega
        intro v' w5 hown5 hgrow _
        have HW5 : Hid (CutGW w w5 s v' (out ++ [s.extract last k])) := by
          refine ⟨?_, ?_⟩
          · rw [List.length_append, hL.out, sVals, List.map_append]; exact hown5
          · exact (hbw.alloc hbs _).grown hgrow (by simp; omega) (fun g hg => (hrow.lt g hg).1)
        clear hown5 hgrow hrow HW
        go_wp2
        go_roundw
        case rel =>
          have hfin : ∃ (out : List ByteArray) (last k' : Nat), Value.int .i64 ((k : Int) + 1) = .int .i64 last ∧ Value.int .i64 ((k : Int) + 1) = .int .i64 k' ∧ Hid (CutGR c s out last k') ∧ Hid (CutGW w w5 s v' out) := ⟨_, k + 1, k + 1, by go_num, by go_num, HC, HW5⟩
          first
            | exact hfin
            | ((repeat apply Exists.intro); exact ⟨hfin, rfl⟩)
        case measure => simp [intOf]; omega
      · have HC := hide (hC.out.go hlt hb)
        have hne : (((bt s k : Nat) : Int) == (c.toNat : Int)) = false := beq_eq_false_iff_ne.2 (by omega)
        clear hC hb
        generalize bt s k = bk at *
        go_wp2
        go_roundw
        case rel => exact ⟨out, last, k + 1, rfl, by go_num, HC, hW⟩
        case measure => simp [intOf]; omega
    · obtain rfl : k = s.size := by omega
      have HD := hide hC.out.done
      have hrow := hW.out.own
      have hbw := hW.out.below
      have hbs := hbw.size
      have HOL : Hid ((sVals out).length = out.length) := List.length_map _
      obtain ⟨vp, vc, rfl⟩ := owns_slice hrow
      generalize hL : out.length = L at *
      replace hL := hide hL
      clear hC hW HOL
      go_wp2_with (at_builtin; refine wpList_append_own _ rfl _ _ 42 rfl w.heap.size 9 i0 (.string ByteArray.empty) 1 16 Tryz.underlying42 hi hz0 hz1 hz2 rfl (by decide) _ _ _ rfl (hrow.alloc _) ⟨wr.heap.size, 0, none⟩ 1 1 [.string (s.extract last s.size)] rfl rfl ?d1 ?d2 ?d3 ?d4 ?d5 ?_)
      case d1 => exact cell_one_new _ _ _
      case d2 => intro u hu; simp at hu; subst hu; rfl
      case d3 => unfold maxLen; omega
      case d4 => omega
      case d5 => simp; omega
      intro v' w5 hown5 hgrow _
      have HF : Hid (w5.ownsRow w.heap.size 9 1 v' (cutT c s).length (sVals (cutT c s)) ∧ Below w.heap.size w w5) := by
        refine ⟨?_, ?_⟩
        · rw [HD.out, List.length_append, hL.out, sVals, List.map_append]; exact hown5
        · exact (hbw.alloc hbs _).grown hgrow (by simp; omega) (fun g hg => (hrow.lt g hg).1)
      clear hown5 hgrow hrow HD
      go_wp2
      go_ret
      exact ⟨_, rfl, HF.out.1, HF.out.2⟩

end Go.Proofs.YtffnfchekbafmaaGreatDoor

/- Contracts of the answer's functions: Rank, At. -/
namespace Go.Proofs.YtffnfchekbafmaaGreatDoor
open Go.RowKit
set_option maxRecDepth 20000

theorem cnt_append (x : Int) (l m : List Int) : cnt x (l ++ m) = cnt x l + cnt x m := by
  unfold cnt; rw [List.filter_append, List.length_append]

theorem cnt_rnd {n m : Nat} (h : m ≤ n) : cnt (m : Int) (rnd n) = m := by
  induction n with
  | zero => have : m = 0 := by omega
            subst this; rfl
  | succ n ih =>
    rw [rnd_snoc, cnt_append]
    by_cases e : m ≤ n
    · rw [ih e, show cnt (m : Int) [(n : Int)] = 0 from by unfold cnt; rw [List.filter_eq_nil_iff.2 (fun y hy => by have := List.mem_singleton.1 hy; subst this; simp; omega)]; rfl]; rfl
    · have e2 : m = n + 1 := by omega
      subst e2
      have h1 : cnt ((n + 1 : Nat) : Int) (rnd n) = n := by
        unfold cnt
        rw [List.filter_eq_self.2 (fun y hy => by
          obtain ⟨i, hi, rfl⟩ := List.mem_map.1 hy
          have := List.mem_range.1 hi
          simp; omega), rnd_length]
      have h2 : cnt ((n + 1 : Nat) : Int) [(n : Int)] = 1 := by
        unfold cnt
        rw [List.filter_eq_self.2 (fun y hy => by have := List.mem_singleton.1 hy; subst this; simp; omega)]; rfl
      rw [h1, h2]

theorem row_perm_rnd {a : List Int} (h : isRow a) : a.Perm (rnd a.length) :=
  perm_of_sub a (rnd a.length) h.2 (fun x hx => by have := h.1 x hx; exact List.mem_map.2 ⟨x.toNat, List.mem_range.2 (by omega), by omega⟩) (rnd_length _).symm

/-- Of a row: the lower ones ahead of a place, and behind it. -/
theorem cnt_split {a : List Int} (h : isRow a) {i m : Nat} (hi : i < a.length) (hm : a[i]?.getD 0 = (m : Int)) : cnt (m : Int) (a.take i) + cnt (m : Int) (a.drop (i + 1)) = m := by
  have hml : m < a.length := by
    have := h.at hi
    rw [show a.getD i 0 = (m : Int) from hm] at this
    omega
  have h1 : cnt (m : Int) a = m := by rw [cnt_perm (row_perm_rnd h), cnt_rnd (by omega)]
  have e : a = a.take i ++ ((m : Int) :: a.drop (i + 1)) := by
    have e2 : a[i] = (m : Int) := by rw [← hm]; simp [List.getElem?_eq_getElem hi]
    rw [← e2, ← List.drop_eq_getElem_cons hi, List.take_append_drop]
  rw [e, cnt_append] at h1
  have h2 : cnt (m : Int) ((m : Int) :: a.drop (i + 1)) = cnt (m : Int) (a.drop (i + 1)) := by
    unfold cnt; rw [List.filter_cons_of_neg (by simp)]
  rw [h2] at h1
  exact h1

theorem rankR_drop {a : List Int} {i m : Nat} (hi : i < a.length) (hm : a[i]?.getD 0 = (m : Int)) : rankR (a.drop i) = cnt (m : Int) (a.drop (i + 1)) * fct (a.length - 1 - i) + rankR (a.drop (i + 1)) := by
  have e2 : a[i] = (m : Int) := by rw [← hm]; simp [List.getElem?_eq_getElem hi]
  rw [List.drop_eq_getElem_cons hi, e2]
  show cnt (m : Int) (a.drop (i + 1)) * fct (a.drop (i + 1)).length + rankR (a.drop (i + 1)) = _
  rw [List.length_drop, show a.length - (i + 1) = a.length - 1 - i from by omega]

theorem rankR_le (a : List Int) (h : a.length ≤ 12) : rankR a ≤ 479001600 := by
  rw [← rkTo_all]; exact rkTo_le a a.length (Nat.le_refl _) h

/-- 'append' to a row of the call's own, as one step of a region that draws. -/
theorem step_append_own {P : Program} {ops : Array Oper} {o : Oper} {a : Act} {w : World} {K : Act → World → Prop} {Q : Exit → Act → World → Prop} {E : Prop} (hg : o.guard = none) (s x : Operand) (t : TypeId)
    (ho : o.op = .call { callee := .builtin .append, args := #[s, x], argTypes := #[t, t] })
    (base : Nat) (e : TypeId) (i : TypeInfo) (z : Value) (size bytes : Nat) (ht : P.underlying t = some (.slice e)) (hi : P.info? e = some i) (hz : i.zero = some z)
    (hsize : i.size = size) (hby : i.bytes = bytes) (hzs : z.cells.size = size) (hsz : 0 < size)
    (v : Value) (n : Nat) (xs : List Value) (hs : a.eval s = v) (hown : w.ownsRow base e size v n xs)
    (ad : Addr) (m c : Nat) (news : List Value) (hx : a.eval x = .slice (some ad) m c) (hl : news.length = m * size) (hnews : ∀ j u, news[j]? = some u → w.cell? (ad.add j) = some u) (h1 : ∀ u ∈ news, u.oneCell' = true)
    (h63 : n + m ≤ maxLen) (hbytes : (n + m) * bytes ≤ 140737488355328) (hbase : base ≤ w.heap.size)
    (h : ∀ v' w', w'.ownsRow base e size v' (n + m) (xs ++ news) → w.grownBy w' v.ownBlock → K (a.put o.dst v') w') :
    if Region.wanted o (yielded ops a.tmps) = true then Oper.wp P o a w K Q else E := by
  have hw : Region.wanted o (yielded ops a.tmps) = true := by simp [Region.wanted, hg]
  rw [if_pos hw]
  exact wp_append_own w s x t ho base e i z size bytes ht hi hz hsize hby hzs hsz v n xs hs hown ad m c news hx hl hnews h1 h63 hbytes hbase (fun v' w' h2 h3 _ => h v' w' h2 h3)

theorem own_at {w : World} {base e g n cap : Nat} {xs : List Value} (h : w.ownsRow base e 1 (.slice (some ⟨g, 0, none⟩) n cap) n xs) (w4 : World) (hw : w4.heap[g]? = w.heap[g]?) {j : Nat} {u : Value} (hu : xs[j]? = some u) : w4.cell? ⟨g, j, none⟩ = some u := by
  have h1 := h.cells (g := g) rfl j u hu
  rw [Addr.add_lit, Nat.zero_add] at h1
  rw [World.cell?_of_block (w := w) (a := ⟨g, j, none⟩) hw]
  exact h1

theorem own_ne {u v : Option Nat} {B : Nat} (hu : ∀ k, u = some k → k < B) (hv : ∀ k, v = some k → B ≤ k) : u = none ∨ u ≠ v := by
  cases u with
  | none => exact Or.inl rfl
  | some k =>
    refine Or.inr (fun e => ?_)
    have h1 := hu k rfl
    have h2 := hv k e.symm
    omega

theorem first_at {w : World} {base g n cap q : Nat} {L : List Int} (h : w.ownsRow base 3 1 (.slice (some ⟨g, 0, none⟩) n cap) n (L.map (Value.int .i64))) (w4 : World) (hw : w4.heap[g]? = w.heap[g]?) :
    ∀ j u, ((L.take q).map (Value.int .i64))[j]? = some u → w4.cell? ((⟨g, 0, none⟩ : Addr).add j) = some u := by
  intro j u hu
  rw [Addr.add_lit, Nat.zero_add]
  refine own_at h w4 hw ?_
  rw [List.map_take, List.getElem?_take] at hu
  split at hu
  · exact hu
  · cases hu

theorem rest_at {w : World} {base g n cap q : Nat} {L : List Int} (h : w.ownsRow base 3 1 (.slice (some ⟨g, 0, none⟩) n cap) n (L.map (Value.int .i64))) (hl : L.length = n) (hc : n ≤ cap) :
    ∃ A : Addr, (if cap = q + 1 then some (⟨g, 0, none⟩ : Addr) else some ⟨g, q + 1, none⟩) = some A ∧ Hid (∀ j u, ((L.drop (q + 1)).map (Value.int .i64))[j]? = some u → ∀ w4 : World, w4.heap[g]? = w.heap[g]? → w4.cell? (A.add j) = some u) := by
  by_cases e : cap = q + 1
  · refine ⟨⟨g, 0, none⟩, by simp [e], fun j u hu w4 _ => ?_⟩
    rw [List.drop_eq_nil_of_le (by omega)] at hu
    simp at hu
  · refine ⟨⟨g, q + 1, none⟩, by simp [e], fun j u hu w4 hw => ?_⟩
    rw [Addr.add_lit]
    refine own_at h w4 hw ?_
    rw [List.map_drop, List.getElem?_drop] at hu
    exact hu

end Go.Proofs.YtffnfchekbafmaaGreatDoor

/- Contracts of the answer's functions: SameAll, Cycles. -/
namespace Go.Proofs.YtffnfchekbafmaaGreatDoor
open Go.RowKit
set_option maxRecDepth 20000

/-- The slice value v holds these values. -/
def Vals (w : World) (v : Value) (vs : List Value) : Prop :=
  (vs = [] ∧ ∃ p c, v = .slice p 0 c) ∨
  ∃ b off cap, v = .slice (some ⟨b, off, none⟩) vs.length cap ∧ 0 < vs.length ∧ vs.length ≤ cap ∧ cap ≤ 9223372036854775807 ∧ b < w.heap.size ∧
    ∀ j, j < vs.length → w.cell? ⟨b, off + j, none⟩ = some (vs.getD j undef)

/-- The slice value v reads as a list of lists. -/
def IntsAll (w : World) (v : Value) (xss : List (List Int)) : Prop :=
  ∃ vs, Vals w v vs ∧ vs.length = xss.length ∧ ∀ j, j < xss.length → Ints w (vs.getD j undef) (xss.getD j [])

theorem Vals.below {w w' : World} {v : Value} {vs : List Value} (h : Vals w v vs) (hb : Below w.heap.size w w') : Vals w' v vs := by
  rcases h with h | ⟨b, off, cap, h1, h2, h3, h4, h5, h6⟩
  · exact Or.inl h
  · refine Or.inr ⟨b, off, cap, h1, h2, h3, h4, Nat.lt_of_lt_of_le h5 hb.size, fun j hj => ?_⟩
    rw [hb.cell (p := ⟨b, off + j, none⟩) h5]
    exact h6 j hj

theorem IntsAll.below {w w' : World} {v : Value} {xss : List (List Int)} (h : IntsAll w v xss) (hb : Below w.heap.size w w') : IntsAll w' v xss := by
  obtain ⟨vs, h1, h2, h3⟩ := h
  exact ⟨vs, h1.below hb, h2, fun j hj => (h3 j hj).below hb⟩

theorem Vals.form {w : World} {v : Value} {vs : List Value} (h : Vals w v vs) : ∃ p cap, v = .slice p vs.length cap := by
  rcases h with ⟨rfl, p, c, rfl⟩ | ⟨b, off, cap, h1, _⟩
  · exact ⟨p, c, rfl⟩
  · exact ⟨_, cap, h1⟩

theorem Vals.own {w : World} {base e : Nat} {v : Value} {vs : List Value} (h : w.ownsRow base e 1 v vs.length vs) : Vals w v vs := by
  rcases h.2 with ⟨rfl, h0⟩ | ⟨g, cap, cur, hv, _, hh, hn, hm, hs, ht⟩
  · exact Or.inl ⟨List.length_eq_zero_iff.1 h0, none, 0, rfl⟩
  · rcases Nat.eq_zero_or_pos vs.length with h0 | h0
    · exact Or.inl ⟨List.length_eq_zero_iff.1 h0, _, cap, by rw [hv, h0]⟩
    · refine Or.inr ⟨g, 0, cap, hv, h0, hn, by unfold maxLen at hm; omega, (Array.getElem?_eq_some_iff.1 hh).1, fun j hj => ?_⟩
      rw [Nat.zero_add]
      rw [hv] at h
      exact owns_val h hj

theorem IntsAll.own {w : World} {base e : Nat} {v : Value} {vs : List Value} {xss : List (List Int)} (h : w.ownsRow base e 1 v vs.length vs) (ha : OwnAll w base vs xss) : IntsAll w v xss :=
  ⟨vs, Vals.own h, OwnAll.length ha, fun j hj => Ints.own (ownAll_at ha (by rw [OwnAll.length ha]; exact hj))⟩

theorem takes_eq_snoc {xs ys : List (List Int)} {k : Nat} (h : xs.take k = ys.take k) (hx : k < xs.length) (hy : k < ys.length) (e : xs.getD k [] = ys.getD k []) : xs.take (k + 1) = ys.take (k + 1) := by
  rw [List.take_succ_eq_append_getElem hx, List.take_succ_eq_append_getElem hy, h]
  simp only [List.getD, List.getElem?_eq_getElem hx, List.getElem?_eq_getElem hy, Option.getD_some] at e
  rw [e]

theorem elAt {w : World} {b off k : Nat} {vs : List Value} (hcell : ∀ j, j < vs.length → w.cell? ⟨b, off + j, none⟩ = some (vs.getD j undef)) (h : k < vs.length) {X : List Int} (hi : Ints w (vs.getD k undef) X) :
    ∃ p c, w.cell? ⟨b, off + k, none⟩ = some (.slice p X.length c) ∧ Hid (Ints w (.slice p X.length c) X) := by
  obtain ⟨p, c, e⟩ := hi.form
  refine ⟨p, c, by rw [hcell k h, e], ?_⟩
  rw [← e]; exact hi

end Go.Proofs.YtffnfchekbafmaaGreatDoor

/- Contract of the answer's Cycles. -/
namespace Go.Proofs.YtffnfchekbafmaaGreatDoor
open Go.RowKit
set_option maxRecDepth 20000

/-- Is x the least of the first k bells of its cycle? -/
def lst (a : List Int) (x : Nat) : Nat → Bool
  | 0 => true
  | 1 => true
  | k + 2 => lst a x (k + 1) && decide (x < it a (k + 1) x)

theorem lst_succ {a : List Int} {x k : Nat} (h : 1 ≤ k) : lst a x (k + 1) = (lst a x k && decide (x < it a k x)) := by
  match k, h with
  | k + 1, _ => rfl

theorem lst_true {a : List Int} {x k : Nat} : lst a x k = true ↔ ∀ i, 1 ≤ i → i < k → x < it a i x := by
  induction k with
  | zero => exact ⟨fun _ i h1 h2 => by omega, fun _ => rfl⟩
  | succ k ih =>
    by_cases hk : 1 ≤ k
    · rw [lst_succ hk, Bool.and_eq_true, ih, decide_eq_true_iff]
      constructor
      · rintro ⟨h1, h2⟩ i hi hik
        by_cases e : i = k
        · subst e; exact h2
        · exact h1 i hi (by omega)
      · intro h
        exact ⟨fun i hi hik => h i hi (by omega), h k hk (by omega)⟩
    · have e : k = 0 := by omega
      subst e
      exact ⟨fun _ i h1 h2 => by omega, fun _ => rfl⟩

theorem flat_backs {r : List Int} (hr : isRow r) {k x : Nat} (hk : k ≤ r.length) (hx : x < r.length) (i : Nat) (h : ((it r i x : Nat) : Int) ∈ (cycsTo r k).flatten) : (x : Int) ∈ (cycsTo r k).flatten := by
  induction i with
  | zero => exact h
  | succ i ih => exact ih (flat_back hr hk (it_lt hr hx i) h)

theorem lst_flat {a : List Int} (hr : isRow a) {x : Nat} (hx : x < a.length) : lst a x (per a x) = true ↔ ¬ (x : Int) ∈ (cycsTo a x).flatten := by
  rw [lst_true]
  constructor
  · intro h hm
    obtain ⟨c, hc, hm⟩ := List.mem_flatten.1 hm
    obtain ⟨y, hy, rfl⟩ := cyc_form hc
    obtain ⟨i, hi, e⟩ := mem_orb.1 hm
    have e' : x = it a i y := by omega
    obtain ⟨_, _, p3, _⟩ := per_spec hr (show y < a.length by omega)
    obtain ⟨q1, _, q3, _⟩ := per_spec hr hx
    have hj : it a (per a y - i) x = y := by rw [e', ← it_add, show per a y - i + i = per a y from by omega, p3]
    -- y is one of the bells of x's own cycle
    have hmod : ∀ n, it a n x = it a (n % per a x) x := by
      intro n
      have key : ∀ d, it a (per a x * d) x = x := by
        intro d
        induction d with
        | zero => rfl
        | succ d ih => rw [Nat.mul_succ, it_add, q3, ih]
      have : n = n % per a x + per a x * (n / per a x) := by rw [Nat.mod_add_div]
      rw [this, it_add, key, Nat.add_mul_mod_self_left, Nat.mod_mod]
    rw [hmod] at hj
    have hlt := Nat.mod_lt (per a y - i) q1
    by_cases h0 : (per a y - i) % per a x = 0
    · rw [h0] at hj
      have : x = y := hj
      omega
    · have := h _ (by omega) hlt
      omega
  · intro hn i h1 h2
    rcases Nat.lt_trichotomy x (it a i x) with h | h | h
    · exact h
    · exact absurd h.symm ((per_spec hr hx).2.2.2 i h1 h2)
    · exact absurd (flat_backs hr (by omega) hx i (flat_all hr x (by omega) (it a i x) h)) hn

theorem owns_len1 {w : World} {base e n : Nat} {v : Value} {xs : List Value} (h : w.ownsRow base e 1 v n xs) (hn : 1 ≤ n) : ∃ g cap, v = .slice (some ⟨g, 0, none⟩) n cap := by
  obtain ⟨g, cap, e, _⟩ := owns_form h hn
  exact ⟨g, cap, e⟩

end Go.Proofs.YtffnfchekbafmaaGreatDoor

/- Contract of the answer's Order; the least common multiple of the cycles is the order. -/
namespace Go.Proofs.YtffnfchekbafmaaGreatDoor
open Go.RowKit
set_option maxRecDepth 20000

theorem it_succ' (r : List Int) (n x : Nat) : it r (n + 1) x = it r n (nx r x) := it_add r n 1 x

/-- The row, taken n times. -/
def pw (r : List Int) (n : Nat) : List Int := (List.range r.length).map (fun i => ((it r n i : Nat) : Int))

theorem pw_length (r : List Int) (n : Nat) : (pw r n).length = r.length := by simp [pw]

theorem pw_get {r : List Int} {n i : Nat} (h : i < r.length) : (pw r n).getD i 0 = ((it r n i : Nat) : Int) := by simp [pw, List.getD, h]

theorem pw_one {r : List Int} (hr : isRow r) : pw r 1 = r := by
  refine ext_getD (pw_length r 1) (fun i hi => ?_)
  rw [pw_length] at hi
  rw [pw_get hi]
  have := hr.at hi
  show ((nx r i : Nat) : Int) = _
  unfold nx; omega

theorem pw_succ {r : List Int} (hr : isRow r) (n : Nat) : by_ (pw r n) r = pw r (n + 1) := by
  refine ext_getD (by rw [by_length, pw_length]) (fun i hi => ?_)
  rw [by_length] at hi
  rw [by_get hi, pw_get hi]
  show (pw r n).getD (nx r i) 0 = _
  rw [pw_get (nx_lt hr hi), it_succ']

theorem isRow_pw {r : List Int} (hr : isRow r) (n : Nat) : isRow (pw r n) := by
  constructor
  · intro y hy
    obtain ⟨i, hi, rfl⟩ := List.mem_map.1 hy
    have := it_lt hr (List.mem_range.1 hi) n
    rw [pw_length]; omega
  · rw [List.nodup_iff_pairwise_ne]
    unfold pw
    rw [List.pairwise_map]
    refine List.Pairwise.imp_of_mem ?_ (List.pairwise_lt_range (n := r.length))
    intro i j hi hj hij e
    have := it_inj hr (List.mem_range.1 hi) (List.mem_range.1 hj) n (by omega)
    omega

theorem pw_rnd {r : List Int} {n : Nat} : pw r n = rnd r.length ↔ ∀ x, x < r.length → it r n x = x := by
  constructor
  · intro h x hx
    have h1 := pw_get (r := r) (n := n) hx
    rw [h, rnd_get hx] at h1
    omega
  · intro h
    exact eq_rnd (pw_length r n) (fun j hj => by rw [pw_get hj, h j hj])

theorem it_mul {r : List Int} {x p : Nat} (h : it r p x = x) (d : Nat) : it r (p * d) x = x := by
  induction d with
  | zero => rfl
  | succ d ih => rw [Nat.mul_succ, it_add, h, ih]

theorem per_dvd {r : List Int} (hr : isRow r) {x n : Nat} (hx : x < r.length) : it r n x = x ↔ per r x ∣ n := by
  obtain ⟨q1, _, q3, q4⟩ := per_spec hr hx
  constructor
  · intro h
    have e : n = n % per r x + per r x * (n / per r x) := by rw [Nat.mod_add_div]
    rw [e, it_add, it_mul q3] at h
    have hlt := Nat.mod_lt n q1
    by_cases h0 : n % per r x = 0
    · exact Nat.dvd_of_mod_eq_zero h0
    · exact absurd h (q4 _ (by omega) hlt)
  · rintro ⟨d, rfl⟩
    exact it_mul q3 d

theorem ordTo_dvd (xss : List (List Int)) (n j : Nat) (hj : j ≤ xss.length) : ordTo xss j ∣ n ↔ ∀ i, i < j → (xss.getD i []).length ∣ n := by
  induction j with
  | zero => exact ⟨fun _ i h => by omega, fun _ => Nat.one_dvd n⟩
  | succ j ih =>
    show Nat.lcm (ordTo xss j) (xss.getD j []).length ∣ n ↔ _
    rw [Nat.lcm_dvd_iff, ih (by omega)]
    constructor
    · rintro ⟨h1, h2⟩ i hi
      by_cases e : i = j
      · subst e; exact h2
      · exact h1 i (by omega)
    · intro h
      exact ⟨fun i hi => h i (by omega), h j (by omega)⟩

/-- How often the row must be taken, by its cycles. -/
def ord (r : List Int) : Nat := ordTo (cycsTo r r.length) (cycsTo r r.length).length

theorem ord_pw {r : List Int} (hr : isRow r) (n : Nat) : pw r n = rnd r.length ↔ ord r ∣ n := by
  rw [pw_rnd]
  unfold ord
  rw [ordTo_dvd _ _ _ (Nat.le_refl _)]
  constructor
  · intro h i hi
    have hc : (cycsTo r r.length).getD i [] ∈ cycsTo r r.length := by
      rw [show (cycsTo r r.length).getD i [] = (cycsTo r r.length)[i] from by simp [List.getD, List.getElem?_eq_getElem hi]]
      exact List.getElem_mem hi
    obtain ⟨y, hy, e⟩ := cyc_form hc
    rw [e, orb_length]
    exact (per_dvd hr hy).1 (h y hy)
  · intro h x hx
    obtain ⟨c, hc, hm⟩ := List.mem_flatten.1 (flat_all hr r.length (Nat.le_refl _) x hx)
    obtain ⟨i, hi, e⟩ := List.getElem_of_mem hc
    have hd := h i hi
    rw [show (cycsTo r r.length).getD i [] = c from by simp [List.getD, List.getElem?_eq_getElem hi, e]] at hd
    obtain ⟨y, hy, rfl⟩ := cyc_form hc
    rw [orb_length] at hd
    obtain ⟨j, _, e2⟩ := mem_orb.1 hm
    have e3 : x = it r j y := by omega
    rw [e3, ← it_add, Nat.add_comm, it_add, (per_dvd hr hy).2 hd]

theorem ord_pos {r : List Int} (hr : isRow r) (h12 : r.length ≤ 12) : 1 ≤ ord r ∧ ord r ≤ 1000000000000000 := by
  have hall := cycsTo_len hr r.length (Nat.le_refl _)
  have hbd := ordTo_bound (xss := cycsTo r r.length) (fun x hx => by have := hall x hx; omega) (cycsTo r r.length).length (Nat.le_refl _)
  have hl := cycsTo_length r r.length
  have hpw : 12 ^ (cycsTo r r.length).length ≤ 12 ^ 12 := Nat.pow_le_pow_right (by decide) (by omega)
  have h3 : 12 ^ 12 ≤ 1000000000000000 := by decide
  exact ⟨hbd.1, by unfold ord; omega⟩

theorem dis_row {r : List Int} (hr : isRow r) {i j : Nat} (hi : i < r.length) (hj : j < i) : dis (nx r) i j = if r.getD i 0 < r.getD j 0 then 1 else 0 := by
  have h1 := hr.at hi
  have h2 := hr.at (show j < r.length by omega)
  unfold dis
  rw [decide_eq_false (by omega : ¬ i < j)]
  unfold nx
  by_cases h : r.getD i 0 < r.getD j 0
  · rw [if_pos h, decide_eq_true (by omega)]; rfl
  · rw [if_neg h, decide_eq_false (by omega)]; rfl

theorem S_le {n : Nat} {f : Nat → Nat} {c : Nat} (h : ∀ i, i < n → f i ≤ c) : S n f ≤ n * c := by
  induction n with
  | zero => exact Nat.zero_le _
  | succ n ih =>
    have h1 := ih (fun i hi => h i (by omega))
    have h2 := h n (by omega)
    show S n f + f n ≤ (n + 1) * c
    rw [Nat.add_mul, Nat.one_mul]; omega

theorem dis_le (p : Nat → Nat) (i j : Nat) : dis p i j ≤ 1 := by unfold dis ne; split <;> omega

theorem ret_io {o : Int} {a b : Bool} (h : a = b) : Ending.returned (.tuple #[.int .i64 o, .bool a]) = Ending.returned (.tuple #[.int .i64 o, .bool b]) := by rw [h]

end Go.Proofs.YtffnfchekbafmaaGreatDoor

/- Plain: changes as tilings of the places by single places and pairs; their rows undo themselves, and are odd as their pairs are. -/
namespace Go.Proofs.YtffnfchekbafmaaGreatDoor
open Go.RowKit

/-- How many places a tiling covers (the last tile first; true: a place that is made, false: a pair). -/
def tsz : List Bool → Nat
  | [] => 0
  | true :: t => tsz t + 1
  | false :: t => tsz t + 2

/-- The places that are made. -/
def tpl : List Bool → List Int
  | [] => []
  | true :: t => tpl t ++ [((tsz t + 1 : Nat) : Int)]
  | false :: t => tpl t

/-- The row. -/
def trow : List Bool → List Int
  | [] => []
  | true :: t => trow t ++ [((tsz t : Nat) : Int)]
  | false :: t => trow t ++ [((tsz t + 1 : Nat) : Int), ((tsz t : Nat) : Int)]

/-- How many pairs. -/
def tpr : List Bool → Nat
  | [] => 0
  | true :: t => tpr t
  | false :: t => tpr t + 1

theorem trow_length : ∀ t, (trow t).length = tsz t
  | [] => rfl
  | true :: t => by simp [trow, tsz, trow_length t]
  | false :: t => by simp [trow, tsz, trow_length t]

theorem tpl_length : ∀ t, (tpl t).length + 2 * tpr t = tsz t
  | [] => rfl
  | true :: t => by have := tpl_length t; simp [tpl, tsz, tpr]; omega
  | false :: t => by have := tpl_length t; simp [tpl, tsz, tpr]; omega

theorem tpl_bound : ∀ t, ∀ y ∈ tpl t, 1 ≤ y ∧ y ≤ (tsz t : Nat)
  | [], y, h => by simp [tpl] at h
  | true :: t, y, h => by
    simp only [tpl, List.mem_append, List.mem_singleton] at h
    rcases h with h | h
    · have := tpl_bound t y h; simp only [tsz]; omega
    · simp only [tsz]; omega
  | false :: t, y, h => by have := tpl_bound t y h; simp only [tsz]; omega

theorem trow_mem : ∀ t, ∀ y ∈ trow t, 0 ≤ y ∧ y < (tsz t : Nat)
  | [], y, h => by simp [trow] at h
  | true :: t, y, h => by
    simp only [trow, List.mem_append, List.mem_singleton] at h
    rcases h with h | h
    · have := trow_mem t y h; simp only [tsz]; omega
    · simp only [tsz]; omega
  | false :: t, y, h => by
    simp only [trow, List.mem_append, List.mem_cons, List.not_mem_nil, or_false] at h
    rcases h with h | h | h
    · have := trow_mem t y h; simp only [tsz]; omega
    · simp only [tsz]; omega
    · simp only [tsz]; omega

theorem trow_nodup : ∀ t, (trow t).Nodup
  | [] => by simp [trow]
  | true :: t => by
    simp only [trow]
    refine List.nodup_append.2 ⟨trow_nodup t, by simp, fun a ha b hb => ?_⟩
    simp only [List.mem_singleton] at hb
    have := trow_mem t a ha
    omega
  | false :: t => by
    simp only [trow]
    refine List.nodup_append.2 ⟨trow_nodup t, by simp; omega, fun a ha b hb => ?_⟩
    simp only [List.mem_cons, List.not_mem_nil, or_false] at hb
    have := trow_mem t a ha
    omega

theorem trow_row (t : List Bool) : isRow (trow t) := ⟨fun y hy => by rw [trow_length]; exact trow_mem t y hy, trow_nodup t⟩

theorem by_append_left {a x b : List Int} (h : ∀ y ∈ b, 0 ≤ y ∧ y < (a.length : Nat)) : by_ (a ++ x) b = by_ a b := by
  unfold by_
  apply List.map_congr_left
  intro y hy
  have := h y hy
  simp only [List.getD]
  rw [List.getElem?_append_left (by omega)]

theorem trow_twice : ∀ t, by_ (trow t) (trow t) = rnd (tsz t)
  | [] => rfl
  | true :: t => by
    have ih := trow_twice t
    have hm : ∀ y ∈ trow t, 0 ≤ y ∧ y < ((trow t).length : Nat) := fun y hy => by rw [trow_length]; exact trow_mem t y hy
    show by_ (trow t ++ [((tsz t : Nat) : Int)]) (trow t ++ [((tsz t : Nat) : Int)]) = rnd (tsz t + 1)
    rw [show by_ (trow t ++ [((tsz t : Nat) : Int)]) (trow t ++ [((tsz t : Nat) : Int)]) = by_ (trow t ++ [((tsz t : Nat) : Int)]) (trow t) ++ by_ (trow t ++ [((tsz t : Nat) : Int)]) [((tsz t : Nat) : Int)] from List.map_append, by_append_left hm, ih, rnd_snoc]
    simp [by_, List.getD, trow_length]
  | false :: t => by
    have ih := trow_twice t
    have hm : ∀ y ∈ trow t, 0 ≤ y ∧ y < ((trow t).length : Nat) := fun y hy => by rw [trow_length]; exact trow_mem t y hy
    show by_ (trow t ++ [((tsz t + 1 : Nat) : Int), ((tsz t : Nat) : Int)]) (trow t ++ [((tsz t + 1 : Nat) : Int), ((tsz t : Nat) : Int)]) = rnd (tsz t + 1 + 1)
    rw [show by_ (trow t ++ [((tsz t + 1 : Nat) : Int), ((tsz t : Nat) : Int)]) (trow t ++ [((tsz t + 1 : Nat) : Int), ((tsz t : Nat) : Int)]) = by_ (trow t ++ [((tsz t + 1 : Nat) : Int), ((tsz t : Nat) : Int)]) (trow t) ++ by_ (trow t ++ [((tsz t + 1 : Nat) : Int), ((tsz t : Nat) : Int)]) [((tsz t + 1 : Nat) : Int), ((tsz t : Nat) : Int)] from List.map_append, by_append_left hm, ih, rnd_snoc, rnd_snoc]
    have h1 : (trow t ++ [((tsz t + 1 : Nat) : Int), ((tsz t : Nat) : Int)]).getD (tsz t + 1) 0 = ((tsz t : Nat) : Int) := by
      simp only [List.getD]; rw [List.getElem?_append_right (by rw [trow_length]; omega), trow_length, show tsz t + 1 - tsz t = 1 from by omega]; rfl
    have h2 : (trow t ++ [((tsz t + 1 : Nat) : Int), ((tsz t : Nat) : Int)]).getD (tsz t) 0 = ((tsz t + 1 : Nat) : Int) := by
      simp only [List.getD]; rw [List.getElem?_append_right (by rw [trow_length]; omega), trow_length, show tsz t - tsz t = 0 from by omega]; rfl
    simp only [by_, List.map_cons, List.map_nil, Int.toNat_natCast, h1, h2, List.append_assoc, List.singleton_append]

theorem nx_append_left {a x : List Int} {i : Nat} (h : i < a.length) : nx (a ++ x) i = nx a i := by
  unfold nx; simp only [List.getD]; rw [List.getElem?_append_left h]

theorem nx_trow_lt (t : List Bool) {i : Nat} (h : i < tsz t) : nx (trow t) i < tsz t := by
  have := nx_lt (trow_row t) (x := i) (by rw [trow_length]; exact h)
  rwa [trow_length] at this

theorem dis_zero {p : Nat → Nat} {i j : Nat} (h : j < i) (hp : p j < p i) : dis p i j = 0 := by
  unfold dis ne; rw [decide_eq_false (by omega), decide_eq_false (by omega)]; rfl

theorem dis_one {p : Nat → Nat} {i j : Nat} (h : j < i) (hp : p i < p j) : dis p i j = 1 := by
  unfold dis ne; rw [decide_eq_false (by omega), decide_eq_true hp]; rfl

theorem trow_inv : ∀ t, inv (tsz t) (nx (trow t)) = tpr t
  | [] => rfl
  | true :: t => by
    have ih := trow_inv t
    have e : ∀ i, i < tsz t → nx (trow (true :: t)) i = nx (trow t) i := fun i hi => nx_append_left (by rw [trow_length]; exact hi)
    have es : nx (trow (true :: t)) (tsz t) = tsz t := by
      show nx (trow t ++ [((tsz t : Nat) : Int)]) (tsz t) = tsz t
      unfold nx; simp only [List.getD]; rw [List.getElem?_append_right (by rw [trow_length]; omega), trow_length, Nat.sub_self]; rfl
    show inv (tsz t) (nx (trow (true :: t))) + S (tsz t) (fun j => dis (nx (trow (true :: t))) (tsz t) j) = tpr t
    rw [inv_congr e, ih, S_congr (g := fun _ => 0) (fun j hj => dis_zero hj (by rw [es, e j hj]; exact nx_trow_lt t hj)), S_zero]
    rfl
  | false :: t => by
    have ih := trow_inv t
    have e : ∀ i, i < tsz t → nx (trow (false :: t)) i = nx (trow t) i := fun i hi => nx_append_left (by rw [trow_length]; exact hi)
    have es : nx (trow (false :: t)) (tsz t) = tsz t + 1 := by
      show nx (trow t ++ [((tsz t + 1 : Nat) : Int), ((tsz t : Nat) : Int)]) (tsz t) = tsz t + 1
      unfold nx; simp only [List.getD]; rw [List.getElem?_append_right (by rw [trow_length]; omega), trow_length, Nat.sub_self]; rfl
    have et : nx (trow (false :: t)) (tsz t + 1) = tsz t := by
      show nx (trow t ++ [((tsz t + 1 : Nat) : Int), ((tsz t : Nat) : Int)]) (tsz t + 1) = tsz t
      unfold nx; simp only [List.getD]; rw [List.getElem?_append_right (by rw [trow_length]; omega), trow_length, show tsz t + 1 - tsz t = 1 from by omega]; rfl
    show inv (tsz t) (nx (trow (false :: t))) + S (tsz t) (fun j => dis (nx (trow (false :: t))) (tsz t) j) + (S (tsz t) (fun j => dis (nx (trow (false :: t))) (tsz t + 1) j) + dis (nx (trow (false :: t))) (tsz t + 1) (tsz t)) = tpr t + 1
    rw [inv_congr e, ih, S_congr (g := fun _ => 0) (fun j hj => dis_zero hj (by rw [es, e j hj]; have := nx_trow_lt t hj; omega)), S_zero,
      S_congr (g := fun _ => 0) (fun j hj => dis_zero (by omega) (by rw [et, e j hj]; exact nx_trow_lt t hj)), S_zero, dis_one (by omega) (by rw [et, es]; omega)]

theorem trow_odd (t : List Bool) : odd (trow t) = decide (tpr t % 2 = 1) := by
  have h := odd_inv (trow_row t)
  rw [trow_length, trow_inv] at h
  cases e : odd (trow t) <;> rw [e] at h <;> simp at h ⊢ <;> omega

theorem ord_le_two {r : List Int} (hr : isRow r) (h : by_ r r = rnd r.length) : ord r ≤ 2 := by
  have h2 : pw r 2 = rnd r.length := by rw [← pw_succ hr 1, pw_one hr, h]
  exact Nat.le_of_dvd (by decide) ((ord_pw hr 2).1 h2)

/-- The last place that is made, or 0. -/
def tlast : List Bool → Nat
  | [] => 0
  | true :: t => tsz t + 1
  | false :: t => tlast t

theorem tlast_ok : ∀ t, tlast t ≤ tsz t ∧ (tsz t - tlast t) % 2 = 0
  | [] => by decide
  | true :: t => by simp [tlast, tsz]
  | false :: t => by have := tlast_ok t; simp only [tlast, tsz]; omega

/-- May places be a change of n, behind a last one? -/
def okc (n last : Int) : List Int → Bool
  | [] => decide ((n - last) % 2 = 0)
  | p :: ps => decide (last < p ∧ p ≤ n ∧ (p - last - 1) % 2 = 0) && okc n p ps

theorem tsz_rep (t : List Bool) : ∀ m, tsz (List.replicate m false ++ t) = tsz t + 2 * m
  | 0 => by simp
  | m + 1 => by simp only [List.replicate_succ, List.cons_append, tsz, tsz_rep t m]; omega

theorem tpl_rep (t : List Bool) : ∀ m, tpl (List.replicate m false ++ t) = tpl t
  | 0 => by simp
  | m + 1 => by simp only [List.replicate_succ, List.cons_append, tpl, tpl_rep t m]

theorem okc_til (n : Nat) : ∀ (ps : List Int) (t : List Bool), tsz t ≤ n → okc n (tsz t : Nat) ps = true → ∃ t', tsz t' = n ∧ tpl t' = tpl t ++ ps
  | [], t, h, ho => by
    simp only [okc, decide_eq_true_eq] at ho
    exact ⟨List.replicate ((n - tsz t) / 2) false ++ t, by rw [tsz_rep]; omega, by rw [tpl_rep, List.append_nil]⟩
  | p :: ps, t, h, ho => by
    simp only [okc, Bool.and_eq_true, decide_eq_true_eq] at ho
    obtain ⟨⟨h1, h2, h3⟩, h4⟩ := ho
    obtain ⟨q, rfl⟩ := Int.eq_ofNat_of_zero_le (show 0 ≤ p by omega)
    have hs : tsz (true :: (List.replicate ((q - tsz t - 1) / 2) false ++ t)) = q := by simp only [tsz, tsz_rep]; omega
    obtain ⟨t', e1, e2⟩ := okc_til n ps (true :: (List.replicate ((q - tsz t - 1) / 2) false ++ t)) (by rw [hs]; omega) (by rw [hs]; exact h4)
    refine ⟨t', e1, ?_⟩
    rw [e2]
    simp only [tpl, tpl_rep, tsz_rep, List.append_assoc, List.singleton_append]
    rw [show tsz t + 2 * ((q - tsz t - 1) / 2) + 1 = q from by omega]

theorem til_okc (n : Nat) : ∀ (t : List Bool) (ps : List Int), tsz t ≤ n → okc n (tlast t : Nat) ps = true → okc n 0 (tpl t ++ ps) = true
  | [], ps, _, h => h
  | true :: t, ps, hn, h => by
    have hl := tlast_ok t
    simp only [tsz] at hn
    simp only [tpl, List.append_assoc, List.singleton_append]
    refine til_okc n t _ (by omega) ?_
    simp only [okc, Bool.and_eq_true, decide_eq_true_eq]
    exact ⟨by omega, h⟩
  | false :: t, ps, hn, h => til_okc n t ps (by simp only [tsz] at hn; omega) h

theorem okc_self (t : List Bool) : okc (tsz t : Nat) 0 (tpl t) = true := by
  have h := til_okc (tsz t) t [] (Nat.le_refl _) (by have := tlast_ok t; simp only [okc, decide_eq_true_eq]; omega)
  rwa [List.append_nil] at h

theorem okc_iff (n : Nat) (ps : List Int) : okc n 0 ps = true ↔ ∃ t, tsz t = n ∧ tpl t = ps := by
  constructor
  · intro h
    obtain ⟨t, e1, e2⟩ := okc_til n ps [] (Nat.zero_le _) h
    exact ⟨t, e1, by rw [e2]; rfl⟩
  · rintro ⟨t, rfl, rfl⟩
    exact okc_self t

theorem tsz_mono (s : List Bool) : ∀ u, tsz s ≤ tsz (u ++ s)
  | [] => Nat.le_refl _
  | true :: u => by have := tsz_mono s u; simp only [List.cons_append, tsz]; omega
  | false :: u => by have := tsz_mono s u; simp only [List.cons_append, tsz]; omega

theorem tpl_above (s : List Bool) : ∀ u, ∀ y ∈ tpl (u ++ s), y ∈ tpl s ∨ (tsz s : Int) < y
  | [], y, h => Or.inl h
  | true :: u, y, h => by
    simp only [List.cons_append, tpl, List.mem_append, List.mem_singleton] at h
    rcases h with h | h
    · exact tpl_above s u y h
    · have := tsz_mono s u; right; omega
  | false :: u, y, h => tpl_above s u y h

theorem tpl_sub (s : List Bool) : ∀ u, ∀ y ∈ tpl s, y ∈ tpl (u ++ s)
  | [], _, h => h
  | true :: u, y, h => by simp only [List.cons_append, tpl, List.mem_append]; exact Or.inl (tpl_sub s u y h)
  | false :: u, y, h => tpl_sub s u y h

theorem mem_next (u s : List Bool) (b : Bool) : ((tsz s : Nat) : Int) + 1 ∈ tpl (u ++ b :: s) ↔ b = true := by
  constructor
  · intro h
    cases b with
    | true => rfl
    | false =>
      rcases tpl_above (false :: s) u _ h with h | h
      · have := tpl_bound s _ h; omega
      · simp only [tsz] at h; omega
  · rintro rfl
    exact tpl_sub _ u _ (by simp [tpl])

theorem til_whole {s : List Bool} : ∀ {u : List Bool}, tsz (u ++ s) ≤ tsz s → u = []
  | [], _ => rfl
  | true :: u, h => by have := tsz_mono s u; simp only [List.cons_append, tsz] at h; omega
  | false :: u, h => by have := tsz_mono s u; simp only [List.cons_append, tsz] at h; omega

/-- The next tile of one that is not whole. -/
theorem til_next {u s : List Bool} (h : tsz s < tsz (u ++ s)) : ∃ u' b, u = u' ++ [b] ∧ u ++ s = u' ++ b :: s := by
  rcases List.eq_nil_or_concat u with rfl | ⟨u', b, rfl⟩
  · exact absurd h (Nat.lt_irrefl _)
  · exact ⟨u', b, by simp, by simp⟩

theorem trow_ones : ∀ n, trow (List.replicate n true) = rnd n ∧ tsz (List.replicate n true) = n ∧ tpr (List.replicate n true) = 0
  | 0 => ⟨rfl, rfl, rfl⟩
  | n + 1 => by
    obtain ⟨h1, h2, h3⟩ := trow_ones n
    refine ⟨?_, ?_, ?_⟩
    · rw [List.replicate_succ, trow, h1, h2, rnd_snoc]
    · rw [List.replicate_succ, tsz, h2]
    · rw [List.replicate_succ, tpr, h3]

theorem odd_rnd (n : Nat) : odd (rnd n) = false := by
  rw [← (trow_ones n).1, trow_odd, (trow_ones n).2.2]; rfl

end Go.Proofs.YtffnfchekbafmaaGreatDoor

/- A number that an int may be. -/
namespace Go.Proofs.YtffnfchekbafmaaGreatDoor
open Go.RowKit


end Go.Proofs.YtffnfchekbafmaaGreatDoor

/- Contracts: pairs, mayCount and Check of place; slices.Index, slices.Contains; Row; ChangeOf. -/
namespace Go.Proofs.YtffnfchekbafmaaGreatDoor
open Go.RowKit

theorem drop_cons (xs : List Int) {k : Nat} (h : k < xs.length) : xs.drop k = xs[k]?.getD 0 :: xs.drop (k + 1) := by
  rw [List.drop_eq_getElem_cons h]; simp [List.getElem?_eq_getElem h]

/-- What Check says of places of n bells. -/
def pck (n : Int) (ps : List Int) : Int := if okc n 0 ps = true then 0 else 6

theorem pck_range (n : Int) (ps : List Int) : pck n ps = 0 ∨ pck n ps = 6 := by unfold pck; split <;> simp

theorem pck_til {t : List Bool} {n : Nat} (h : tsz t = n) : pck n (tpl t) = 0 := by unfold pck; rw [if_pos (by rw [← h]; exact okc_self t)]

/-- Where a number is first; -1: nowhere. -/
def idx (x : Int) : List Int → Nat → Int
  | [], _ => -1
  | y :: ys, k => if x = y then (k : Int) else idx x ys (k + 1)

theorem idx_mem (x : Int) : ∀ (ys : List Int) (k : Nat), decide (idx x ys k ≥ 0) = decide (x ∈ ys)
  | [], _ => by simp [idx]
  | y :: ys, k => by
    unfold idx
    by_cases h : x = y
    · rw [if_pos h]; simp [h]
    · rw [if_neg h, idx_mem x ys (k + 1)]; simp [h]

end Go.Proofs.YtffnfchekbafmaaGreatDoor

/- Contracts: place.Row, ChangeOf. -/
namespace Go.Proofs.YtffnfchekbafmaaGreatDoor
open Go.RowKit

/-- A row that is changed up to a tile. -/
def Upto (n : Nat) (s : List Bool) (zs : List Int) : Prop := zs.length = n ∧ ∀ j, j < n → zs.getD j 0 = if j < tsz s then (trow s).getD j 0 else (j : Int)

theorem upto_start (n : Nat) : Upto n [] (rnd n) := ⟨rnd_length n, fun j hj => by rw [rnd_get hj, if_neg (by simp [tsz])]⟩

theorem upto_end {n : Nat} {t : List Bool} {zs : List Int} (h : Upto n t zs) (ht : tsz t = n) : zs = trow t :=
  ext_getD (by rw [h.1, trow_length, ht]) (fun j hj => by rw [h.2 j (by rw [← h.1]; exact hj), if_pos (by rw [ht, ← h.1]; exact hj)])

theorem trow_get_old {b : Bool} {s : List Bool} {j : Nat} (h : j < tsz s) : (trow (b :: s)).getD j 0 = (trow s).getD j 0 := by
  have hl : j < (trow s).length := by rw [trow_length]; exact h
  cases b <;> simp only [trow, List.getD] <;> rw [List.getElem?_append_left hl]

theorem trow_get_one (s : List Bool) : (trow (true :: s)).getD (tsz s) 0 = (tsz s : Nat) := by
  simp only [trow, List.getD]; rw [List.getElem?_append_right (by rw [trow_length]; omega), trow_length, Nat.sub_self]; rfl

theorem trow_get_fst (s : List Bool) : (trow (false :: s)).getD (tsz s) 0 = ((tsz s + 1 : Nat) : Int) := by
  simp only [trow, List.getD]; rw [List.getElem?_append_right (by rw [trow_length]; omega), trow_length, Nat.sub_self]; rfl

theorem trow_get_snd (s : List Bool) : (trow (false :: s)).getD (tsz s + 1) 0 = (tsz s : Nat) := by
  simp only [trow, List.getD]; rw [List.getElem?_append_right (by rw [trow_length]; omega), trow_length, show tsz s + 1 - tsz s = 1 from by omega]; rfl

theorem upto_one {n : Nat} {s : List Bool} {zs : List Int} (h : Upto n s zs) : Upto n (true :: s) zs := by
  have e : tsz (true :: s) = tsz s + 1 := rfl
  refine ⟨h.1, fun j hj => ?_⟩
  rw [h.2 j hj]
  by_cases h1 : j < tsz s
  · rw [if_pos h1, if_pos (by omega), trow_get_old h1]
  · by_cases h2 : j = tsz s
    · subst h2; rw [if_neg h1, if_pos (by omega), trow_get_one]
    · rw [if_neg h1, if_neg (by omega)]

theorem upto_two {n : Nat} {s : List Bool} {zs : List Int} (h : Upto n s zs) (hn : tsz s + 2 ≤ n) : Upto n (false :: s) ((zs.set (tsz s) ((tsz s + 1 : Nat) : Int)).set (tsz s + 1) (tsz s : Nat)) := by
  have e : tsz (false :: s) = tsz s + 2 := rfl
  refine ⟨by simp [h.1], fun j hj => ?_⟩
  rw [getD_set (by simp [h.1]; omega), getD_set (by rw [h.1]; omega), h.2 j hj]
  by_cases h1 : tsz s + 1 = j
  · subst h1; rw [if_pos rfl, if_pos (by omega), trow_get_snd]
  · rw [if_neg h1]
    by_cases h2 : tsz s = j
    · subst h2; rw [if_pos rfl, if_pos (by omega), trow_get_fst]
    · rw [if_neg h2]
      by_cases h3 : j < tsz s
      · rw [if_pos h3, if_pos (by omega), trow_get_old h3]
      · rw [if_neg h3, if_neg (by omega)]

theorem upto_at {n : Nat} {s : List Bool} {zs : List Int} (h : Upto n s zs) {j : Nat} (hj : j < n) (hs : tsz s ≤ j) : zs[j]?.getD 0 = (j : Int) := by
  have := h.2 j hj
  rw [if_neg (by omega)] at this
  exact this

end Go.Proofs.YtffnfchekbafmaaGreatDoor

/- Contract: the answer's ChangeMay. -/
namespace Go.Proofs.YtffnfchekbafmaaGreatDoor
open Go.RowKit

end Go.Proofs.YtffnfchekbafmaaGreatDoor

/- Contracts: the answer's isIn and ChangeRow; Check, ChangeMay at every number; Row where it refuses. -/
namespace Go.Proofs.YtffnfchekbafmaaGreatDoor
open Go.RowKit

/-- What Check says at every number of bells. -/
def pc (n : Int) (ps : List Int) : Int := if 1 ≤ n ∧ n ≤ 12 then pck n ps else 1

theorem pc_range (n : Int) (ps : List Int) : pc n ps = 0 ∨ pc n ps = 1 ∨ pc n ps = 6 := by
  unfold pc
  split
  · rcases pck_range n ps with h | h <;> simp [h]
  · simp

theorem cell_two_new (w : World) (x y : Value) (e : TypeId) : ∀ j u, [x, y][j]? = some u → (w.alloc (.cells #[x, y] e)).cell? ((⟨w.heap.size, 0, none⟩ : Addr).add j) = some u := by
  intro j u hj
  have h9 := heap_alloc_new w (.cells #[x, y] e)
  rw [Addr.add_lit]
  match j, hj with
  | 0, hj => simp at hj; subst hj; unfold World.cell?; simp only [h9]; rfl
  | 1, hj => simp at hj; subst hj; unfold World.cell?; simp only [h9]; rfl

def lenOf : Value → Nat
  | .slice _ l _ => l
  | _ => 0

end Go.Proofs.YtffnfchekbafmaaGreatDoor

/- A slice of lists that came in reads as a list of lists. -/
namespace Go.Proofs.YtffnfchekbafmaaGreatDoor
open Go.RowKit Go.ChangeShapes Go.WideShapes

theorem ints_row {w : World} {a : Option Addr} {len cap : Nat} {zs : List Int} (hl : len ≤ cap) (hm : cap ≤ maxLen) (hz : zs.length = cap) (hn : a = none → cap = 0)
    (hc : ∀ x, a = some x → ∀ c, c < cap → w.cell? (x.add c) = some (.int .i64 (zs.getD c 0))) : Ints w (.slice a len cap) (zs.take len) := by
  rcases Nat.eq_zero_or_pos len with h0 | h0
  · subst h0
    exact Or.inl ⟨rfl, a, cap, rfl⟩
  · cases a with
    | none => have := hn rfl; omega
    | some x =>
      obtain ⟨b, off, rfl, hcell⟩ := ints_at (zs := zs) (fun i hi => hc x rfl i (by omega)) (by omega)
      have hlen : (zs.take len).length = len := by rw [List.length_take]; omega
      refine Or.inr ⟨b, off, cap, by rw [hlen], by omega, by omega, by unfold maxLen at hm; omega, ?_, fun j hj => ?_⟩
      · exact World.block_lt_of_cell? w _ (hcell 0 (by omega))
      · rw [hlen] at hj
        rw [hcell j (by omega)]
        simp [List.getD, hj]

theorem rows_all {w : World} {base : Nat} {a : Addr} {len cap : Nat} {A : Nat → Option Addr} {L C : Nat → Nat} {Z : Nat → List Int} (hl : len ≤ cap) (hm : cap ≤ maxLen)
    (h : ∀ r, r < cap → w.cell? (a.add r) = some (.slice (A r) (L r) (C r)) ∧ L r ≤ C r ∧ C r ≤ maxLen ∧ (Z r).length = C r ∧ (∀ n ∈ Z r, (Lit.int .i64 n).wf = true) ∧ (A r = none → C r = 0) ∧
        ∀ a', A r = some a' → base ≤ a'.block ∧ ∀ c, c < C r → w.cell? (a'.add c) = some (.int .i64 ((Z r).getD c 0))) :
    ∃ xss, IntsAll w (.slice (some a) len cap) xss := by
  refine ⟨(List.range len).map (fun r => (Z r).take (L r)), (List.range len).map (fun r => .slice (A r) (L r) (C r)), ?_, by simp, fun j hj => ?_⟩
  · rcases Nat.eq_zero_or_pos len with h0 | h0
    · subst h0
      exact Or.inl ⟨rfl, _, _, rfl⟩
    · obtain ⟨b, off, spot⟩ := a
      have hspot : spot = none := by simpa [Addr.add] using World.cell?_spot (h 0 (by omega)).1
      subst hspot
      refine Or.inr ⟨b, off, cap, by simp, by simpa using h0, by simpa using hl, by unfold maxLen at hm; omega, ?_, fun j hj => ?_⟩
      · exact World.block_lt_of_cell? w _ (h 0 (by omega)).1
      · simp at hj
        rw [← Addr.add_lit, (h j (by omega)).1]
        simp [List.getD, hj]
  · simp at hj
    have e1 : ((List.range len).map (fun r => Value.slice (A r) (L r) (C r))).getD j undef = .slice (A j) (L j) (C j) := by simp [List.getD, hj]
    have e2 : ((List.range len).map (fun r => (Z r).take (L r))).getD j [] = (Z j).take (L j) := by simp [List.getD, hj]
    rw [e1, e2]
    obtain ⟨_, a1, a2, a3, _, a5, a6⟩ := h j (by omega)
    exact ints_row a1 a2 a3 a5 (fun x hx => (a6 x hx).2)

end Go.Proofs.YtffnfchekbafmaaGreatDoor

/- Plain: the length and the lists of a slice of lists. -/
namespace Go.Proofs.YtffnfchekbafmaaGreatDoor
open Go.RowKit

theorem IntsAll.len {w : World} {v : Value} {xss : List (List Int)} (h : IntsAll w v xss) : ∃ p c, v = .slice p xss.length c := by
  obtain ⟨vs, h1, h2, _⟩ := h
  rw [← h2]; exact h1.form

/-- The k-th list of a slice of lists that is not empty. -/
theorem IntsAll.cell {w : World} {v : Value} {xss : List (List Int)} (h : IntsAll w v xss) (h0 : 1 ≤ xss.length) : ∃ b off cap, v = .slice (some ⟨b, off, none⟩) xss.length cap ∧ b < w.heap.size ∧ xss.length ≤ cap ∧ cap ≤ 9223372036854775807 ∧
    ∀ k, k < xss.length → ∃ p c, w.cell? ⟨b, off + k, none⟩ = some (.slice p (xss.getD k []).length c) ∧ Hid (Ints w (.slice p (xss.getD k []).length c) (xss.getD k [])) := by
  obtain ⟨vs, h1, h2, h3⟩ := h
  rcases h1 with ⟨rfl, _⟩ | ⟨b, off, cap, rfl, h4, h5, h6, h7, h8⟩
  · simp at h2; omega
  · refine ⟨b, off, cap, by rw [h2], h7, by omega, h6, fun k hk => ?_⟩
    exact elAt h8 (by omega) (h3 k hk)

theorem IntsAll.cut {w : World} {b off K cap k : Nat} {X : List (List Int)} (h : IntsAll w (.slice (some ⟨b, off, none⟩) K cap) X) (hl : X.length = K) (hk : k ≤ K) : IntsAll w (.slice (some ⟨b, off, none⟩) k cap) (X.take k) := by
  obtain ⟨vs, h1, h2, h3⟩ := h
  rcases Nat.eq_zero_or_pos k with rfl | h0
  · exact ⟨[], Or.inl ⟨rfl, _, _, rfl⟩, by simp, fun j hj => by simp at hj⟩
  rcases h1 with ⟨rfl, _⟩ | ⟨b', off', cap', e, h4, h5, h6, h7, h8⟩
  · simp at h2; omega
  obtain ⟨⟨rfl, rfl⟩, _, rfl⟩ : (b = b' ∧ off = off') ∧ K = vs.length ∧ cap = cap' := by
    simpa using e
  refine ⟨vs.take k, Or.inr ⟨b, off, cap, ?_, ?_, ?_, h6, h7, fun j hj => ?_⟩, ?_, fun j hj => ?_⟩
  · rw [List.length_take, Nat.min_eq_left (by omega)]
  · rw [List.length_take]; omega
  · rw [List.length_take]; omega
  · rw [List.length_take] at hj
    rw [h8 j (by omega)]
    simp [List.getD, show j < k by omega]
  · rw [List.length_take, List.length_take, h2]
  · rw [List.length_take] at hj
    have e1 : (vs.take k).getD j undef = vs.getD j undef := by simp [List.getD, show j < k by omega]
    have e2 : (X.take k).getD j [] = X.getD j [] := by simp [List.getD, show j < k by omega]
    rw [e1, e2]
    exact h3 j (by omega)

end Go.Proofs.YtffnfchekbafmaaGreatDoor

/- Contract: the answer's MethodMay, at a method that may be. -/
namespace Go.Proofs.YtffnfchekbafmaaGreatDoor
open Go.RowKit
set_option maxRecDepth 20000
set_option linter.unusedVariables false

end Go.Proofs.YtffnfchekbafmaaGreatDoor

/- Contract: method.mayCount. -/
namespace Go.Proofs.YtffnfchekbafmaaGreatDoor
open Go.RowKit

end Go.Proofs.YtffnfchekbafmaaGreatDoor

/- Contracts: method.Check. -/
namespace Go.Proofs.YtffnfchekbafmaaGreatDoor
open Go.RowKit

/-- A method as a value. -/
abbrev meth (s : ByteArray) (n : Int) (v : Value) : Value := .agg #[.string s, .int .i64 n, v]

/-- Where a method lies. -/
structure Box (w : World) (B : Nat) (s : ByteArray) (n : Int) (v : Value) : Prop where
  c0 : w.cell? ⟨B, 0, none⟩ = some (.string s)
  c1 : w.cell? ⟨B, 1, none⟩ = some (.int .i64 n)
  c2 : w.cell? ⟨B, 2, none⟩ = some v
  lt : B < w.heap.size

theorem Box.start (w : World) (s : ByteArray) (n : Int) (v : Value) (t : TypeId) : Box (w.alloc (.cells #[.string s, .int .i64 n, v] t)) w.heap.size s n v := by
  refine ⟨?_, ?_, ?_, by simp⟩ <;> simp

theorem Box.below {w w' : World} {B : Nat} {s : ByteArray} {n : Int} {v : Value} (h : Box w B s n v) (hb : Below w.heap.size w w') : Box w' B s n v :=
  ⟨(hb.cell (p := ⟨B, 0, none⟩) h.lt).trans h.c0, (hb.cell (p := ⟨B, 1, none⟩) h.lt).trans h.c1, (hb.cell (p := ⟨B, 2, none⟩) h.lt).trans h.c2, Nat.lt_of_lt_of_le h.lt hb.size⟩

end Go.Proofs.YtffnfchekbafmaaGreatDoor

/- Contracts at every method: method.Check, the answer's MethodMay. -/
namespace Go.Proofs.YtffnfchekbafmaaGreatDoor
open Go.RowKit
set_option maxRecDepth 20000
set_option linter.unusedVariables false

/-- What is wrong with the first change that may not be. -/
def fstE (n : Int) : List (List Int) → Int
  | [] => 0
  | x :: X => if pc n x = 0 then fstE n X else pc n x

theorem fstE_ok {n : Int} {X : List (List Int)} {k : Nat} (hk : k < X.length) (h : pc n (X.getD k []) = 0) : fstE n (X.drop k) = fstE n (X.drop (k + 1)) := by
  rw [List.drop_eq_getElem_cons hk]
  have e : X.getD k [] = X[k] := by simp [List.getD, hk]
  rw [e] at h
  rw [fstE, if_pos h]

theorem fstE_bad {n : Int} {X : List (List Int)} {k : Nat} (hk : k < X.length) (h : pc n (X.getD k []) ≠ 0) : fstE n (X.drop k) = pc n (X.getD k []) := by
  rw [List.drop_eq_getElem_cons hk]
  have e : X.getD k [] = X[k] := by simp [List.getD, hk]
  rw [e] at h ⊢
  rw [fstE, if_neg h]

theorem fstE_zero {n : Int} : ∀ {X : List (List Int)}, fstE n X = 0 → ∀ x, x ∈ X → pc n x = 0
  | [], _, x, hx => by cases hx
  | y :: X, h, x, hx => by
    unfold fstE at h
    split at h
    · rename_i h0
      rcases List.mem_cons.1 hx with rfl | hx
      · exact h0
      · exact fstE_zero h x hx
    · rename_i h0; exact absurd h h0

/-- What is wrong with a method. -/
def mErr (s : ByteArray) (n : Int) (X : List (List Int)) : Int :=
  if nm s = true then (if n < 2 ∨ 12 < n ∨ X.length < 1 ∨ 200 < X.length then 1 else fstE n X) else 7

end Go.Proofs.YtffnfchekbafmaaGreatDoor

/- Calls in memory; contracts: call.Sign's rest, truth.ByHeads' closure, slices.ContainsFunc where none is found. -/
namespace Go.Proofs.YtffnfchekbafmaaGreatDoor
open Go.RowKit

/-- The slice value v reads as calls: signs, and changes as places. -/
def CallsAt (w : World) (v : Value) (cs : List (Int × List (List Int))) : Prop :=
  ∃ b off cap, v = .slice (some ⟨b, off, none⟩) cs.length cap ∧ b < w.heap.size ∧ cs.length ≤ cap ∧ cap ≤ 9223372036854775807 ∧
    ∀ k, k < cs.length → ∃ u, w.cell? ⟨b, off + k * 2, none⟩ = some (.int .i32 (cs.getD k (0, [])).1) ∧ w.cell? ⟨b, off + k * 2 + 1, none⟩ = some u ∧ IntsAll w u (cs.getD k (0, [])).2

theorem CallsAt.below {w w' : World} {v : Value} {cs : List (Int × List (List Int))} (h : CallsAt w v cs) (hb : Below w.heap.size w w') : CallsAt w' v cs := by
  obtain ⟨b, off, cap, h1, h2, h3, h4, h5⟩ := h
  refine ⟨b, off, cap, h1, Nat.lt_of_lt_of_le h2 hb.size, h3, h4, fun k hk => ?_⟩
  obtain ⟨u, a1, a2, a3⟩ := h5 k hk
  exact ⟨u, (hb.cell (p := ⟨b, off + k * 2, none⟩) h2).trans a1, (hb.cell (p := ⟨b, off + k * 2 + 1, none⟩) h2).trans a2, a3.below hb⟩

end Go.Proofs.YtffnfchekbafmaaGreatDoor

/- Plain: runes that may be signs of calls. -/
namespace Go.Proofs.YtffnfchekbafmaaGreatDoor
open Go.RowKit

/-- A rune that may be a call's sign. -/
def sgnR (c : Int) : Bool := decide (33 ≤ c ∧ c ≤ 12287 ∧ ¬ (48 ≤ c ∧ c ≤ 57) ∧ c ≠ 40 ∧ c ≠ 41 ∧ (c < 127 ∨ 160 < c))

theorem sgn_letter {c : Int} (h : 97 ≤ c ∧ c ≤ 122) : sgnR c = true := by
  unfold sgnR
  exact decide_eq_true (by omega)

end Go.Proofs.YtffnfchekbafmaaGreatDoor

/- Contracts: call.Sign; call.find where none is found. -/
namespace Go.Proofs.YtffnfchekbafmaaGreatDoor
open Go.RowKit

end Go.Proofs.YtffnfchekbafmaaGreatDoor

/- Contract: call.Check, where all may be. -/
namespace Go.Proofs.YtffnfchekbafmaaGreatDoor
open Go.RowKit

theorem below_drewJ (w : World) : Below w.heap.size w w.drew := (Below.refl _ _).drew

/-- What calls must be. -/
structure CallsOk (n : Int) (k : Nat) (cs : List (Int × List (List Int))) : Prop where
  sign : ∀ j, j < cs.length → sgnR (cs.getD j (0, [])).1 = true
  dist : ∀ i j, i < j → j < cs.length → (cs.getD i (0, [])).1 ≠ (cs.getD j (0, [])).1
  few : ∀ j, j < cs.length → (cs.getD j (0, [])).2.length ≤ k
  ok : ∀ j, j < cs.length → ∀ q, q < (cs.getD j (0, [])).2.length → okc n 0 ((cs.getD j (0, [])).2.getD q []) = true

end Go.Proofs.YtffnfchekbafmaaGreatDoor

/- Contract: Pick. -/
namespace Go.Proofs.YtffnfchekbafmaaGreatDoor
open Go.RowKit

/-- Which of n things a raw number speaks of. -/
def pk (c n : Int) : Int := (if c < 0 then -(c + 1) else c) % n

theorem pk_range (c : Int) {n : Int} (h : 0 < n) : 0 ≤ pk c n ∧ pk c n < n := ⟨Int.emod_nonneg _ (by omega), Int.emod_lt_of_pos _ h⟩

end Go.Proofs.YtffnfchekbafmaaGreatDoor

/- Pick: see PickB. -/
namespace Go.Proofs.YtffnfchekbafmaaGreatDoor
end Go.Proofs.YtffnfchekbafmaaGreatDoor

/- Contract: Raw. -/
namespace Go.Proofs.YtffnfchekbafmaaGreatDoor
open Go.RowKit

theorem wrap_I64 (x : Int) : I64 (wrap64 x) := by
  unfold I64 wrap64
  omega

end Go.Proofs.YtffnfchekbafmaaGreatDoor

/- Contracts: the answer's LeadsOf; call.checkLeads. -/
namespace Go.Proofs.YtffnfchekbafmaaGreatDoor
open Go.RowKit

end Go.Proofs.YtffnfchekbafmaaGreatDoor

/- Contract: call.May, where a touch may be. -/
namespace Go.Proofs.YtffnfchekbafmaaGreatDoor
open Go.RowKit

end Go.Proofs.YtffnfchekbafmaaGreatDoor

/- What is wrong with calls and leads; contracts at every call: call.checkOne. -/
namespace Go.Proofs.YtffnfchekbafmaaGreatDoor
open Go.RowKit
set_option maxRecDepth 20000
set_option linter.unusedVariables false

/-- A call: its sign and its changes. -/
abbrev Cl := Int × List (List Int)

/-- What is wrong with a call behind others. -/
def oErr (n : Int) (K : Nat) (ah : List Cl) (c : Cl) : Int :=
  if sgnR c.1 = true then (if c.1 ∈ ah.map Prod.fst then 8 else if K < c.2.length then 1 else fstE n c.2) else 4

def cFst (n : Int) (K : Nat) : List Cl → List Cl → Int
  | _, [] => 0
  | ah, c :: r => if oErr n K ah c = 0 then cFst n K (ah ++ [c]) r else oErr n K ah c

theorem cl_at {cs : List Cl} {j : Nat} (h : j < cs.length) : cs.drop j = cs.getD j (0, []) :: cs.drop (j + 1) ∧ cs.take (j + 1) = cs.take j ++ [cs.getD j (0, [])] := by
  have e : cs.getD j (0, []) = cs[j] := by simp [List.getD, h]
  rw [e]
  exact ⟨List.drop_eq_getElem_cons h, List.take_succ_eq_append_getElem h⟩

theorem cFst_ok {n : Int} {K : Nat} {cs : List Cl} {j : Nat} (h : j < cs.length) (hz : oErr n K (cs.take j) (cs.getD j (0, [])) = 0) : cFst n K (cs.take j) (cs.drop j) = cFst n K (cs.take (j + 1)) (cs.drop (j + 1)) := by
  rw [(cl_at h).1, (cl_at h).2, cFst, if_pos hz]

theorem cFst_bad {n : Int} {K : Nat} {cs : List Cl} {j : Nat} (h : j < cs.length) (hz : oErr n K (cs.take j) (cs.getD j (0, [])) ≠ 0) : cFst n K (cs.take j) (cs.drop j) = oErr n K (cs.take j) (cs.getD j (0, [])) := by
  rw [(cl_at h).1, cFst, if_neg hz]

/-- What is wrong with calls. -/
def cErr (s : ByteArray) (n : Int) (X : List (List Int)) (cs : List Cl) : Int :=
  if mErr s n X = 0 then (if cs.length < 1 ∨ 8 < cs.length then 1 else cFst n X.length [] cs) else mErr s n X

/-- What is wrong with leads. -/
def lErr (C : Nat) (ls : List Int) : Int :=
  if ls.length < 1 ∨ 400 < ls.length then 1 else if ∀ l, l ∈ ls → 0 ≤ l ∧ l < (C : Int) then 0 else 12

/-- What is wrong with a touch. -/
def tErr (s : ByteArray) (n : Int) (X : List (List Int)) (cs : List Cl) (ls : List Int) : Int :=
  if cErr s n X cs = 0 then (if lErr cs.length ls = 0 then (if 20000 < ls.length * X.length then 3 else 0) else lErr cs.length ls) else cErr s n X cs

/-- Calls in memory, none too. -/
def CallsIn (w : World) (v : Value) (cs : List Cl) : Prop := (cs = [] ∧ ∃ p c, v = .slice p 0 c) ∨ (1 ≤ cs.length ∧ CallsAt w v cs)

theorem CallsIn.below {w w' : World} {v : Value} {cs : List Cl} (h : CallsIn w v cs) (hb : Below w.heap.size w w') : CallsIn w' v cs := by
  rcases h with h | ⟨h1, h2⟩
  · exact Or.inl h
  · exact Or.inr ⟨h1, h2.below hb⟩

theorem CallsIn.form {w : World} {v : Value} {cs : List Cl} (h : CallsIn w v cs) : ∃ p c, v = .slice p cs.length c := by
  rcases h with ⟨rfl, p, c, rfl⟩ | ⟨h1, b, off, cap, rfl, _⟩
  · exact ⟨p, c, rfl⟩
  · exact ⟨_, cap, rfl⟩

end Go.Proofs.YtffnfchekbafmaaGreatDoor

/- Contracts at every input: call.Check, call.checkLeads, call.May. -/
namespace Go.Proofs.YtffnfchekbafmaaGreatDoor
open Go.RowKit
set_option maxRecDepth 20000
set_option linter.unusedVariables false

end Go.Proofs.YtffnfchekbafmaaGreatDoor
