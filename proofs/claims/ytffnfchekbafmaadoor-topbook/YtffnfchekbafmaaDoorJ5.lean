/- Joined: AppK, FRx, BoQ, BoR, BoS, BoT, PickB. -/
import Derived.Test.YtffnfchekbafmaaDoorJ0
import Derived.Maps.AppendAt
import Derived.Test.YtffnfchekbafmaaDoorJ4
import Derived.Lib.AppendStr
import Derived.Lib.SlBytesRow
import Derived.Shelf.Bytes.SlSearch0
import Derived.ArgAppend
/- append, and where the new slice lies. -/
namespace Go.Proofs.YtffnfchekbafmaaDoor
open Go.RowKit

theorem run_append_keep {P : Program} (w : World) (base : Nat) (t ty e : TypeId) (i : TypeInfo) (z : Value) (size bytes : Nat) (ht : P.underlying t = some (.slice e)) (hi : P.info? e = some i) (hz : i.zero = some z)
    (hsize : i.size = size) (hby : i.bytes = bytes) (hzs : z.cells.size = size) (hsz : 0 < size)
    (v : Value) (n : Nat) (xs : List Value) (hown : w.ownsRow base e size v n xs)
    (a : Addr) (m c : Nat) (news : List Value) (hl : news.length = m * size) (hnews : ∀ j u, news[j]? = some u → w.cell? (a.add j) = some u) (h1 : ∀ u ∈ news, u.oneCell' = true)
    (h63 : n + m ≤ maxLen) (hbytes : (n + m) * bytes ≤ 140737488355328) (hbase : base ≤ w.heap.size) :
    ∃ v' w', (Builtin.append_ #[t, t] ty #[v, .slice (some a) m c]).run P w = .ok v' w' ∧ w'.ownsRow base e size v' (n + m) (xs ++ news) ∧ w.grownBy w' v.ownBlock ∧
      (v'.ownBlock = v.ownBlock ∨ (v'.ownBlock = some w.heap.size ∧ w.grownBy w' none)) := by
  obtain ⟨v', w', hr, h2, h3, _, h5⟩ := run_append_own_at (P := P) w base t ty e i z size bytes ht hi hz hsize hby hzs hsz v n xs hown a m c news hl hnews h1 h63 hbytes hbase
  refine ⟨v', w', hr, h2, h3, ?_⟩
  subst hsize
  subst hby
  rcases hown.2 with ⟨rfl, rfl⟩ | ⟨g, cap, cur, rfl, hbg, hg, hnc, hcm, hcs, htake⟩
  · exact h5.imp id (fun h => ⟨h, h3⟩)
  · by_cases hroom : n + m ≤ cap
    · have hfit : n * i.size + news.length ≤ cur.size := by rw [hl, hcs, ← Nat.add_mul]; exact Nat.mul_le_mul_right _ hroom
      have hr' := run_append_room (P := P) w t ty e i ht hi g n cap cur hg a m c news hl hnews h1 hroom hfit
      rw [hr] at hr'
      obtain ⟨e1, _⟩ := Result.ok.inj hr'
      left; rw [e1]; rfl
    · have holds : ∀ j u, xs[j]? = some u → w.cell? ((⟨g, 0, none⟩ : Addr).add j) = some u := hown.cells (g := g) rfl
      have hsmall : n + m ≤ 9223372036854775807 := by simp only [maxLen] at h63; omega
      have hr' := run_append_grow (P := P) w t ty e i z ht hi hz ⟨g, 0, none⟩ n cap xs hown.1 holds a m c news hl hnews (by omega) (by omega) (growslice_fits (by omega) hbytes)
      rw [hr] at hr'
      obtain ⟨e1, e2⟩ := Result.ok.inj hr'
      right
      rw [e1, e2]
      exact ⟨rfl, ⟨rfl, rfl, rfl, by simp, fun k hk _ => Below.heap_alloc w.drew _ k hk⟩⟩

theorem wpList_append_keep {P : Program} (w : World) {ops : Array Oper} {rest : List Oper} {o : Oper} {a : Act} {Q : Exit → Act → World → Prop} (hgd : o.guard = none) (s x : Operand) (t : TypeId)
    (ho : o.op = .call { callee := .builtin .append, args := #[s, x], argTypes := #[t, t] })
    (base : Nat) (e : TypeId) (i : TypeInfo) (z : Value) (size bytes : Nat) (ht : P.underlying t = some (.slice e)) (hi : P.info? e = some i) (hz : i.zero = some z)
    (hsize : i.size = size) (hby : i.bytes = bytes) (hzs : z.cells.size = size) (hsz : 0 < size)
    (v : Value) (n : Nat) (xs : List Value) (hs : a.eval s = v) (hown : w.ownsRow base e size v n xs)
    (ad : Addr) (m c : Nat) (news : List Value) (hx : a.eval x = .slice (some ad) m c) (hl : news.length = m * size) (hnews : ∀ j u, news[j]? = some u → w.cell? (ad.add j) = some u) (h1 : ∀ u ∈ news, u.oneCell' = true)
    (h63 : n + m ≤ maxLen) (hbytes : (n + m) * bytes ≤ 140737488355328) (hbase : base ≤ w.heap.size)
    (h : ∀ v' w', w'.ownsRow base e size v' (n + m) (xs ++ news) → w.grownBy w' v.ownBlock → (v'.ownBlock = v.ownBlock ∨ (v'.ownBlock = some w.heap.size ∧ w.grownBy w' none)) → wpList P ops Q rest (a.put o.dst v') w') :
    wpList P ops Q (o :: rest) a w := by
  refine wpList_plain hgd fun K hK => ?_
  obtain ⟨v', w', hr, h2, h3, h4⟩ := run_append_keep (P := P) w base t o.type e i z size bytes ht hi hz hsize hby hzs hsz v n xs hown ad m c news hl hnews h1 h63 hbytes hbase
  unfold Oper.wp execOp
  simp only [ho, resolve, invoke, builtin, Sem.run_bind, Sem.run_pure, Result.andThen_ok, List.map_toArray, List.map_cons, List.map_nil, hs, hx, hr]
  exact hK _ _ (h v' w' h2 h3 h4)

/-- .. as one step of a region that draws. -/
theorem step_append_keep {P : Program} {ops : Array Oper} {o : Oper} {a : Act} {w : World} {K : Act → World → Prop} {Q : Exit → Act → World → Prop} {E : Prop} (hg : o.guard = none) (s x : Operand) (t : TypeId)
    (ho : o.op = .call { callee := .builtin .append, args := #[s, x], argTypes := #[t, t] })
    (base : Nat) (e : TypeId) (i : TypeInfo) (z : Value) (size bytes : Nat) (ht : P.underlying t = some (.slice e)) (hi : P.info? e = some i) (hz : i.zero = some z)
    (hsize : i.size = size) (hby : i.bytes = bytes) (hzs : z.cells.size = size) (hsz : 0 < size)
    (v : Value) (n : Nat) (xs : List Value) (hs : a.eval s = v) (hown : w.ownsRow base e size v n xs)
    (ad : Addr) (m c : Nat) (news : List Value) (hx : a.eval x = .slice (some ad) m c) (hl : news.length = m * size) (hnews : ∀ j u, news[j]? = some u → w.cell? (ad.add j) = some u) (h1 : ∀ u ∈ news, u.oneCell' = true)
    (h63 : n + m ≤ maxLen) (hbytes : (n + m) * bytes ≤ 140737488355328) (hbase : base ≤ w.heap.size)
    (h : ∀ v' w', w'.ownsRow base e size v' (n + m) (xs ++ news) → w.grownBy w' v.ownBlock → (v'.ownBlock = v.ownBlock ∨ (v'.ownBlock = some w.heap.size ∧ w.grownBy w' none)) → K (a.put o.dst v') w') :
    if Region.wanted o (yielded ops a.tmps) = true then Oper.wp P o a w K Q else E := by
  have hw : Region.wanted o (yielded ops a.tmps) = true := by simp [Region.wanted, hg]
  rw [if_pos hw]
  obtain ⟨v', w', hr, h2, h3, h4⟩ := run_append_keep (P := P) w base t o.type e i z size bytes ht hi hz hsize hby hzs hsz v n xs hown ad m c news hl hnews h1 h63 hbytes hbase
  unfold Oper.wp execOp
  simp only [ho, resolve, invoke, builtin, Sem.run_bind, Sem.run_pure, Result.andThen_ok, List.map_toArray, List.map_cons, List.map_nil, hs, hx, hr]
  exact h v' w' h2 h3 h4

end Go.Proofs.YtffnfchekbafmaaDoor

/- Rows that a call owns: kept, unlike, lower. -/
namespace Go.Proofs.YtffnfchekbafmaaDoor
open Go.RowKit
set_option linter.unusedVariables false

theorem fr_block {w w' : World} {base e n : Nat} {v : Value} {xs : List Value} (h : w.ownsRow base e 1 v n xs) (hb : ∀ g, v.ownBlock = some g → w'.heap[g]? = w.heap[g]?) : w'.ownsRow base e 1 v n xs := by
  obtain ⟨h1, h2⟩ := h
  refine ⟨h1, ?_⟩
  rcases h2 with h2 | ⟨g, cap, cur, hv, hg, hh, r⟩
  · exact Or.inl h2
  · exact Or.inr ⟨g, cap, cur, hv, hg, (hb g (by rw [hv]; rfl)).trans hh, r⟩

/-- Rows of unlike elements are unlike blocks. -/
theorem fr_ty {w : World} {base base' e e' n m : Nat} {u v : Value} {xs ys : List Value} (h1 : w.ownsRow base e 1 u n xs) (h2 : w.ownsRow base' e' 1 v m ys) (he : e ≠ e') : ∀ g, u.ownBlock = some g → v.ownBlock ≠ some g := by
  intro g hu hv
  rcases h1.2 with ⟨rfl, _⟩ | ⟨g1, c1, cur1, rfl, _, hh1, _⟩
  · cases hu
  · rcases h2.2 with ⟨rfl, _⟩ | ⟨g2, c2, cur2, rfl, _, hh2, _⟩
    · cases hv
    · have e1 : g1 = g := by simpa [Value.ownBlock] using hu
      have e2 : g2 = g := by simpa [Value.ownBlock] using hv
      subst e1; subst e2
      rw [hh1] at hh2
      injection hh2 with hh2
      injection hh2 with _ e2 _
      exact he e2

theorem row_low {w : World} {base base' e n : Nat} {v : Value} {xs : List Value} (h : w.ownsRow base e 1 v n xs) (hb : base' ≤ base) : w.ownsRow base' e 1 v n xs := by
  obtain ⟨h1, h2⟩ := h
  refine ⟨h1, ?_⟩
  rcases h2 with h2 | ⟨g, cap, cur, hv, hg, r⟩
  · exact Or.inl h2
  · exact Or.inr ⟨g, cap, cur, hv, Nat.le_trans hb hg, r⟩

theorem row_form {w : World} {base e n : Nat} {v : Value} {xs : List Value} (h : w.ownsRow base e 1 v n xs) : ∃ p c, v = .slice p n c := by
  rcases h.2 with ⟨e, e2⟩ | ⟨g, c, cur, e, _⟩
  · exact ⟨_, _, by rw [e, e2]⟩
  · exact ⟨_, _, e⟩

end Go.Proofs.YtffnfchekbafmaaDoor

/- Entries and books in memory; the first line of bytes. -/
namespace Go.Proofs.YtffnfchekbafmaaDoor
open Go.RowKit Go.Lib
set_option maxRecDepth 100000
set_option linter.unusedVariables false

/-- An entry in memory, and its text. -/
def Ent (w : World) (x : Value) (T : List UInt8) : Prop := ∃ (d c : Nat) (m : ByteArray) (ring : List ByteArray) (v : Value), MayR (d : Int) (c : Int) m ring ∧ x = .iface 49 (.agg #[.int .i64 (d : Int), .int .i64 (c : Int), .string m, v]) ∧ RgS w v ring ∧ T = (txB d c m ring).data.toList

theorem Ent.keep {w w' : World} {x : Value} {T : List UInt8} (h : Ent w x T) (k : StrK w w') : Ent w' x T := by
  obtain ⟨d, c, m, ring, v, h1, h2, h3, h4⟩ := h
  exact ⟨d, c, m, ring, v, h1, h2, h3.keep k, h4⟩

/-- A text that is one of a record that may be. -/
def PT (T : List UInt8) : Prop := ∃ (d c : Nat) (m : ByteArray) (ring : List ByteArray), MayR (d : Int) (c : Int) m ring ∧ T = (txB d c m ring).data.toList

theorem PT.cln (T : List UInt8) (h : PT T) : Cln T := by
  obtain ⟨d, c, m, ring, h1, rfl⟩ := h
  exact tx_cln h1

theorem Ent.pt {w : World} {x : Value} {T : List UInt8} (h : Ent w x T) : PT T := by
  obtain ⟨d, c, m, ring, v, h1, _, _, h4⟩ := h
  exact ⟨d, c, m, ring, h1, h4⟩

theorem PT.size {T : List UInt8} (h : PT T) : T.length ≤ 3892 := by
  obtain ⟨d, c, m, ring, h1, rfl⟩ := h
  have s0 : (⟨(decDigits d).toArray⟩ : ByteArray).size ≤ 20 := dec_len (by have := h1.d1; omega)
  have s1 : (⟨(decDigits c).toArray⟩ : ByteArray).size ≤ 20 := dec_len (by have := h1.c2; omega)
  have s2 : m.size ≤ 80 := by have := nm_size h1.name; omega
  have s3 : (jnB 44 ring).size ≤ ring.length * (80 + 1) := jnL_len44 (fun x hx => by have := nm_size (h1.names x hx); omega) 44
  have s4 := h1.few
  have s5 : ring.length * (80 + 1) ≤ 12 * (80 + 1) := Nat.mul_le_mul_right _ s4
  have s6 : (txB d c m ring).size ≤ 4 * (972 + 1) := jnL_len44 (xs := [⟨(decDigits d).toArray⟩, ⟨(decDigits c).toArray⟩, m, jnB 44 ring]) (M := 972) (fun x hx => by
    simp only [List.mem_cons, List.not_mem_nil, or_false] at hx
    rcases hx with rfl | rfl | rfl | rfl <;> omega) 124
  rw [Array.length_toList]
  show (txB d c m ring).size ≤ _
  omega

theorem lnOf_le {T : List UInt8} (h : PT T) : (lnOf T).length ≤ 3914 := by
  have h1 := h.size
  have h2 : (⟨(decDigits (chkN T)).toArray⟩ : ByteArray).size ≤ 20 := dec_len (by have := chkN_lt T; omega)
  have h3 : (decDigits (chkN T)).length ≤ 20 := by
    have h4 : (⟨(decDigits (chkN T)).toArray⟩ : ByteArray).size = (decDigits (chkN T)).length := List.size_toArray ..
    omega
  rw [lnOf_length]
  omega

theorem lns_le : ∀ {Ts : List (List UInt8)}, (∀ T, T ∈ Ts → PT T) → (lns Ts).length ≤ Ts.length * 3914
  | [], _ => by simp [lns]
  | T :: Ts, h => by
    have h1 := lns_le (fun S hS => h S (List.mem_cons_of_mem _ hS))
    have h2 := lnOf_le (h T List.mem_cons_self)
    rw [lns_cons, List.length_append, List.length_cons, Nat.add_mul]
    omega

/-- Entries one behind the other. -/
def Ents (w : World) (xs : List Value) (Ts : List (List UInt8)) : Prop := xs.length = Ts.length ∧ ∀ (j : Nat) (x : Value) (T : List UInt8), xs[j]? = some x → Ts[j]? = some T → Ent w x T

theorem Ents.keep {w w' : World} {xs : List Value} {Ts : List (List UInt8)} (h : Ents w xs Ts) (k : StrK w w') : Ents w' xs Ts := ⟨h.1, fun j x T h1 h2 => (h.2 j x T h1 h2).keep k⟩

theorem Ents.snoc {w : World} {xs : List Value} {Ts : List (List UInt8)} {x : Value} {T : List UInt8} (h : Ents w xs Ts) (hx : Ent w x T) : Ents w (xs ++ [x]) (Ts ++ [T]) := by
  refine ⟨by rw [List.length_append, List.length_append, h.1]; rfl, fun j y S h1 h2 => ?_⟩
  by_cases hj : j < xs.length
  · rw [List.getElem?_append_left hj] at h1
    rw [List.getElem?_append_left (by rw [← h.1]; exact hj)] at h2
    exact h.2 j y S h1 h2
  · rw [List.getElem?_append_right (by omega)] at h1
    rw [List.getElem?_append_right (by rw [← h.1]; omega), ← h.1] at h2
    obtain ⟨k, hk⟩ : ∃ k, k = j - xs.length := ⟨_, rfl⟩
    rw [← hk] at h1 h2
    match k, h1, h2 with
    | 0, h1, h2 =>
      simp at h1 h2
      subst h1 h2
      exact hx
    | k + 1, h1, _ => simp at h1

theorem Ents.pt {w : World} {xs : List Value} {Ts : List (List UInt8)} (h : Ents w xs Ts) : ∀ T, T ∈ Ts → PT T := fun T hT => by
  obtain ⟨j, hj⟩ := List.getElem?_of_mem hT
  have hl : j < xs.length := by rw [h.1]; exact (List.getElem?_eq_some_iff.1 hj).1
  exact (h.2 j _ T (List.getElem?_eq_getElem hl) hj).pt

/-- A slice value that reads as these cells. -/
def SlAt (w : World) (v : Value) (xs : List Value) : Prop := ∃ a cap, v = .slice a xs.length cap ∧ xs.length ≤ cap ∧ cap ≤ 9223372036854775807 ∧ (a = none → xs.length = 0 ∧ cap = 0) ∧ (xs.length = 0 ∨ ∃ g o, a = some ⟨g, o, none⟩ ∧ g < w.heap.size ∧ ∀ (j : Nat) (x : Value), xs[j]? = some x → w.cell? ⟨g, o + j, none⟩ = some x)

theorem SlAt.own {w : World} {base e : Nat} {v : Value} {xs : List Value} (h : w.ownsRow base e 1 v xs.length xs) : SlAt w v xs := by
  rcases h.2 with ⟨rfl, h0⟩ | ⟨g, cap, cur, rfl, hg, hh, h1, h2, h3, h4⟩
  · exact ⟨none, 0, by rw [h0], by omega, by decide, fun _ => ⟨h0, rfl⟩, Or.inl h0⟩
  · refine ⟨_, cap, rfl, h1, by unfold maxLen at h2; omega, fun e => (by cases e), Or.inr ⟨g, 0, rfl, (Array.getElem?_eq_some_iff.1 hh).1, fun j x hj => ?_⟩⟩
    have hjl : j < xs.length := (List.getElem?_eq_some_iff.1 hj).1
    rw [← h4, List.getElem?_take, if_pos (by omega), Array.getElem?_toList] at hj
    rw [World.cell?, hh, Nat.zero_add]
    exact hj

theorem SlAt.below {w w' : World} {v : Value} {xs : List Value} (h : SlAt w v xs) (hb : Below w.heap.size w w') : SlAt w' v xs := by
  obtain ⟨a, cap, e, h1, h2, h3, h4⟩ := h
  refine ⟨a, cap, e, h1, h2, h3, h4.imp id ?_⟩
  rintro ⟨g, o, ea, hg, hc⟩
  exact ⟨g, o, ea, Nat.lt_of_lt_of_le hg hb.size, fun j x hj => (hb.cell (p := ⟨g, o + j, none⟩) hg).trans (hc j x hj)⟩

/-- Bytes behind a slice value. -/
def BySl (w : World) (v : Value) (t : ByteArray) : Prop := ∃ a cap, v = .slice a t.size cap ∧ t.size ≤ cap ∧ cap ≤ 9223372036854775807 ∧ (a = none → cap = 0) ∧ (t.size = 0 ∨ ∃ g o, a = some ⟨g, o, none⟩ ∧ g < w.heap.size ∧ Lib.Bytes w g o t)

theorem BySl.below {w w' : World} {v : Value} {t : ByteArray} (h : BySl w v t) (hb : Below w.heap.size w w') : BySl w' v t := by
  obtain ⟨a, cap, e, h1, h2, h3, h4⟩ := h
  refine ⟨a, cap, e, h1, h2, h3, h4.imp id ?_⟩
  rintro ⟨g, o, ea, hg, hc⟩
  exact ⟨g, o, ea, Nat.lt_of_lt_of_le hg hb.size, fun i hi => (hb.cell (p := ⟨g, o + i, none⟩) hg).trans (hc i hi)⟩

/-- The cells of bytes. -/
def bcs (l : List UInt8) : List Value := l.map (fun b => Value.int .u8 b.toNat)

theorem bcs_length (l : List UInt8) : (bcs l).length = l.length := List.length_map ..

theorem BySl.own {w : World} {base e : Nat} {v : Value} {l : List UInt8} (h : w.ownsRow base e 1 v l.length (bcs l)) : BySl w v ⟨l.toArray⟩ := by
  have hsz : (⟨l.toArray⟩ : ByteArray).size = l.length := List.size_toArray ..
  rcases h.2 with ⟨rfl, h0⟩ | ⟨g, cap, cur, rfl, hg, hh, h1, h2, h3, h4⟩
  · exact ⟨none, 0, by rw [hsz, h0], by omega, by decide, fun _ => rfl, Or.inl (by omega)⟩
  · refine ⟨_, cap, by rw [hsz], by omega, by unfold maxLen at h2; omega, fun e => (by cases e), Or.inr ⟨g, 0, rfl, (Array.getElem?_eq_some_iff.1 hh).1, fun i hi => ?_⟩⟩
    have hil : i < l.length := by omega
    have hj : (bcs l)[i]? = some (Value.int .u8 l[i].toNat) := by unfold bcs; rw [List.getElem?_map, List.getElem?_eq_getElem hil]; rfl
    rw [← h4, List.getElem?_take, if_pos (by omega), Array.getElem?_toList] at hj
    rw [World.cell?, hh, Nat.zero_add]
    have hj2 : cur[i]? = some (Value.int .u8 l[i].toNat) := hj
    exact hj2

/-! the first line -/

theorem ixB_nl : ∀ (l : List UInt8), (Lib.indexByte l 10) + 1 = (nlA l : Int)
  | [] => rfl
  | b :: l => by
    have ih := ixB_nl l
    have hg := Lib.indexByte_ge l 10
    unfold Lib.indexByte
    unfold nlA at ih ⊢
    rw [List.findIdx?_cons]
    by_cases hb : (b == 10) = true
    · rw [if_pos hb, if_pos hb]; rfl
    · rw [if_neg hb, if_neg hb]
      cases hf : l.findIdx? (fun b => b == 10) with
      | none =>
        rw [hf] at ih
        have h1 : Lib.indexByte l 10 = -1 := by have : Lib.indexByte l 10 + 1 = ((0 : Nat) : Int) := ih; omega
        rw [h1]; rfl
      | some i =>
        rw [hf] at ih
        have h1 : Lib.indexByte l 10 = (i : Int) := by have : Lib.indexByte l 10 + 1 = ((i + 1 : Nat) : Int) := ih; omega
        have h2 : (Lib.indexByte l 10 == -1) = false := by rw [beq_eq_false_iff_ne]; omega
        rw [h2, h1]
        show (i : Int) + 1 + 1 = ((i + 1 + 1 : Nat) : Int)
        omega

theorem nlA_le (l : List UInt8) : nlA l ≤ l.length := by
  unfold nlA
  cases hf : l.findIdx? (fun b => b == 10) with
  | none => exact Nat.zero_le _
  | some i =>
    have := (List.findIdx?_eq_some_iff_findIdx_eq.1 hf).1
    exact this

theorem fstL_size (l : List UInt8) : (fstL l).length = nlA l := by unfold fstL; rw [List.length_take]; have := nlA_le l; omega

theorem run_convert_empty9 (a : Option Addr) (cap : Nat) (w : World) : (convert 32 9 (.slice a 0 cap)).run Tryd.prog w = .ok (.string ⟨([] : List UInt8).toArray⟩) w := by
  cases a with
  | none => exact run_convert_bytes_nil (P := Tryd.prog) w 32 5 Tryd.underlying32 Tryd.underlying5 0 cap 9 Tryd.underlying9
  | some a =>
    have hl : (loadCells a 0).run Tryd.prog w = .ok (([] : List Int).map (Value.int .u8)).toArray w := by
      have := run_loadCells_list (P := Tryd.prog) w a [] (fun j v hj => by simp at hj)
      simpa using this
    rw [run_convert_bytes_string w 32 9 5 _ 0 cap Tryd.underlying32 Tryd.underlying5 Tryd.underlying9, run_bytesToString w _ 0 cap [] hl]
    rfl

set_option maxHeartbeats 1000000 in
theorem firstLine_ok (v : Value) (t : ByteArray) (w : World) (h : BySl w v t) :
    Calls Tryd.prog 12 #[v] w fun e w' => e = .returned (.string ⟨(fstL t.data.toList).toArray⟩) ∧ Below w.heap.size w w' := by
  obtain ⟨a, cap, rfl, h1, h2, h3, h4⟩ := h
  have hnl : nlA t.data.toList ≤ t.size := by have := nlA_le t.data.toList; rwa [Array.length_toList] at this
  have HI : Hid (Calls Tryd.prog 16 #[.slice a t.size cap, .int .u8 10] w fun e w' => e = .returned (.int .i64 ((nlA t.data.toList : Int) - 1)) ∧ w' = w) := by
    have hix := ixB_nl t.data.toList
    rcases h4 with h0 | ⟨g, o, rfl, hg, hb⟩
    · cases a with
      | none =>
        rw [h0, h3 rfl]
        refine (Any.bytes_IndexByte_nil (P := Tryd.prog) (ρ := rnBk) blIxb 10 w).mono ?_
        rintro e w' ⟨rfl, rfl⟩
        have : nlA t.data.toList = 0 := by omega
        rw [this]
        exact ⟨rfl, rfl⟩
      | some a =>
        rw [h0]
        refine (Any.bytes_IndexByte_at (P := Tryd.prog) (ρ := rnBk) blIxb a 0 cap [] 10 w rfl (fun i hi => absurd hi (by omega))).mono ?_
        rintro e w' ⟨rfl, rfl⟩
        have : nlA t.data.toList = 0 := by omega
        rw [this]
        exact ⟨rfl, rfl⟩
    · refine (Any.bytes_IndexByte_bytes (P := Tryd.prog) (ρ := rnBk) blIxb g o cap t 10 w hb).mono ?_
      rintro e w' ⟨rfl, rfl⟩
      refine ⟨?_, rfl⟩
      show Ending.returned (.int .i64 (Lib.indexByte t.data.toList 10)) = _
      rw [show (nlA t.data.toList : Int) - 1 = Lib.indexByte t.data.toList 10 by omega]
  have HC : Hid ((convert 32 9 (.slice a (nlA t.data.toList) cap)).run Tryd.prog w = .ok (.string ⟨(fstL t.data.toList).toArray⟩) w) := by
    rcases Nat.eq_zero_or_pos (nlA t.data.toList) with hz | hz
    · show _ = _
      unfold fstL
      rw [hz]
      rw [List.take_zero]
      exact run_convert_empty9 a cap w
    · rcases h4 with h0 | ⟨g, o, rfl, hg, hb⟩
      · omega
      · have h9 := Lib.run_convert_window (P := Tryd.prog) w 32 5 9 Tryd.underlying32 Tryd.underlying5 Tryd.underlying9 g o t hb 0 (nlA t.data.toList) cap (by omega)
        rw [Nat.add_zero, Nat.zero_add] at h9
        show _ = _
        rw [h9]
        congr 2
        apply ByteArray.ext
        apply Array.toList_inj.1
        unfold fstL
        simp [ByteArray.data_extract, Array.toList_extract]
  generalize hR : (⟨(fstL t.data.toList).toArray⟩ : ByteArray) = R at *
  generalize hN : nlA t.data.toList = N at *
  generalize hT : t.size = T at *
  clear hR hN hT h4
  go_enter Tryd.func12, Tryd.ntmps12
  go_wp2_with fail
  refine HI.out.mono ?_
  rintro e w' ⟨rfl, rfl⟩
  have hC := HC.out
  have hw : IntKind.i64.wrap ((N : Int) - 1 + 1) = (N : Int) := by rw [show (N : Int) - 1 + 1 = (N : Int) by omega]; rw [IntKind.wrap_i64]; omega
  clear HI HC
  go_wp2
  go_ret
  exact ⟨rfl, Below.refl _ _⟩

end Go.Proofs.YtffnfchekbafmaaDoor

/- Contract: (*Book).Bytes. -/
namespace Go.Proofs.YtffnfchekbafmaaDoor
open Go.RowKit Go.Lib
set_option maxRecDepth 100000
set_option linter.unusedVariables false

theorem lnE_succ {Ts : List (List UInt8)} {k : Nat} {T : List UInt8} (h : Ts[k]? = some T) : lns (Ts.take (k + 1)) = lns (Ts.take k) ++ lnOf T := by
  rw [List.take_add_one, h, lns_append]
  show lns (Ts.take k) ++ lns [T] = _
  rw [lns_cons]
  simp [lns]

theorem lnB_cells (d c : Nat) (m : ByteArray) (ring : List ByteArray) : Lib.strCells (lnB (txB d c m ring)) = bcs (lnOf (txB d c m ring).data.toList) := by
  unfold Lib.strCells bcs
  rw [lnB_data]

theorem lnB_size (d c : Nat) (m : ByteArray) (ring : List ByteArray) : (lnB (txB d c m ring)).size = (lnOf (txB d c m ring).data.toList).length := by
  rw [← lnB_data, Array.length_toList]; rfl

set_option maxHeartbeats 4000000 in
theorem bytes_ok (p : Nat) (fr : Nat × Nat) (v : Value) (xs : List Value) (Ts : List (List UInt8)) (w : World) (hp : w.heap[p]? = some (.cells #[v] 25 fr)) (hs : SlAt w v xs) (hE : Ents w xs Ts) (ht : Tab10 w) (hl : xs.length ≤ 1000) :
    Calls Tryd.prog 6 #[.pointer (some ⟨p, 0, none⟩)] w fun e w' => ∃ u, e = .returned u ∧ w'.ownsRow w.heap.size 5 1 u (lns Ts).length (bcs (lns Ts)) ∧ Below w.heap.size w w' := by
  obtain ⟨i0, hi, hz0, hz1, hz2⟩ := info_parts Tryd.info5
  have hcp : w.cell? ⟨p, 0, none⟩ = some v := by simp [World.cell?, hp]
  have HPt := hE.pt
  have HLN : Hid (∀ k, (lns (Ts.take k)).length ≤ 3914000) := fun k => by
    have h1 := lns_le (Ts := Ts.take k) (fun T hT => HPt T (List.mem_of_mem_take hT))
    rw [List.length_take] at h1
    have h2 : min k Ts.length * 3914 ≤ 1000 * 3914 := Nat.mul_le_mul_right _ (by have := hE.1; omega)
    omega
  have HTl : Hid (Ts.take xs.length = Ts) := List.take_of_length_le (by rw [hE.1]; exact Nat.le_refl _)
  obtain ⟨a, cap, rfl, h1, h2, h3, h4⟩ := hs
  have HST : Hid (∀ k, k < xs.length → ∃ (d c : Nat) (m : ByteArray) (ring : List ByteArray) (g9 o9 n9 cap9 : Nat) (g o : Nat), a = some ⟨g, o, none⟩ ∧ g < w.heap.size ∧ w.cell? ⟨g, o + k, none⟩ = some (.iface 49 (.agg #[.int .i64 (d : Int), .int .i64 (c : Int), .string m, .slice (some ⟨g9, o9, none⟩) n9 cap9])) ∧ MayR (d : Int) (c : Int) m ring ∧ RgS w (.slice (some ⟨g9, o9, none⟩) n9 cap9) ring ∧ lns (Ts.take (k + 1)) = lns (Ts.take k) ++ lnOf (txB d c m ring).data.toList) := fun k hk => by
    obtain ⟨T, hT⟩ : ∃ T, Ts[k]? = some T := ⟨_, List.getElem?_eq_getElem (by rw [← hE.1]; exact hk)⟩
    obtain ⟨x, hx⟩ : ∃ x, xs[k]? = some x := ⟨_, List.getElem?_eq_getElem hk⟩
    obtain ⟨d, c, m, ring, rv, e1, rfl, e3, rfl⟩ := hE.2 k x T hx hT
    obtain ⟨g9, o9, cap9, cur9, fr9, rfl, -⟩ := e3.mem
    rcases h4 with h0 | ⟨g, o, ea, hg, hc⟩
    · omega
    · exact ⟨d, c, m, ring, g9, o9, _, cap9, g, o, ea, hg, hc k _ hx, e1, e3, lnE_succ hT⟩
  have HG := hide ht
  generalize hL : xs.length = L at *
  have hL9 : L ≤ 1000 := hl
  clear hL hE h4 h3 HPt ht hp
  have hcp' := hcp
  go_enter Tryd.func6, Tryd.ntmps6
  go_wp2
  go_loopw [3, 11] (fun tv iv wr => ∃ (k : Nat) (ua : Option Addr) (un uc : Nat), k ≤ L ∧ tv = .slice ua un uc ∧ iv = .int .i64 (k : Int) ∧ Hid (wr.ownsRow w.heap.size 5 1 (.slice ua un uc) (lns (Ts.take k)).length (bcs (lns (Ts.take k)))) ∧ Hid (Below w.heap.size w wr)) (fun _ iv _ => L - (RowKit.intOf iv).toNat)
  case atStart => exact ⟨0, none, 0, 0, Nat.zero_le _, rfl, rfl, World.ownsRow_nil _ _ _ _, Below.refl _ _⟩
  case round =>
    obtain ⟨k, ua, un, uc, hk, rfl, rfl, HO, HB⟩ := hrel
    by_cases hlt : k < L
    · have hi1 : (k : Int) < (L : Int) := by omega
      obtain ⟨d, c, m, ring, g9, o9, n9, cap9, g, o, rfl, hg, hcell, hM, hRg, hsn⟩ := HST.out k hlt
      have hc1 : wr.cell? ⟨g, o + k, none⟩ = some (.iface 49 (.agg #[.int .i64 (d : Int), .int .i64 (c : Int), .string m, .slice (some ⟨g9, o9, none⟩) n9 cap9])) := (HB.out.cell (p := ⟨g, o + k, none⟩) hg).trans hcell
      have HLn : Hid (Calls Tryd.prog 86 #[.agg #[.int .i64 (d : Int), .int .i64 (c : Int), .string m, .slice (some ⟨g9, o9, none⟩) n9 cap9]] wr fun e w' => e = .returned (.string (lnB (txB d c m ring))) ∧ Below wr.heap.size wr w') := by
        have d1 := hM.d1
        have c2 := hM.c2
        exact line_ok d c m _ ring wr (HG.out.below HB.out) (hRg.keep (StrK.of HB.out)).rg (by omega) (by omega) (by have := nm_size hM.name; omega) (fun x hx => by have := nm_size (hM.names x hx); omega) hM.some hM.few
      have HSz := hide (lnB_size d c m ring)
      have HCl := hide (lnB_cells d c m ring)
      have HLk := hide (HLN.out (k + 1))
      have HSN := hide hsn
      have HLk2 : Hid ((lns (Ts.take k)).length + (lnB (txB d c m ring)).size ≤ 3914000) := by
        have := HLk.out
        rw [hsn, List.length_append, ← HSz.out] at this
        exact this
      have HFIN : Hid (∀ (v' : Value) (w2 : World), w2.ownsRow w.heap.size 5 1 v' ((lns (Ts.take k)).length + (lnB (txB d c m ring)).size) (bcs (lns (Ts.take k)) ++ Lib.strCells (lnB (txB d c m ring))) → w2.ownsRow w.heap.size 5 1 v' (lns (Ts.take (k + 1))).length (bcs (lns (Ts.take (k + 1))))) := fun v' w2 h => by
        rw [HSN.out, List.length_append, ← HSz.out]
        unfold bcs
        rw [List.map_append]
        have := HCl.out
        unfold bcs at this h
        rw [← this]
        exact h
      clear hsn hM hRg hcell
      generalize hA : lns (Ts.take k) = A at *
      generalize lnB (txB d c m ring) = LB at *
      generalize hAl : A.length = Al at *
      generalize hAc : bcs A = Ac at *
      clear HSN HSz HCl hA hAl hAc HLk
      go_wp2_with fail
      refine HLn.out.mono ?_
      rintro e W1 ⟨rfl, hb1⟩
      have HO1 : Hid (W1.ownsRow w.heap.size 5 1 (.slice ua un uc) Al Ac) := fr_block HO.out (fun g hg => hb1.block g (HO.out.lt g hg).2)
      have HB1 : Hid (Below w.heap.size w W1) := HB.out.trans (hb1.mono HB.out.size)
      have HZ := hide HB1.out.size
      clear hb1 HLn
      go_wp2_with (at_builtin; refine Lib.wpList_append_own_string _ rfl _ _ 32 9 rfl w.heap.size 5 i0 Tryd.underlying32 Tryd.underlying9 hi hz0 hz1 hz2 _ _ _ rfl HO1.out LB rfl ?c3 ?c4 ?c5 ?_)
      case c3 => have := HLk2.out; unfold maxLen; omega
      case c4 => have := HLk2.out; omega
      case c5 => exact HZ.out
      intro v' w2 h4 hg4 _
      have HF := hide (HFIN.out v' w2 h4)
      obtain ⟨va, vc, ev⟩ := row_form h4
      have HB2 : Hid (Below w.heap.size w w2) := HB1.out.grown hg4 HZ.out (fun k hk => (HO1.out.lt k hk).1)
      clear h4 hg4 HFIN
      subst ev
      go_wp2
      go_roundw
      case rel => exact ⟨k + 1, va, _, vc, by omega, rfl, by go_num, HF, HB2⟩
      case measure => simp [RowKit.intOf]; omega
    · have hi1 : decide ((k : Int) < (L : Int)) = false := decide_eq_false (by omega)
      obtain rfl : k = L := by omega
      rw [HTl.out] at HO
      go_wp2
      go_ret
      exact ⟨_, rfl, HO.out, HB.out⟩

end Go.Proofs.YtffnfchekbafmaaDoor

/- Contract: Open. -/
namespace Go.Proofs.YtffnfchekbafmaaDoor
open Go.RowKit Go.Lib
set_option maxRecDepth 100000
set_option linter.unusedVariables false

theorem Tryd.info40 : (Tryd.prog.info? 40).map (fun i => (i.zero, i.size, i.bytes)) = some (some .nilIface, 1, 16) := by kernel_rfl

theorem StrK.grown {w w' : World} {base n : Nat} {u : Value} {xs : List Value} (h : w.ownsRow base 40 1 u n xs) (hg : w.grownBy w' u.ownBlock) : StrK w w' := fun b cur fr e => by
  have hb := (Array.getElem?_eq_some_iff.1 e).1
  refine (hg.block b hb (fun hk => ?_)).trans e
  rcases h.2 with ⟨rfl, _⟩ | ⟨g, cap, cur2, rfl, hgb, hh, _⟩
  · cases hk
  · have hk2 : b = g := by simpa [Value.ownBlock] using hk
    subst hk2
    rw [hh] at e
    injection e with e
    injection e with _ e2 _
    exact absurd e2 (by decide)

theorem bk_apart {w : World} {base n p : Nat} {u v : Value} {xs : List Value} {fr : Nat × Nat} (h : w.ownsRow base 40 1 u n xs) (hp : w.heap[p]? = some (.cells #[v] 25 fr)) : some p ≠ u.ownBlock := fun hk => by
  rcases h.2 with ⟨rfl, _⟩ | ⟨g, cap, cur2, rfl, hgb, hh, _⟩
  · cases hk
  · have hk2 : p = g := by simpa [Value.ownBlock] using hk
    subst hk2
    rw [hp] at hh
    injection hh with e
    injection e with _ e2 _
    exact absurd e2 (by decide)

theorem tail_data (t : ByteArray) (s : Nat) : (t.extract s t.size).data.toList = t.data.toList.drop s := by
  rw [ByteArray.data_extract, Array.toList_extract, List.extract_eq_take_drop, List.take_of_length_le]
  rw [List.length_drop, Array.length_toList]
  exact Nat.le_refl _

theorem tail_size (t : ByteArray) (s : Nat) : (t.extract s t.size).size = t.size - s := by rw [ByteArray.size_extract]; omega

/-- The rest of bytes. -/
theorem by_tail {w : World} {a : Option Addr} {cap : Nat} {t : ByteArray} (h : BySl w (.slice a t.size cap) t) (s : Nat) (hs : s ≤ t.size) : BySl w (sliced a s t.size cap 1) (t.extract s t.size) := by
  obtain ⟨a', cap', e, h1, h2, h3, h4⟩ := h
  injection e with e1 _ e2
  subst e1 e2
  unfold sliced
  refine ⟨if cap = s then a else a.map (·.add (s * 1)), cap - s, by rw [tail_size], by rw [tail_size]; omega, by omega, fun e => ?_, ?_⟩
  · by_cases hc : cap = s
    · omega
    · rw [if_neg hc] at e
      cases a with
      | none => have := h3 rfl; omega
      | some x => simp at e
  · rw [tail_size]
    by_cases hz : t.size - s = 0
    · exact Or.inl hz
    · right
      rcases h4 with h0 | ⟨g, o, rfl, hg, hb⟩
      · omega
      · refine ⟨g, o + s, ?_, hg, fun i hi => ?_⟩
        · rw [if_neg (by omega)]
          simp [Addr.add]
        · rw [tail_size] at hi
          have hi2 : s + i < t.size := by omega
          rw [Nat.add_assoc, hb (s + i) hi2]
          congr 3
          have e1 : (t.extract s t.size).data.toList[i]? = t.data.toList[s + i]? := by rw [tail_data, List.getElem?_drop]
          have e2 : (t.extract s t.size).data.toList[i]? = some (t.extract s t.size)[i] := by
            rw [Array.getElem?_toList]; exact Array.getElem?_eq_getElem (by show i < (t.extract s t.size).size; rw [tail_size]; omega)
          have e3 : t.data.toList[s + i]? = some t[s + i] := by
            rw [Array.getElem?_toList]; exact Array.getElem?_eq_getElem hi2
          rw [e2, e3] at e1
          injection e1 with e1
          rw [e1]

theorem set1 {w : World} {b : Nat} {t : TypeId} {x : Value} (h : w.heap[b]? = some (.cells #[x] t)) (y : Value) : (w.setCell ⟨b, 0, none⟩ y).heap[b]? = some (.cells #[y] t) := by
  simp [World.setCell, Array.getElem?_modify, h]

set_option maxHeartbeats 8000000 in
theorem open_ok (v : Value) (t : ByteArray) (A : List (List UInt8)) (w : World) (h : BySl w v t) (hg : Glk w) (hs : t.size ≤ 100000) (hO : Opn PT t.data.toList A) (hA : A.length < 1000) :
    Calls Tryd.prog 8 #[v] w fun e w' => ∃ (p : Nat) (u : Value) (xs : List Value), e = .returned (.tuple #[.pointer (some ⟨p, 0, none⟩), .int .i64 ((lns A).length : Int)]) ∧ w.heap.size ≤ p ∧ w'.heap[p]? = some (.cells #[u] 25) ∧ w'.ownsRow w.heap.size 40 1 u xs.length xs ∧ Ents w' xs A ∧ Below w.heap.size w w' := by
  obtain ⟨i0, hi, hz0, hz1, hz2⟩ := info_parts Tryd.info40
  have hv := h
  obtain ⟨a, cap, rfl, h1, h2, h3, h4⟩ := h
  obtain ⟨P, hP⟩ : ∃ P, P = w.heap.size := ⟨_, rfl⟩
  have hwb : Below w.heap.size w (w.alloc (.cells #[.slice none 0 0] 25)) := (Below.refl _ _).alloc (Nat.le_refl _) _
  have hwp := heap_alloc_new w (.cells #[.slice none 0 0] 25)
  -- one line
  have HLINE : Hid (∀ (s : Nat) (V : World), s ≤ t.size → Below w.heap.size w V → Calls Tryd.prog 12 #[sliced a s t.size cap 1] V fun e w' => e = .returned (.string ⟨(fstL (t.data.toList.drop s)).toArray⟩) ∧ Below V.heap.size V w') := fun s V hs hb => by
    have := firstLine_ok (sliced a s t.size cap 1) (t.extract s t.size) V (by_tail (hv.below hb) s hs)
    rw [tail_data] at this
    exact this
  have HREAD : Hid (∀ (s : Nat) (V : World), s ≤ t.size → Below w.heap.size w V → Calls Tryd.prog 13 #[.string ⟨(fstL (t.data.toList.drop s)).toArray⟩] V (RdE ⟨(fstL (t.data.toList.drop s)).toArray⟩ V)) := fun s V hs2 hb => by
    refine readEntry_ok _ V (hg.below hb) ?_
    show (fstL (t.data.toList.drop s)).toArray.size ≤ _
    rw [List.size_toArray, fstL_size]
    have h9 := nlA_le (t.data.toList.drop s)
    rw [List.length_drop, Array.length_toList] at h9
    have : t.data.size = t.size := rfl
    omega
  -- what is next
  have HNEXT : Hid (∀ (k s : Nat) (line : ByteArray), Opn PT (t.data.toList.drop s) (A.drop k) → k ≤ A.length → s ≤ t.size → line = ⟨(fstL (t.data.toList.drop s)).toArray⟩ →
      (∀ (d c : Nat) (m : ByteArray) (ring : List ByteArray), MayR (d : Int) (c : Int) m ring → lnB (txB d c m ring) = line → A[k]? = some (txB d c m ring).data.toList ∧ k < A.length ∧ 0 < line.size ∧ s + line.size ≤ t.size ∧ Opn PT (t.data.toList.drop (s + line.size)) (A.drop (k + 1))) ∧
      ((∀ (d c : Nat) (m : ByteArray) (ring : List ByteArray), MayR (d : Int) (c : Int) m ring → lnB (txB d c m ring) ≠ line) → k = A.length)) := fun k s line hk hkl hs2 hl => by
    have hld : line.data.toList = fstL (t.data.toList.drop s) := by rw [hl]
    have hls : line.size = (fstL (t.data.toList.drop s)).length := by rw [← hld, Array.length_toList]; rfl
    refine ⟨fun d c m ring hM he => ?_, fun hno => ?_⟩
    · have he2 : lnOf (txB d c m ring).data.toList = fstL (t.data.toList.drop s) := by rw [← hld, ← he, lnB_data]
      generalize hB : A.drop k = B at *
      cases hk with
      | stop hst => exact absurd he2.symm (hst _ ⟨d, c, m, ring, hM, rfl⟩)
      | @more _ T Ts q1 q2 q3 =>
        have eT := lnOf_inj (tx_cln hM) (PT.cln _ q1) (he2.trans q2)
        subst eT
        have hkl2 : k < A.length := by
          rcases Nat.lt_or_ge k A.length with h | h
          · exact h
          · rw [List.drop_eq_nil_of_le h] at hB; cases hB
        have hkd : A[k]? = some (txB d c m ring).data.toList := by
          have : (A.drop k)[0]? = some (txB d c m ring).data.toList := by rw [hB]; rfl
          rwa [List.getElem?_drop, Nat.add_zero] at this
        have hsz : line.size = (lnOf (txB d c m ring).data.toList).length := by rw [hls, q2]
        refine ⟨hkd, hkl2, by rw [hsz]; exact lnOf_pos _, ?_, ?_⟩
        · rw [hls, fstL_size]
          have h9 := nlA_le (t.data.toList.drop s)
          rw [List.length_drop, Array.length_toList] at h9
          have : t.data.size = t.size := rfl
          omega
        · rw [hsz, ← List.drop_drop]
          have hB2 : A.drop (k + 1) = Ts := by rw [← List.drop_drop, hB]; rfl
          rw [hB2]
          exact q3
    · generalize hB : A.drop k = B at *
      cases hk with
      | stop hst =>
        have : (A.drop k).length = 0 := by rw [hB]; rfl
        rw [List.length_drop] at this
        omega
      | @more _ T Ts q1 q2 q3 =>
        obtain ⟨d, c, m, ring, hM, rfl⟩ := q1
        refine absurd ?_ (hno d c m ring hM)
        rw [hl, q2]
        rfl
  have HTk : Hid (A.take A.length = A) := List.take_length
  have HLE : Hid (∀ k T, A[k]? = some T → A.take (k + 1) = A.take k ++ [T]) := fun k T h => by rw [List.take_add_one, h]; rfl
  have HLS : Hid (∀ k T, A[k]? = some T → (lns (A.take (k + 1))).length = (lns (A.take k)).length + (lnOf T).length) := fun k T h => by rw [lnE_succ h, List.length_append]
  have HO := hide hO
  generalize hn : t.size = n at *
  generalize hAl : A.length = N at *
  have HLIM : Hid (N < 1000) := hA
  clear hv h4 h3 hO hg hA hn hAl
  go_enter Tryd.func8, Tryd.ntmps8
  go_wp2
  go_loopw [5] (fun sv wr => ∃ (k s : Nat) (u : Value) (xs : List Value), k ≤ N ∧ s ≤ n ∧ sv = .int .i64 (s : Int) ∧ Hid (xs.length = k) ∧ Hid (wr.heap[w.heap.size]? = some (.cells #[u] 25)) ∧ Hid (wr.ownsRow w.heap.size 40 1 u k xs) ∧ Hid (Ents wr xs (A.take k)) ∧ Hid (Opn PT (t.data.toList.drop s) (A.drop k)) ∧ Hid ((lns (A.take k)).length = s) ∧ Hid (Below w.heap.size w wr)) (fun sv _ => n - (RowKit.intOf sv).toNat)
  case atStart => exact ⟨0, 0, .slice none 0 0, [], Nat.zero_le _, Nat.zero_le _, rfl, rfl, hwp, World.ownsRow_nil _ _ _ _, ⟨rfl, fun j x T h => by simp at h⟩, HO.out, rfl, hwb⟩
  case round =>
    obtain ⟨k, s, u, xs, hk, hs5, rfl, HX, HP, HOW, HE, HOP, HLL, HB⟩ := hrel
    obtain ⟨ua, uc, rfl⟩ := row_form HOW.out
    have c0 : wr.cell? ⟨w.heap.size, 0, none⟩ = some (.slice ua k uc) := by rw [World.cell?, HP.out]; rfl
    have hlim : (k : Int) < 1000 := by have := HLIM.out; omega
    obtain ⟨sa, hsa⟩ : ∃ sa, (if cap = s then a else Option.map (fun x => x.add s) a) = sa := ⟨_, rfl⟩
    have HL1 : Hid (Calls Tryd.prog 12 #[.slice sa (n - s) (cap - s)] wr fun e w' => e = .returned (.string ⟨(fstL (t.data.toList.drop s)).toArray⟩) ∧ Below wr.heap.size wr w') := by
      have := HLINE.out s wr hs5 HB.out
      unfold sliced at this
      rw [Nat.mul_one] at this
      rw [← hsa]
      exact this
    have HR1 : Hid (∀ V, Below wr.heap.size wr V → Calls Tryd.prog 13 #[.string ⟨(fstL (t.data.toList.drop s)).toArray⟩] V (RdE ⟨(fstL (t.data.toList.drop s)).toArray⟩ V)) := fun V hV => HREAD.out s V hs5 (HB.out.trans (hV.mono HB.out.size))
    have HN1 := hide (HNEXT.out k s _ HOP.out hk hs5 rfl)
    have hle : (0 : Int) ≤ (s : Int) ∧ (s : Int) ≤ (n : Int) := ⟨by omega, by omega⟩
    generalize (⟨(fstL (t.data.toList.drop s)).toArray⟩ : ByteArray) = LN at *
    go_wp2_with fail
    refine HL1.out.mono ?_
    rintro e W1 ⟨rfl, hb1⟩
    have HRd := hide (HR1.out W1 hb1)
    have HX1 := hide hb1
    clear HL1 HR1 hb1 c0
    go_wp2_with fail
    refine HRd.out.mono ?_
    rintro e W2 ⟨hE2, hb2⟩
    have HX2 : Hid (Below wr.heap.size wr W2) := HX1.out.trans (hb2.mono HX1.out.size)
    have HB2 : Hid (Below w.heap.size w W2) := HB.out.trans (HX2.out.mono HB.out.size)
    clear HRd hb2 HX1
    rcases hE2 with ⟨d, c, m, ring, rv, hM, rfl, hRg, hln⟩ | ⟨ev, rfl, hno⟩
    · obtain ⟨n1, n2, n3, n4, n5⟩ := HN1.out.1 d c m ring hM hln
      have HN := hide n1
      have HN5 := hide n5
      have HSz : Hid ((lns (A.take (k + 1))).length = s + LN.size) := by
        have := HLS.out k _ n1
        rw [HLL.out, ← lnB_size, hln] at this
        exact this
      have HTK := hide (HLE.out k _ n1)
      have hkn : k + 1 ≤ N := n2
      have HENT : Hid (Ent W2 (.iface 49 (.agg #[.int .i64 (d : Int), .int .i64 (c : Int), .string m, rv])) (txB d c m ring).data.toList) := ⟨d, c, m, ring, rv, hM, rfl, hRg, rfl⟩
      have HE2 : Hid (Ents W2 xs (A.take k)) := HE.out.keep (StrK.of HX2.out)
      have hp2 : W2.heap[w.heap.size]? = some (.cells #[.slice ua k uc] 25) := (HX2.out.block _ (Array.getElem?_eq_some_iff.1 HP.out).1).trans HP.out
      have HP2 := hide hp2
      have HOW2 : Hid (W2.ownsRow w.heap.size 40 1 (.slice ua k uc) k xs) := fr_block HOW.out (fun g hg => HX2.out.block g (HOW.out.lt g hg).2)
      obtain ⟨g9, o9, cap9, cur9, fr9, erv, -⟩ := hRg.mem
      generalize ring.length = l9 at *
      subst erv
      have c2 : W2.cell? ⟨w.heap.size, 0, none⟩ = some (.slice ua k uc) := by rw [World.cell?, hp2]; rfl
      have hs9 : ((LN.size : Nat) : Int) = (LN.size : Int) := rfl
      have HZ2 := hide HB2.out.size
      have hk9 : k < 1000 := by have := HLIM.out; omega
      have HSL : Hid (s + LN.size ≤ n ∧ 0 < LN.size) := ⟨n4, n3⟩
      obtain ⟨LS, hLS⟩ : ∃ LS, LN.size = LS := ⟨_, rfl⟩
      rw [hLS] at HSz HN5 HSL
      clear hM hRg hln n1 n2 n3 n4 n5 HN1 hp2 hs9 HE HOW HP HREAD HNEXT HLINE
      go_wp2_with (at_builtin; refine wpList_append_keep _ rfl _ _ 23 rfl w.heap.size 40 i0 .nilIface 1 16 Tryd.underlying23 hi hz0 hz1 hz2 rfl (by decide) _ _ _ rfl (HOW2.out.alloc _) ⟨W2.heap.size, 0, none⟩ 1 1 [.iface 49 (.agg #[.int .i64 (d : Int), .int .i64 (c : Int), .string m, .slice (some ⟨g9, o9, none⟩) l9 cap9])] rfl rfl (cell_one_new _ _ _) ?c1 ?c2 ?c3 ?c4 ?_)
      case c1 => intro u hu; simp at hu; subst hu; rfl
      case c2 => unfold maxLen; omega
      case c3 => omega
      case c4 => have := HZ2.out; simp; omega
      intro v' W3 hO3 hg3 hl3
      have hg23 : W2.grownBy W3 (Value.slice ua k uc).ownBlock := (World.grownBy_alloc W2 _ _).trans hg3
      have HSK : Hid (StrK W2 W3) := StrK.grown HOW2.out hg23
      have hp3 : W3.heap[w.heap.size]? = some (.cells #[.slice ua k uc] 25) := (hg23.block _ (Array.getElem?_eq_some_iff.1 HP2.out).1 (bk_apart HOW2.out HP2.out)).trans HP2.out
      have HB3 : Hid (Below w.heap.size w W3) := HB2.out.grown hg23 HZ2.out (fun k hk => (HOW2.out.lt k hk).1)
      obtain ⟨va, vc, ev⟩ := row_form hO3
      subst ev
      have c3 : W3.cell? ⟨w.heap.size, 0, none⟩ = some (.slice ua k uc) := by rw [World.cell?, hp3]; rfl
      have f3 : W3.frozen? ⟨w.heap.size, 0, none⟩ = false := by simp [World.frozen?, hp3]
      have HP4 : Hid ((W3.setCell ⟨w.heap.size, 0, none⟩ (.slice va (k + 1) vc)).heap[w.heap.size]? = some (.cells #[.slice va (k + 1) vc] 25)) := set1 hp3 _
      have HO4 : Hid ((W3.setCell ⟨w.heap.size, 0, none⟩ (.slice va (k + 1) vc)).ownsRow w.heap.size 40 1 (.slice va (k + 1) vc) (k + 1) (xs ++ [.iface 49 (.agg #[.int .i64 (d : Int), .int .i64 (c : Int), .string m, .slice (some ⟨g9, o9, none⟩) l9 cap9])])) := fr_block hO3 (fun g hg => setCell_at W3 _ _ g (fun e => bk_apart hO3 hp3 (by rw [hg, e])))
      have HE4 : Hid (Ents (W3.setCell ⟨w.heap.size, 0, none⟩ (.slice va (k + 1) vc)) (xs ++ [.iface 49 (.agg #[.int .i64 (d : Int), .int .i64 (c : Int), .string m, .slice (some ⟨g9, o9, none⟩) l9 cap9])]) (A.take (k + 1))) := by
        show Ents _ _ _
        rw [HTK.out]
        exact ((HE2.out.keep HSK.out).snoc (HENT.out.keep HSK.out)).keep (StrK.set hp3 (by decide) _)
      have HB4 : Hid (Below w.heap.size w (W3.setCell ⟨w.heap.size, 0, none⟩ (.slice va (k + 1) vc))) := HB3.out.setCell (p := ⟨w.heap.size, 0, none⟩) (Nat.le_refl _) _
      have HXL : Hid ((xs ++ [Value.iface 49 (.agg #[.int .i64 (d : Int), .int .i64 (c : Int), .string m, .slice (some ⟨g9, o9, none⟩) l9 cap9])]).length = k + 1) := by show _ = _; rw [List.length_append, HX.out]; rfl
      clear hO3 hg3 hl3 hg23 hp3 HE2 HENT HOW2 HP2 c2
      obtain ⟨hq1, hq2⟩ := HSL.out
      go_wp2
      go_roundw
      case rel => exact ⟨k + 1, s + LS, _, _, hkn, hq1, by go_num, HXL, HP4, HO4, HE4, HN5, HSz, HB4⟩
      case measure => simp [RowKit.intOf]; omega
    · have hkN := HN1.out.2 hno
      subst hkN
      have hEA : Ents W2 xs A := by have := HE.out.keep (StrK.of HX2.out); rwa [HTk.out] at this
      have HEA := hide hEA
      have HLs : Hid ((lns A).length = s) := by have := HLL.out; rwa [HTk.out] at this
      have hp2 : W2.heap[w.heap.size]? = some (.cells #[.slice ua k uc] 25) := (HX2.out.block _ (Array.getElem?_eq_some_iff.1 HP.out).1).trans HP.out
      have HP2 := hide hp2
      have HOW2 : Hid (W2.ownsRow w.heap.size 40 1 (.slice ua k uc) k xs) := fr_block HOW.out (fun g hg => HX2.out.block g (HOW.out.lt g hg).2)
      clear hEA hno hp2 HN1 HREAD HNEXT HLINE HP HOW HE HOP
      go_wp2
      go_ret2
      exact ⟨_, _, xs, by rw [HLs.out]; rfl, Nat.le_refl _, HP2.out, by rw [HX.out]; exact HOW2.out, HEA.out, HB2.out⟩

end Go.Proofs.YtffnfchekbafmaaDoor

/- Contract: (*Book).Add. -/
namespace Go.Proofs.YtffnfchekbafmaaDoor
open Go.RowKit Go.Lib
set_option maxRecDepth 100000
set_option linter.unusedVariables false

/-- Only block p is written, and new ones. -/
structure But (p : Nat) (w w' : World) : Prop where
  os : w'.os = w.os
  tape : w'.tape = w.tape
  output : w'.output = w.output
  size : w.heap.size ≤ w'.heap.size
  block : ∀ b, b < w.heap.size → b ≠ p → w'.heap[b]? = w.heap[b]?

theorem But.of {p : Nat} {w w' : World} (h : Below w.heap.size w w') : But p w w' := ⟨h.os, h.tape, h.output, h.size, fun b hb _ => h.block b hb⟩

theorem But.trans {p : Nat} {a b c : World} (h : But p a b) (k : But p b c) : But p a c :=
  ⟨k.os.trans h.os, k.tape.trans h.tape, k.output.trans h.output, Nat.le_trans h.size k.size, fun x hx hp => (k.block x (Nat.lt_of_lt_of_le hx h.size) hp).trans (h.block x hx hp)⟩

theorem But.below {p B : Nat} {w w' : World} (h : But p w w') (hB : B ≤ p) (hw : B ≤ w.heap.size) : Below B w w' := ⟨h.os, h.tape, h.output, h.size, fun b hb => h.block b (Nat.lt_of_lt_of_le hb hw) (by omega)⟩

theorem But.str {p : Nat} {w w' : World} {cur : Array Value} {t : TypeId} {fr : Nat × Nat} (h : But p w w') (hp : w.heap[p]? = some (.cells cur t fr)) (ht : t ≠ 9) : StrK w w' := fun b cur2 fr2 e => by
  have hb := (Array.getElem?_eq_some_iff.1 e).1
  refine (h.block b hb (fun hk => ?_)).trans e
  subst hk
  rw [hp] at e
  injection e with e
  injection e with _ e2 _
  exact ht e2

set_option maxHeartbeats 1000000 in
theorem clip_ok (a : Option Addr) (n cap : Nat) (w : World) (h : n ≤ cap) (hc : cap ≤ 9223372036854775807) :
    Calls Tryd.prog 11 #[.slice a n cap] w fun e w' => e = .returned (.slice a n n) ∧ w = w' := by
  go_enter Tryd.func11, Tryd.ntmps11
  go_wp2
  go_ret
  exact ⟨rfl, rfl⟩

set_option maxHeartbeats 8000000 in
theorem add_ok (p B : Nat) (v : Value) (xs : List Value) (Ts : List (List UInt8)) (d c : Nat) (m : ByteArray) (rv : Value) (ring : List ByteArray) (w : World) (hp : w.heap[p]? = some (.cells #[v] 25)) (ho : w.ownsRow B 40 1 v xs.length xs) (hE : Ents w xs Ts) (hr : RgAt w rv ring) (hM : MayR (d : Int) (c : Int) m ring) (hl : xs.length < 1000) :
    Calls Tryd.prog 4 #[.pointer (some ⟨p, 0, none⟩), .agg #[.int .i64 (d : Int), .int .i64 (c : Int), .string m, rv]] w fun e w' => ∃ (v' x : Value), e = .returned (.int .i64 0) ∧ w'.heap[p]? = some (.cells #[v'] 25) ∧ w'.ownsRow w.heap.size 40 1 v' (xs.length + 1) (xs ++ [x]) ∧ Ents w' (xs ++ [x]) (Ts ++ [(txB d c m ring).data.toList]) ∧ But p w w' := by
  obtain ⟨i0, hi, hz0, hz1, hz2⟩ := info_parts Tryd.info40
  have hpl := (Array.getElem?_eq_some_iff.1 hp).1
  obtain ⟨W, hW⟩ : ∃ W, W = w.alloc (.cells #[.int .i64 (d : Int), .int .i64 (c : Int), .string m, rv] 30) := ⟨_, rfl⟩
  have hbW : Below w.heap.size w W := by rw [hW]; exact (Below.refl _ _).alloc (Nat.le_refl _) _
  have hh : W.heap[w.heap.size]? = some (.cells #[.int .i64 (d : Int), .int .i64 (c : Int), .string m, rv] 30) := by rw [hW]; exact heap_alloc_new w _
  have k0 : W.cell? ⟨w.heap.size, 0, none⟩ = some (.int .i64 (d : Int)) := by simp [World.cell?, hh]
  have k1 : W.cell? ⟨w.heap.size, 1, none⟩ = some (.int .i64 (c : Int)) := by simp [World.cell?, hh]
  have k2 : W.cell? ⟨w.heap.size, 2, none⟩ = some (.string m) := by simp [World.cell?, hh]
  have k3 : W.cell? ⟨w.heap.size, 3, none⟩ = some rv := by simp [World.cell?, hh]
  have HEn : Hid (Calls Tryd.prog 9 #[.agg #[.int .i64 (d : Int), .int .i64 (c : Int), .string m, rv]] W fun e w' => (∃ v', e = .returned (.iface 49 (.agg #[.int .i64 (d : Int), .int .i64 (c : Int), .string m, v'])) ∧ RgS w' v' ring) ∧ Below W.heap.size W w') := by
    refine (enter_ok (d : Int) (c : Int) m rv ring W (hr.below hbW) (by have := nm_size hM.name; omega) (fun x hx => by have := nm_size (hM.names x hx); omega) hM.some).mono ?_
    rintro e w' ⟨h | h, hb⟩
    · exact ⟨h.2, hb⟩
    · exact absurd hM h.1
  have HBW := hide hbW
  have HW := hide hW
  have HP := hide hp
  have HO := hide ho
  have HE := hide hE
  have HM := hide hM
  have HL := hide hl
  obtain ⟨va, vc, ev⟩ := row_form ho
  have HCL : Hid (xs.length ≤ vc ∧ vc ≤ 9223372036854775807 ∧ (va = none → xs.length = 0) ∧ ∀ b, va = some b → ∃ g, b = ⟨g, 0, none⟩ ∧ g < w.heap.size ∧ ∀ (j : Nat) (x : Value), xs[j]? = some x → w.cell? ⟨g, j, none⟩ = some x) := by
    rcases ho.2 with ⟨e1, e2⟩ | ⟨g, cap, cur, e1, hg, hg2, hn1, hn2, hn3, hn4⟩
    · rw [ev] at e1
      simp only [Value.slice.injEq] at e1
      obtain ⟨e3, _, e4⟩ := e1
      exact ⟨by omega, by omega, fun _ => e2, fun b hb => by rw [e3] at hb; cases hb⟩
    · rw [ev] at e1
      simp only [Value.slice.injEq] at e1
      obtain ⟨e3, _, e4⟩ := e1
      refine ⟨by omega, by unfold maxLen at hn2; omega, fun hn => (by rw [e3] at hn; cases hn), fun b hb => ⟨g, ?_, (Array.getElem?_eq_some_iff.1 hg2).1, fun j x hj => ?_⟩⟩
      · rw [e3] at hb; injection hb with hb; exact hb.symm
      · have hjl : j < xs.length := (List.getElem?_eq_some_iff.1 hj).1
        rw [← hn4, List.getElem?_take, if_pos (by omega), Array.getElem?_toList] at hj
        rw [World.cell?, hg2]
        exact hj
  have HX : Hid (∃ n, n = xs.length) := ⟨_, rfl⟩
  obtain ⟨n, hn⟩ : ∃ n, xs.length = n := ⟨_, rfl⟩
  rw [hn] at ev HCL HO HL
  rw [hn]
  have HN := hide hn
  subst ev
  clear hp ho hE hr hM hl hW hbW hh hn HX
  go_enter Tryd.func4, Tryd.ntmps4
  rw [HW.out] at HEn k0 k1 k2 k3
  go_wp2_with fail
  refine HEn.out.mono ?_
  rintro e W1 ⟨⟨v', rfl, hRg⟩, hb1⟩
  have HB1 : Hid (Below w.heap.size w W1) := by have := HBW.out; rw [HW.out] at this; exact this.trans (hb1.mono this.size)
  have HRg := hide hRg
  obtain ⟨g9, o9, cap9, cur9, fr9, erv, -⟩ := hRg.mem
  generalize hl9 : ring.length = l9 at *
  have HL9 := hide hl9
  clear hb1 hRg k0 k1 k2 k3 HEn hl9
  subst erv
  go_wp2_with fail
  refine (fault_peal _ _ _ _ _).mono ?_
  rintro e W2 ⟨rfl, hb2⟩
  have HB2 : Hid (Below w.heap.size w W2) := HB1.out.trans (hb2.mono HB1.out.size)
  have HRg2 : Hid (RgS W2 (.slice (some ⟨g9, o9, none⟩) l9 cap9) ring) := HRg.out.keep (StrK.of hb2)
  have hp2 : W2.heap[p]? = some (.cells #[.slice va n vc] 25) := (HB2.out.block p hpl).trans HP.out
  have HP2 := hide hp2
  have c2 : W2.cell? ⟨p, 0, none⟩ = some (.slice va n vc) := by rw [World.cell?, hp2]; rfl
  have hlt : decide ((1000 : Int) ≤ (n : Int)) = false := decide_eq_false (by have := HL.out; omega)
  have hn9 : n < 1000 := HL.out
  have hfull : n ≤ vc := HCL.out.1
  have HCP := hide (clip_ok va n vc W2 HCL.out.1 HCL.out.2.1)
  clear hb2 hp2 HRg
  go_wp2_with fail
  refine HCP.out.mono ?_
  rintro e W3 ⟨rfl, rfl⟩
  have HZ2 := hide HB2.out.size
  have HC2 : Hid (∀ b, va = some b → ∀ (j : Nat) (u : Value), xs[j]? = some u → W2.cell? (b.add j) = some u) := fun b hb j u hj => by
    obtain ⟨g, rfl, hg, hc⟩ := HCL.out.2.2.2 b hb
    rw [Addr.add_lit, Nat.zero_add]
    exact (HB2.out.cell (p := ⟨g, j, none⟩) hg).trans (hc j u hj)
  have HCA : Hid (∀ (o : Obj) (b : Addr), va = some b → ∀ (j : Nat) (u : Value), xs[j]? = some u → (W2.alloc o).cell? (b.add j) = some u) := fun o b hb j u hj => by
    obtain ⟨g, rfl, hg, hc⟩ := HCL.out.2.2.2 b hb
    have h9 := HC2.out _ hb j u hj
    rw [Addr.add_lit, Nat.zero_add] at h9 ⊢
    exact (World.cell?_of_block (w := W2) (a := ⟨g, j, none⟩) (heap_alloc_old W2 o (Nat.lt_of_lt_of_le hg HB2.out.size))).trans h9
  go_wp2_with (at_builtin; refine wpList_append_grows _ rfl _ _ 23 rfl 40 i0 .nilIface 1 16 Tryd.underlying23 hi hz0 hz1 hz2 rfl (by decide) va n n xs rfl ?c1 ?c2 (HCA.out _) ⟨W2.heap.size, 0, none⟩ 1 1 [.iface 49 (.agg #[.int .i64 (d : Int), .int .i64 (c : Int), .string m, .slice (some ⟨g9, o9, none⟩) l9 cap9])] rfl rfl (cell_one_new _ _ _) ?c3 ?c4 ?c5 ?c6 ?_)
  case c1 => intro h; have := HCL.out.2.2.1 h; have h5 := HN.out; constructor <;> omega
  case c2 => rw [HN.out, Nat.mul_one]
  case c3 => intro u hu; simp at hu; subst hu; rfl
  case c4 => omega
  case c5 => unfold maxLen; omega
  case c6 => omega
  intro u' W4 hO4 hg4
  have hg24 : W2.grownBy W4 none := (World.grownBy_alloc W2 _ _).trans hg4
  have HB4 : Hid (Below w.heap.size w W4) := HB2.out.trans (((Below.refl _ _).grown hg24 (Nat.le_refl _) (fun k hk => by cases hk)).mono HB2.out.size)
  obtain ⟨ua, uc, eu⟩ := row_form hO4
  subst eu
  have hp4 : W4.heap[p]? = some (.cells #[.slice va n vc] 25) := (HB4.out.block p hpl).trans HP.out
  have c4 : W4.cell? ⟨p, 0, none⟩ = some (.slice va n vc) := by rw [World.cell?, hp4]; rfl
  have f4 : W4.frozen? ⟨p, 0, none⟩ = false := by simp [World.frozen?, hp4]
  have HP5 : Hid ((W4.setCell ⟨p, 0, none⟩ (.slice ua (n + 1) uc)).heap[p]? = some (.cells #[.slice ua (n + 1) uc] 25)) := set1 hp4 _
  have HO5 : Hid ((W4.setCell ⟨p, 0, none⟩ (.slice ua (n + 1) uc)).ownsRow w.heap.size 40 1 (.slice ua (n + 1) uc) (n + 1) (xs ++ [.iface 49 (.agg #[.int .i64 (d : Int), .int .i64 (c : Int), .string m, .slice (some ⟨g9, o9, none⟩) l9 cap9])])) := fr_block (row_low hO4 (by have h5 := HZ2.out; have h6 := World.size_alloc W2 (.cells #[.iface 49 (.agg #[.int .i64 (d : Int), .int .i64 (c : Int), .string m, .slice (some ⟨g9, o9, none⟩) l9 cap9])] 40); omega)) (fun g hg => setCell_at W4 _ _ g (fun e => bk_apart hO4 hp4 (by rw [hg, e])))
  have HSK : Hid (StrK W2 W4) := StrK.of ((Below.refl _ _).grown hg24 (Nat.le_refl _) (fun k hk => by cases hk))
  have HE5 : Hid (Ents (W4.setCell ⟨p, 0, none⟩ (.slice ua (n + 1) uc)) (xs ++ [.iface 49 (.agg #[.int .i64 (d : Int), .int .i64 (c : Int), .string m, .slice (some ⟨g9, o9, none⟩) l9 cap9])]) (Ts ++ [(txB d c m ring).data.toList])) :=
    (((HE.out.keep (StrK.of HB2.out)).snoc ⟨d, c, m, ring, _, HM.out, rfl, HRg2.out, rfl⟩).keep HSK.out).keep (StrK.set hp4 (by decide) _)
  have HBt : Hid (But p w (W4.setCell ⟨p, 0, none⟩ (.slice ua (n + 1) uc))) := by
    have h1 := But.of (p := p) HB4.out
    refine ⟨h1.os, h1.tape, h1.output, by rw [World.size_setCell]; exact h1.size, fun b hb hbp => (setCell_at W4 _ _ b hbp).trans (h1.block b hb hbp)⟩
  clear hO4 hg4 hg24 hp4 c2 HC2 HCA HE HRg2
  go_wp2
  go_ret
  exact ⟨_, _, rfl, HP5.out, HO5.out, HE5.out, HBt.out⟩

end Go.Proofs.YtffnfchekbafmaaDoor

/- Contract: Pick. -/
namespace Go.Proofs.YtffnfchekbafmaaDoor
open Go.RowKit

set_option maxHeartbeats 400000 in
theorem pick_any (c n : Int) (w : World) (h1 : -9223372036854775808 ≤ c) (h2 : c ≤ 9223372036854775807) (h3 : 0 < n) (h4 : n ≤ 9223372036854775807) :
    Calls Tryd.prog 7 #[.int .i64 c, .int .i64 n] w fun e w' => ∃ k : Int, 0 ≤ k ∧ k < n ∧ e = .returned (.int .i64 k) ∧ w = w' := by
  by_cases h : c < 0
  · go_enter Tryd.func7, Tryd.ntmps7
    go_wp2
    go_ret
    refine ⟨_, ?_, ?_, rfl, rfl⟩
    · rw [← Int.neg_tmod]; exact Int.tmod_nonneg _ (by omega)
    · rw [← Int.neg_tmod]; exact Int.tmod_lt_of_pos _ h3
  · go_enter Tryd.func7, Tryd.ntmps7
    go_wp2
    go_ret
    refine ⟨_, ?_, ?_, rfl, rfl⟩
    · exact Int.emod_nonneg _ (by omega)
    · exact Int.emod_lt_of_pos _ h3

/-- Which of n things a raw number speaks of. -/
def pk (c n : Int) : Int := (if c < 0 then -(c + 1) else c) % n

theorem pk_range (c : Int) {n : Int} (h : 0 < n) : 0 ≤ pk c n ∧ pk c n < n := ⟨Int.emod_nonneg _ (by omega), Int.emod_lt_of_pos _ h⟩

set_option maxHeartbeats 400000 in
theorem pick_det (c n : Int) (w : World) (h1 : -9223372036854775808 ≤ c) (h2 : c ≤ 9223372036854775807) (h3 : 0 < n) (h4 : n ≤ 9223372036854775807) :
    Calls Tryd.prog 7 #[.int .i64 c, .int .i64 n] w fun e w' => e = .returned (.int .i64 (pk c n)) ∧ w = w' := by
  by_cases h : c < 0
  · have HP : Hid (pk c n = (-(c + 1)) % n) := by show _ = _; unfold pk; rw [if_pos h]
    go_enter Tryd.func7, Tryd.ntmps7
    go_wp2
    go_ret
    refine ⟨ret_int ?_, rfl⟩
    rw [HP.out, ← Int.neg_tmod, Int.tmod_eq_emod_of_nonneg (by omega)]
  · have HP : Hid (pk c n = c % n) := by show _ = _; unfold pk; rw [if_neg h]
    go_enter Tryd.func7, Tryd.ntmps7
    go_wp2
    go_ret
    exact ⟨ret_int HP.out.symm, rfl⟩

end Go.Proofs.YtffnfchekbafmaaDoor
