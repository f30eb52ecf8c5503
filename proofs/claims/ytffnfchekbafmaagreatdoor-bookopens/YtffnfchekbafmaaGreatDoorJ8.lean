/- Joined: BoQ, BoR, BoS. -/
import Derived.Test.YtffnfchekbafmaaGreatDoorJ4
import Derived.Test.YtffnfchekbafmaaGreatDoorJ7
import Derived.Lib.AppendStr
import Derived.Lib.SlBytesRow
import Derived.Shelf.Bytes.SlSearch0
/- Entries and books in memory; the first line of bytes. -/
namespace Go.Proofs.YtffnfchekbafmaaGreatDoor
open Go.RowKit Go.Lib
set_option maxRecDepth 100000
set_option linter.unusedVariables false

/-- An entry in memory, and its text. -/
def Ent (w : World) (x : Value) (T : List UInt8) : Prop := ∃ (d c : Nat) (m : ByteArray) (ring : List ByteArray) (v : Value), MayR (d : Int) (c : Int) m ring ∧ x = .iface 75 (.agg #[.int .i64 (d : Int), .int .i64 (c : Int), .string m, v]) ∧ RgS w v ring ∧ T = (txB d c m ring).data.toList

theorem Ent.keep {w w' : World} {x : Value} {T : List UInt8} (h : Ent w x T) (k : StrK w w') : Ent w' x T := by
  obtain ⟨d, c, m, ring, v, h1, h2, h3, h4⟩ := h
  exact ⟨d, c, m, ring, v, h1, h2, h3.keep k, h4⟩

/-- A text that is one of a record that may be. -/
def PT (T : List UInt8) : Prop := ∃ (d c : Nat) (m : ByteArray) (ring : List ByteArray), MayR (d : Int) (c : Int) m ring ∧ T = (txB d c m ring).data.toList

theorem PT.cln (T : List UInt8) (h : PT T) : Cln T := by
  obtain ⟨d, c, m, ring, h1, rfl⟩ := h
  exact tx_cln h1

theorem Ent.pt {w : World} {x : Value} {T : List UInt8} (h : Ent w x T) : PT T := by
  obtain ⟨d, c, m, ring, v, h1, _, _, h4⟩ := h
  exact ⟨d, c, m, ring, h1, h4⟩

theorem PT.size {T : List UInt8} (h : PT T) : T.length ≤ 3892 := by
  obtain ⟨d, c, m, ring, h1, rfl⟩ := h
  have s0 : (⟨(decDigits d).toArray⟩ : ByteArray).size ≤ 20 := dec_len (by have := h1.d1; omega)
  have s1 : (⟨(decDigits c).toArray⟩ : ByteArray).size ≤ 20 := dec_len (by have := h1.c2; omega)
  have s2 : m.size ≤ 80 := by have := nm_size h1.name; omega
  have s3 : (jnB 44 ring).size ≤ ring.length * (80 + 1) := jnL_len44 (fun x hx => by have := nm_size (h1.names x hx); omega) 44
  have s4 := h1.few
  have s5 : ring.length * (80 + 1) ≤ 12 * (80 + 1) := Nat.mul_le_mul_right _ s4
  have s6 : (txB d c m ring).size ≤ 4 * (972 + 1) := jnL_len44 (xs := [⟨(decDigits d).toArray⟩, ⟨(decDigits c).toArray⟩, m, jnB 44 ring]) (M := 972) (fun x hx => by
    simp only [List.mem_cons, List.not_mem_nil, or_false] at hx
    rcases hx with rfl | rfl | rfl | rfl <;> omega) 124
  rw [Array.length_toList]
  show (txB d c m ring).size ≤ _
  omega

theorem lnOf_le {T : List UInt8} (h : PT T) : (lnOf T).length ≤ 3914 := by
  have h1 := h.size
  have h2 : (⟨(decDigits (chkN T)).toArray⟩ : ByteArray).size ≤ 20 := dec_len (by have := chkN_lt T; omega)
  have h3 : (decDigits (chkN T)).length ≤ 20 := by
    have h4 : (⟨(decDigits (chkN T)).toArray⟩ : ByteArray).size = (decDigits (chkN T)).length := List.size_toArray ..
    omega
  rw [lnOf_length]
  omega

theorem lns_le : ∀ {Ts : List (List UInt8)}, (∀ T, T ∈ Ts → PT T) → (lns Ts).length ≤ Ts.length * 3914
  | [], _ => by simp [lns]
  | T :: Ts, h => by
    have h1 := lns_le (fun S hS => h S (List.mem_cons_of_mem _ hS))
    have h2 := lnOf_le (h T List.mem_cons_self)
    rw [lns_cons, List.length_append, List.length_cons, Nat.add_mul]
    omega

/-- Entries one behind the other. -/
def Ents (w : World) (xs : List Value) (Ts : List (List UInt8)) : Prop := xs.length = Ts.length ∧ ∀ (j : Nat) (x : Value) (T : List UInt8), xs[j]? = some x → Ts[j]? = some T → Ent w x T

theorem Ents.keep {w w' : World} {xs : List Value} {Ts : List (List UInt8)} (h : Ents w xs Ts) (k : StrK w w') : Ents w' xs Ts := ⟨h.1, fun j x T h1 h2 => (h.2 j x T h1 h2).keep k⟩

theorem Ents.snoc {w : World} {xs : List Value} {Ts : List (List UInt8)} {x : Value} {T : List UInt8} (h : Ents w xs Ts) (hx : Ent w x T) : Ents w (xs ++ [x]) (Ts ++ [T]) := by
  refine ⟨by rw [List.length_append, List.length_append, h.1]; rfl, fun j y S h1 h2 => ?_⟩
  by_cases hj : j < xs.length
  · rw [List.getElem?_append_left hj] at h1
    rw [List.getElem?_append_left (by rw [← h.1]; exact hj)] at h2
    exact h.2 j y S h1 h2
  · rw [List.getElem?_append_right (by omega)] at h1
    rw [List.getElem?_append_right (by rw [← h.1]; omega), ← h.1] at h2
    obtain ⟨k, hk⟩ : ∃ k, k = j - xs.length := ⟨_, rfl⟩
    rw [← hk] at h1 h2
    match k, h1, h2 with
    | 0, h1, h2 =>
      simp at h1 h2
      subst h1 h2
      exact hx
    | k + 1, h1, _ => simp at h1

theorem Ents.pt {w : World} {xs : List Value} {Ts : List (List UInt8)} (h : Ents w xs Ts) : ∀ T, T ∈ Ts → PT T := fun T hT => by
  obtain ⟨j, hj⟩ := List.getElem?_of_mem hT
  have hl : j < xs.length := by rw [h.1]; exact (List.getElem?_eq_some_iff.1 hj).1
  exact (h.2 j _ T (List.getElem?_eq_getElem hl) hj).pt

/-- A slice value that reads as these cells. -/
def SlAt (w : World) (v : Value) (xs : List Value) : Prop := ∃ a cap, v = .slice a xs.length cap ∧ xs.length ≤ cap ∧ cap ≤ 9223372036854775807 ∧ (a = none → xs.length = 0 ∧ cap = 0) ∧ (xs.length = 0 ∨ ∃ g o, a = some ⟨g, o, none⟩ ∧ g < w.heap.size ∧ ∀ (j : Nat) (x : Value), xs[j]? = some x → w.cell? ⟨g, o + j, none⟩ = some x)

theorem SlAt.own {w : World} {base e : Nat} {v : Value} {xs : List Value} (h : w.ownsRow base e 1 v xs.length xs) : SlAt w v xs := by
  rcases h.2 with ⟨rfl, h0⟩ | ⟨g, cap, cur, rfl, hg, hh, h1, h2, h3, h4⟩
  · exact ⟨none, 0, by rw [h0], by omega, by decide, fun _ => ⟨h0, rfl⟩, Or.inl h0⟩
  · refine ⟨_, cap, rfl, h1, by unfold maxLen at h2; omega, fun e => (by cases e), Or.inr ⟨g, 0, rfl, (Array.getElem?_eq_some_iff.1 hh).1, fun j x hj => ?_⟩⟩
    have hjl : j < xs.length := (List.getElem?_eq_some_iff.1 hj).1
    rw [← h4, List.getElem?_take, if_pos (by omega), Array.getElem?_toList] at hj
    rw [World.cell?, hh, Nat.zero_add]
    exact hj

theorem SlAt.below {w w' : World} {v : Value} {xs : List Value} (h : SlAt w v xs) (hb : Below w.heap.size w w') : SlAt w' v xs := by
  obtain ⟨a, cap, e, h1, h2, h3, h4⟩ := h
  refine ⟨a, cap, e, h1, h2, h3, h4.imp id ?_⟩
  rintro ⟨g, o, ea, hg, hc⟩
  exact ⟨g, o, ea, Nat.lt_of_lt_of_le hg hb.size, fun j x hj => (hb.cell (p := ⟨g, o + j, none⟩) hg).trans (hc j x hj)⟩

/-- Bytes behind a slice value. -/
def BySl (w : World) (v : Value) (t : ByteArray) : Prop := ∃ a cap, v = .slice a t.size cap ∧ t.size ≤ cap ∧ cap ≤ 9223372036854775807 ∧ (a = none → cap = 0) ∧ (t.size = 0 ∨ ∃ g o, a = some ⟨g, o, none⟩ ∧ g < w.heap.size ∧ Lib.Bytes w g o t)

theorem BySl.below {w w' : World} {v : Value} {t : ByteArray} (h : BySl w v t) (hb : Below w.heap.size w w') : BySl w' v t := by
  obtain ⟨a, cap, e, h1, h2, h3, h4⟩ := h
  refine ⟨a, cap, e, h1, h2, h3, h4.imp id ?_⟩
  rintro ⟨g, o, ea, hg, hc⟩
  exact ⟨g, o, ea, Nat.lt_of_lt_of_le hg hb.size, fun i hi => (hb.cell (p := ⟨g, o + i, none⟩) hg).trans (hc i hi)⟩

/-- The cells of bytes. -/
def bcs (l : List UInt8) : List Value := l.map (fun b => Value.int .u8 b.toNat)

theorem bcs_length (l : List UInt8) : (bcs l).length = l.length := List.length_map ..

theorem BySl.own {w : World} {base e : Nat} {v : Value} {l : List UInt8} (h : w.ownsRow base e 1 v l.length (bcs l)) : BySl w v ⟨l.toArray⟩ := by
  have hsz : (⟨l.toArray⟩ : ByteArray).size = l.length := List.size_toArray ..
  rcases h.2 with ⟨rfl, h0⟩ | ⟨g, cap, cur, rfl, hg, hh, h1, h2, h3, h4⟩
  · exact ⟨none, 0, by rw [hsz, h0], by omega, by decide, fun _ => rfl, Or.inl (by omega)⟩
  · refine ⟨_, cap, by rw [hsz], by omega, by unfold maxLen at h2; omega, fun e => (by cases e), Or.inr ⟨g, 0, rfl, (Array.getElem?_eq_some_iff.1 hh).1, fun i hi => ?_⟩⟩
    have hil : i < l.length := by omega
    have hj : (bcs l)[i]? = some (Value.int .u8 l[i].toNat) := by unfold bcs; rw [List.getElem?_map, List.getElem?_eq_getElem hil]; rfl
    rw [← h4, List.getElem?_take, if_pos (by omega), Array.getElem?_toList] at hj
    rw [World.cell?, hh, Nat.zero_add]
    have hj2 : cur[i]? = some (Value.int .u8 l[i].toNat) := hj
    exact hj2

/-! the first line -/

theorem ixB_nl : ∀ (l : List UInt8), (Lib.indexByte l 10) + 1 = (nlA l : Int)
  | [] => rfl
  | b :: l => by
    have ih := ixB_nl l
    have hg := Lib.indexByte_ge l 10
    unfold Lib.indexByte
    unfold nlA at ih ⊢
    rw [List.findIdx?_cons]
    by_cases hb : (b == 10) = true
    · rw [if_pos hb, if_pos hb]; rfl
    · rw [if_neg hb, if_neg hb]
      cases hf : l.findIdx? (fun b => b == 10) with
      | none =>
        rw [hf] at ih
        have h1 : Lib.indexByte l 10 = -1 := by have : Lib.indexByte l 10 + 1 = ((0 : Nat) : Int) := ih; omega
        rw [h1]; rfl
      | some i =>
        rw [hf] at ih
        have h1 : Lib.indexByte l 10 = (i : Int) := by have : Lib.indexByte l 10 + 1 = ((i + 1 : Nat) : Int) := ih; omega
        have h2 : (Lib.indexByte l 10 == -1) = false := by rw [beq_eq_false_iff_ne]; omega
        rw [h2, h1]
        show (i : Int) + 1 + 1 = ((i + 1 + 1 : Nat) : Int)
        omega

theorem nlA_le (l : List UInt8) : nlA l ≤ l.length := by
  unfold nlA
  cases hf : l.findIdx? (fun b => b == 10) with
  | none => exact Nat.zero_le _
  | some i =>
    have := (List.findIdx?_eq_some_iff_findIdx_eq.1 hf).1
    exact this

theorem fstL_size (l : List UInt8) : (fstL l).length = nlA l := by unfold fstL; rw [List.length_take]; have := nlA_le l; omega

theorem run_convert_empty9 (a : Option Addr) (cap : Nat) (w : World) : (convert 22 9 (.slice a 0 cap)).run Tryz.prog w = .ok (.string ⟨([] : List UInt8).toArray⟩) w := by
  cases a with
  | none => exact run_convert_bytes_nil (P := Tryz.prog) w 22 5 Tryz.underlying22 Tryz.underlying5 0 cap 9 Tryz.underlying9
  | some a =>
    have hl : (loadCells a 0).run Tryz.prog w = .ok (([] : List Int).map (Value.int .u8)).toArray w := by
      have := run_loadCells_list (P := Tryz.prog) w a [] (fun j v hj => by simp at hj)
      simpa using this
    rw [run_convert_bytes_string w 22 9 5 _ 0 cap Tryz.underlying22 Tryz.underlying5 Tryz.underlying9, run_bytesToString w _ 0 cap [] hl]
    rfl

set_option maxHeartbeats 1000000 in
theorem firstLine_ok (v : Value) (t : ByteArray) (w : World) (h : BySl w v t) :
    Calls Tryz.prog 10 #[v] w fun e w' => e = .returned (.string ⟨(fstL t.data.toList).toArray⟩) ∧ Below w.heap.size w w' := by
  obtain ⟨a, cap, rfl, h1, h2, h3, h4⟩ := h
  have hnl : nlA t.data.toList ≤ t.size := by have := nlA_le t.data.toList; rwa [Array.length_toList] at this
  have HI : Hid (Calls Tryz.prog 16 #[.slice a t.size cap, .int .u8 10] w fun e w' => e = .returned (.int .i64 ((nlA t.data.toList : Int) - 1)) ∧ w' = w) := by
    have hix := ixB_nl t.data.toList
    rcases h4 with h0 | ⟨g, o, rfl, hg, hb⟩
    · cases a with
      | none =>
        rw [h0, h3 rfl]
        refine (Any.bytes_IndexByte_nil (P := Tryz.prog) (ρ := rnBk) blIxb 10 w).mono ?_
        rintro e w' ⟨rfl, rfl⟩
        have : nlA t.data.toList = 0 := by omega
        rw [this]
        exact ⟨rfl, rfl⟩
      | some a =>
        rw [h0]
        refine (Any.bytes_IndexByte_at (P := Tryz.prog) (ρ := rnBk) blIxb a 0 cap [] 10 w rfl (fun i hi => absurd hi (by omega))).mono ?_
        rintro e w' ⟨rfl, rfl⟩
        have : nlA t.data.toList = 0 := by omega
        rw [this]
        exact ⟨rfl, rfl⟩
    · refine (Any.bytes_IndexByte_bytes (P := Tryz.prog) (ρ := rnBk) blIxb g o cap t 10 w hb).mono ?_
      rintro e w' ⟨rfl, rfl⟩
      refine ⟨?_, rfl⟩
      show Ending.returned (.int .i64 (Lib.indexByte t.data.toList 10)) = _
      rw [show (nlA t.data.toList : Int) - 1 = Lib.indexByte t.data.toList 10 by omega]
  have HC : Hid ((convert 22 9 (.slice a (nlA t.data.toList) cap)).run Tryz.prog w = .ok (.string ⟨(fstL t.data.toList).toArray⟩) w) := by
    rcases Nat.eq_zero_or_pos (nlA t.data.toList) with hz | hz
    · show _ = _
      unfold fstL
      rw [hz]
      rw [List.take_zero]
      exact run_convert_empty9 a cap w
    · rcases h4 with h0 | ⟨g, o, rfl, hg, hb⟩
      · omega
      · have h9 := Lib.run_convert_window (P := Tryz.prog) w 22 5 9 Tryz.underlying22 Tryz.underlying5 Tryz.underlying9 g o t hb 0 (nlA t.data.toList) cap (by omega)
        rw [Nat.add_zero, Nat.zero_add] at h9
        show _ = _
        rw [h9]
        congr 2
        apply ByteArray.ext
        apply Array.toList_inj.1
        unfold fstL
        simp [ByteArray.data_extract, Array.toList_extract]
  generalize hR : (⟨(fstL t.data.toList).toArray⟩ : ByteArray) = R at *
  generalize hN : nlA t.data.toList = N at *
  generalize hT : t.size = T at *
  clear hR hN hT h4
  go_enter Tryz.func10, Tryz.ntmps10
  go_wp2_with fail
  refine HI.out.mono ?_
  rintro e w' ⟨rfl, rfl⟩
  have hC := HC.out
  have hw : IntKind.i64.wrap ((N : Int) - 1 + 1) = (N : Int) := by rw [show (N : Int) - 1 + 1 = (N : Int) by omega]; rw [IntKind.wrap_i64]; omega
  clear HI HC
  go_wp2
  go_ret
  exact ⟨rfl, Below.refl _ _⟩

end Go.Proofs.YtffnfchekbafmaaGreatDoor

/- Contract: (*Book).Bytes. -/
namespace Go.Proofs.YtffnfchekbafmaaGreatDoor
open Go.RowKit Go.Lib
set_option maxRecDepth 100000
set_option linter.unusedVariables false

theorem lnE_succ {Ts : List (List UInt8)} {k : Nat} {T : List UInt8} (h : Ts[k]? = some T) : lns (Ts.take (k + 1)) = lns (Ts.take k) ++ lnOf T := by
  rw [List.take_add_one, h, lns_append]
  show lns (Ts.take k) ++ lns [T] = _
  rw [lns_cons]
  simp [lns]

theorem lnB_cells (d c : Nat) (m : ByteArray) (ring : List ByteArray) : Lib.strCells (lnB (txB d c m ring)) = bcs (lnOf (txB d c m ring).data.toList) := by
  unfold Lib.strCells bcs
  rw [lnB_data]

theorem lnB_size (d c : Nat) (m : ByteArray) (ring : List ByteArray) : (lnB (txB d c m ring)).size = (lnOf (txB d c m ring).data.toList).length := by
  rw [← lnB_data, Array.length_toList]; rfl

set_option maxHeartbeats 4000000 in
theorem bytes_ok (p : Nat) (fr : Nat × Nat) (v : Value) (xs : List Value) (Ts : List (List UInt8)) (w : World) (hp : w.heap[p]? = some (.cells #[v] 36 fr)) (hs : SlAt w v xs) (hE : Ents w xs Ts) (ht : Tab10 w) (hl : xs.length ≤ 1000) :
    Calls Tryz.prog 9 #[.pointer (some ⟨p, 0, none⟩)] w fun e w' => ∃ u, e = .returned u ∧ w'.ownsRow w.heap.size 5 1 u (lns Ts).length (bcs (lns Ts)) ∧ Below w.heap.size w w' := by
  obtain ⟨i0, hi, hz0, hz1, hz2⟩ := info_parts Tryz.info5
  have hcp : w.cell? ⟨p, 0, none⟩ = some v := by simp [World.cell?, hp]
  have HPt := hE.pt
  have HLN : Hid (∀ k, (lns (Ts.take k)).length ≤ 3914000) := fun k => by
    have h1 := lns_le (Ts := Ts.take k) (fun T hT => HPt T (List.mem_of_mem_take hT))
    rw [List.length_take] at h1
    have h2 : min k Ts.length * 3914 ≤ 1000 * 3914 := Nat.mul_le_mul_right _ (by have := hE.1; omega)
    omega
  have HTl : Hid (Ts.take xs.length = Ts) := List.take_of_length_le (by rw [hE.1]; exact Nat.le_refl _)
  obtain ⟨a, cap, rfl, h1, h2, h3, h4⟩ := hs
  have HST : Hid (∀ k, k < xs.length → ∃ (d c : Nat) (m : ByteArray) (ring : List ByteArray) (g9 o9 n9 cap9 : Nat) (g o : Nat), a = some ⟨g, o, none⟩ ∧ g < w.heap.size ∧ w.cell? ⟨g, o + k, none⟩ = some (.iface 75 (.agg #[.int .i64 (d : Int), .int .i64 (c : Int), .string m, .slice (some ⟨g9, o9, none⟩) n9 cap9])) ∧ MayR (d : Int) (c : Int) m ring ∧ RgS w (.slice (some ⟨g9, o9, none⟩) n9 cap9) ring ∧ lns (Ts.take (k + 1)) = lns (Ts.take k) ++ lnOf (txB d c m ring).data.toList) := fun k hk => by
    obtain ⟨T, hT⟩ : ∃ T, Ts[k]? = some T := ⟨_, List.getElem?_eq_getElem (by rw [← hE.1]; exact hk)⟩
    obtain ⟨x, hx⟩ : ∃ x, xs[k]? = some x := ⟨_, List.getElem?_eq_getElem hk⟩
    obtain ⟨d, c, m, ring, rv, e1, rfl, e3, rfl⟩ := hE.2 k x T hx hT
    obtain ⟨g9, o9, cap9, cur9, fr9, rfl, -⟩ := e3.mem
    rcases h4 with h0 | ⟨g, o, ea, hg, hc⟩
    · omega
    · exact ⟨d, c, m, ring, g9, o9, _, cap9, g, o, ea, hg, hc k _ hx, e1, e3, lnE_succ hT⟩
  have HG := hide ht
  generalize hL : xs.length = L at *
  have hL9 : L ≤ 1000 := hl
  clear hL hE h4 h3 HPt ht hp
  have hcp' := hcp
  go_enter Tryz.func9, Tryz.ntmps9
  go_wp2
  go_loopw [3, 11] (fun tv iv wr => ∃ (k : Nat) (ua : Option Addr) (un uc : Nat), k ≤ L ∧ tv = .slice ua un uc ∧ iv = .int .i64 (k : Int) ∧ Hid (wr.ownsRow w.heap.size 5 1 (.slice ua un uc) (lns (Ts.take k)).length (bcs (lns (Ts.take k)))) ∧ Hid (Below w.heap.size w wr)) (fun _ iv _ => L - (RowKit.intOf iv).toNat)
  case atStart => exact ⟨0, none, 0, 0, Nat.zero_le _, rfl, rfl, World.ownsRow_nil _ _ _ _, Below.refl _ _⟩
  case round =>
    obtain ⟨k, ua, un, uc, hk, rfl, rfl, HO, HB⟩ := hrel
    by_cases hlt : k < L
    · have hi1 : (k : Int) < (L : Int) := by omega
      obtain ⟨d, c, m, ring, g9, o9, n9, cap9, g, o, rfl, hg, hcell, hM, hRg, hsn⟩ := HST.out k hlt
      have hc1 : wr.cell? ⟨g, o + k, none⟩ = some (.iface 75 (.agg #[.int .i64 (d : Int), .int .i64 (c : Int), .string m, .slice (some ⟨g9, o9, none⟩) n9 cap9])) := (HB.out.cell (p := ⟨g, o + k, none⟩) hg).trans hcell
      have HLn : Hid (Calls Tryz.prog 107 #[.agg #[.int .i64 (d : Int), .int .i64 (c : Int), .string m, .slice (some ⟨g9, o9, none⟩) n9 cap9]] wr fun e w' => e = .returned (.string (lnB (txB d c m ring))) ∧ Below wr.heap.size wr w') := by
        have d1 := hM.d1
        have c2 := hM.c2
        exact line_ok d c m _ ring wr (HG.out.below HB.out) (hRg.keep (StrK.of HB.out)).rg (by omega) (by omega) (by have := nm_size hM.name; omega) (fun x hx => by have := nm_size (hM.names x hx); omega) hM.some hM.few
      have HSz := hide (lnB_size d c m ring)
      have HCl := hide (lnB_cells d c m ring)
      have HLk := hide (HLN.out (k + 1))
      have HSN := hide hsn
      have HLk2 : Hid ((lns (Ts.take k)).length + (lnB (txB d c m ring)).size ≤ 3914000) := by
        have := HLk.out
        rw [hsn, List.length_append, ← HSz.out] at this
        exact this
      have HFIN : Hid (∀ (v' : Value) (w2 : World), w2.ownsRow w.heap.size 5 1 v' ((lns (Ts.take k)).length + (lnB (txB d c m ring)).size) (bcs (lns (Ts.take k)) ++ Lib.strCells (lnB (txB d c m ring))) → w2.ownsRow w.heap.size 5 1 v' (lns (Ts.take (k + 1))).length (bcs (lns (Ts.take (k + 1))))) := fun v' w2 h => by
        rw [HSN.out, List.length_append, ← HSz.out]
        unfold bcs
        rw [List.map_append]
        have := HCl.out
        unfold bcs at this h
        rw [← this]
        exact h
      clear hsn hM hRg hcell
      generalize hA : lns (Ts.take k) = A at *
      generalize lnB (txB d c m ring) = LB at *
      generalize hAl : A.length = Al at *
      generalize hAc : bcs A = Ac at *
      clear HSN HSz HCl hA hAl hAc HLk
      go_wp2_with fail
      refine HLn.out.mono ?_
      rintro e W1 ⟨rfl, hb1⟩
      have HO1 : Hid (W1.ownsRow w.heap.size 5 1 (.slice ua un uc) Al Ac) := fr_block HO.out (fun g hg => hb1.block g (HO.out.lt g hg).2)
      have HB1 : Hid (Below w.heap.size w W1) := HB.out.trans (hb1.mono HB.out.size)
      have HZ := hide HB1.out.size
      clear hb1 HLn
      go_wp2_with (at_builtin; refine Lib.wpList_append_own_string _ rfl _ _ 22 9 rfl w.heap.size 5 i0 Tryz.underlying22 Tryz.underlying9 hi hz0 hz1 hz2 _ _ _ rfl HO1.out LB rfl ?c3 ?c4 ?c5 ?_)
      case c3 => have := HLk2.out; unfold maxLen; omega
      case c4 => have := HLk2.out; omega
      case c5 => exact HZ.out
      intro v' w2 h4 hg4 _
      have HF := hide (HFIN.out v' w2 h4)
      obtain ⟨va, vc, ev⟩ := row_form h4
      have HB2 : Hid (Below w.heap.size w w2) := HB1.out.grown hg4 HZ.out (fun k hk => (HO1.out.lt k hk).1)
      clear h4 hg4 HFIN
      subst ev
      go_wp2
      go_roundw
      case rel => exact ⟨k + 1, va, _, vc, by omega, rfl, by go_num, HF, HB2⟩
      case measure => simp [RowKit.intOf]; omega
    · have hi1 : decide ((k : Int) < (L : Int)) = false := decide_eq_false (by omega)
      obtain rfl : k = L := by omega
      rw [HTl.out] at HO
      go_wp2
      go_ret
      exact ⟨_, rfl, HO.out, HB.out⟩

end Go.Proofs.YtffnfchekbafmaaGreatDoor

/- Contract: Open. -/
namespace Go.Proofs.YtffnfchekbafmaaGreatDoor
open Go.RowKit Go.Lib
set_option maxRecDepth 100000
set_option linter.unusedVariables false

theorem Tryz.info39 : (Tryz.prog.info? 39).map (fun i => (i.zero, i.size, i.bytes)) = some (some .nilIface, 1, 16) := by kernel_rfl

theorem StrK.grown {w w' : World} {base n : Nat} {u : Value} {xs : List Value} (h : w.ownsRow base 39 1 u n xs) (hg : w.grownBy w' u.ownBlock) : StrK w w' := fun b cur fr e => by
  have hb := (Array.getElem?_eq_some_iff.1 e).1
  refine (hg.block b hb (fun hk => ?_)).trans e
  rcases h.2 with ⟨rfl, _⟩ | ⟨g, cap, cur2, rfl, hgb, hh, _⟩
  · cases hk
  · have hk2 : b = g := by simpa [Value.ownBlock] using hk
    subst hk2
    rw [hh] at e
    injection e with e
    injection e with _ e2 _
    exact absurd e2 (by decide)

theorem bk_apart {w : World} {base n p : Nat} {u v : Value} {xs : List Value} {fr : Nat × Nat} (h : w.ownsRow base 39 1 u n xs) (hp : w.heap[p]? = some (.cells #[v] 36 fr)) : some p ≠ u.ownBlock := fun hk => by
  rcases h.2 with ⟨rfl, _⟩ | ⟨g, cap, cur2, rfl, hgb, hh, _⟩
  · cases hk
  · have hk2 : p = g := by simpa [Value.ownBlock] using hk
    subst hk2
    rw [hp] at hh
    injection hh with e
    injection e with _ e2 _
    exact absurd e2 (by decide)

theorem tail_data (t : ByteArray) (s : Nat) : (t.extract s t.size).data.toList = t.data.toList.drop s := by
  rw [ByteArray.data_extract, Array.toList_extract, List.extract_eq_take_drop, List.take_of_length_le]
  rw [List.length_drop, Array.length_toList]
  exact Nat.le_refl _

theorem tail_size (t : ByteArray) (s : Nat) : (t.extract s t.size).size = t.size - s := by rw [ByteArray.size_extract]; omega

/-- The rest of bytes. -/
theorem by_tail {w : World} {a : Option Addr} {cap : Nat} {t : ByteArray} (h : BySl w (.slice a t.size cap) t) (s : Nat) (hs : s ≤ t.size) : BySl w (sliced a s t.size cap 1) (t.extract s t.size) := by
  obtain ⟨a', cap', e, h1, h2, h3, h4⟩ := h
  injection e with e1 _ e2
  subst e1 e2
  unfold sliced
  refine ⟨if cap = s then a else a.map (·.add (s * 1)), cap - s, by rw [tail_size], by rw [tail_size]; omega, by omega, fun e => ?_, ?_⟩
  · by_cases hc : cap = s
    · omega
    · rw [if_neg hc] at e
      cases a with
      | none => have := h3 rfl; omega
      | some x => simp at e
  · rw [tail_size]
    by_cases hz : t.size - s = 0
    · exact Or.inl hz
    · right
      rcases h4 with h0 | ⟨g, o, rfl, hg, hb⟩
      · omega
      · refine ⟨g, o + s, ?_, hg, fun i hi => ?_⟩
        · rw [if_neg (by omega)]
          simp [Addr.add]
        · rw [tail_size] at hi
          have hi2 : s + i < t.size := by omega
          rw [Nat.add_assoc, hb (s + i) hi2]
          congr 3
          have e1 : (t.extract s t.size).data.toList[i]? = t.data.toList[s + i]? := by rw [tail_data, List.getElem?_drop]
          have e2 : (t.extract s t.size).data.toList[i]? = some (t.extract s t.size)[i] := by
            rw [Array.getElem?_toList]; exact Array.getElem?_eq_getElem (by show i < (t.extract s t.size).size; rw [tail_size]; omega)
          have e3 : t.data.toList[s + i]? = some t[s + i] := by
            rw [Array.getElem?_toList]; exact Array.getElem?_eq_getElem hi2
          rw [e2, e3] at e1
          injection e1 with e1
          rw [e1]

theorem set1 {w : World} {b : Nat} {t : TypeId} {x : Value} (h : w.heap[b]? = some (.cells #[x] t)) (y : Value) : (w.setCell ⟨b, 0, none⟩ y).heap[b]? = some (.cells #[y] t) := by
  simp [World.setCell, Array.getElem?_modify, h]

set_option maxHeartbeats 8000000 in
theorem open_ok (v : Value) (t : ByteArray) (A : List (List UInt8)) (w : World) (h : BySl w v t) (hg : Glk w) (hs : t.size ≤ 100000) (hO : Opn PT t.data.toList A) (hA : A.length < 1000) :
    Calls Tryz.prog 4 #[v] w fun e w' => ∃ (p : Nat) (u : Value) (xs : List Value), e = .returned (.tuple #[.pointer (some ⟨p, 0, none⟩), .int .i64 ((lns A).length : Int)]) ∧ w.heap.size ≤ p ∧ w'.heap[p]? = some (.cells #[u] 36) ∧ w'.ownsRow w.heap.size 39 1 u xs.length xs ∧ Ents w' xs A ∧ Below w.heap.size w w' := by
  obtain ⟨i0, hi, hz0, hz1, hz2⟩ := info_parts Tryz.info39
  have hv := h
  obtain ⟨a, cap, rfl, h1, h2, h3, h4⟩ := h
  obtain ⟨P, hP⟩ : ∃ P, P = w.heap.size := ⟨_, rfl⟩
  have hwb : Below w.heap.size w (w.alloc (.cells #[.slice none 0 0] 36)) := (Below.refl _ _).alloc (Nat.le_refl _) _
  have hwp := heap_alloc_new w (.cells #[.slice none 0 0] 36)
  -- one line
  have HLINE : Hid (∀ (s : Nat) (V : World), s ≤ t.size → Below w.heap.size w V → Calls Tryz.prog 10 #[sliced a s t.size cap 1] V fun e w' => e = .returned (.string ⟨(fstL (t.data.toList.drop s)).toArray⟩) ∧ Below V.heap.size V w') := fun s V hs hb => by
    have := firstLine_ok (sliced a s t.size cap 1) (t.extract s t.size) V (by_tail (hv.below hb) s hs)
    rw [tail_data] at this
    exact this
  have HREAD : Hid (∀ (s : Nat) (V : World), s ≤ t.size → Below w.heap.size w V → Calls Tryz.prog 11 #[.string ⟨(fstL (t.data.toList.drop s)).toArray⟩] V (RdE ⟨(fstL (t.data.toList.drop s)).toArray⟩ V)) := fun s V hs2 hb => by
    refine readEntry_ok _ V (hg.below hb) ?_
    show (fstL (t.data.toList.drop s)).toArray.size ≤ _
    rw [List.size_toArray, fstL_size]
    have h9 := nlA_le (t.data.toList.drop s)
    rw [List.length_drop, Array.length_toList] at h9
    have : t.data.size = t.size := rfl
    omega
  -- what is next
  have HNEXT : Hid (∀ (k s : Nat) (line : ByteArray), Opn PT (t.data.toList.drop s) (A.drop k) → k ≤ A.length → s ≤ t.size → line = ⟨(fstL (t.data.toList.drop s)).toArray⟩ →
      (∀ (d c : Nat) (m : ByteArray) (ring : List ByteArray), MayR (d : Int) (c : Int) m ring → lnB (txB d c m ring) = line → A[k]? = some (txB d c m ring).data.toList ∧ k < A.length ∧ 0 < line.size ∧ s + line.size ≤ t.size ∧ Opn PT (t.data.toList.drop (s + line.size)) (A.drop (k + 1))) ∧
      ((∀ (d c : Nat) (m : ByteArray) (ring : List ByteArray), MayR (d : Int) (c : Int) m ring → lnB (txB d c m ring) ≠ line) → k = A.length)) := fun k s line hk hkl hs2 hl => by
    have hld : line.data.toList = fstL (t.data.toList.drop s) := by rw [hl]
    have hls : line.size = (fstL (t.data.toList.drop s)).length := by rw [← hld, Array.length_toList]; rfl
    refine ⟨fun d c m ring hM he => ?_, fun hno => ?_⟩
    · have he2 : lnOf (txB d c m ring).data.toList = fstL (t.data.toList.drop s) := by rw [← hld, ← he, lnB_data]
      generalize hB : A.drop k = B at *
      cases hk with
      | stop hst => exact absurd he2.symm (hst _ ⟨d, c, m, ring, hM, rfl⟩)
      | @more _ T Ts q1 q2 q3 =>
        have eT := lnOf_inj (tx_cln hM) (PT.cln _ q1) (he2.trans q2)
        subst eT
        have hkl2 : k < A.length := by
          rcases Nat.lt_or_ge k A.length with h | h
          · exact h
          · rw [List.drop_eq_nil_of_le h] at hB; cases hB
        have hkd : A[k]? = some (txB d c m ring).data.toList := by
          have : (A.drop k)[0]? = some (txB d c m ring).data.toList := by rw [hB]; rfl
          rwa [List.getElem?_drop, Nat.add_zero] at this
        have hsz : line.size = (lnOf (txB d c m ring).data.toList).length := by rw [hls, q2]
        refine ⟨hkd, hkl2, by rw [hsz]; exact lnOf_pos _, ?_, ?_⟩
        · rw [hls, fstL_size]
          have h9 := nlA_le (t.data.toList.drop s)
          rw [List.length_drop, Array.length_toList] at h9
          have : t.data.size = t.size := rfl
          omega
        · rw [hsz, ← List.drop_drop]
          have hB2 : A.drop (k + 1) = Ts := by rw [← List.drop_drop, hB]; rfl
          rw [hB2]
          exact q3
    · generalize hB : A.drop k = B at *
      cases hk with
      | stop hst =>
        have : (A.drop k).length = 0 := by rw [hB]; rfl
        rw [List.length_drop] at this
        omega
      | @more _ T Ts q1 q2 q3 =>
        obtain ⟨d, c, m, ring, hM, rfl⟩ := q1
        refine absurd ?_ (hno d c m ring hM)
        rw [hl, q2]
        rfl
  have HTk : Hid (A.take A.length = A) := List.take_length
  have HLE : Hid (∀ k T, A[k]? = some T → A.take (k + 1) = A.take k ++ [T]) := fun k T h => by rw [List.take_add_one, h]; rfl
  have HLS : Hid (∀ k T, A[k]? = some T → (lns (A.take (k + 1))).length = (lns (A.take k)).length + (lnOf T).length) := fun k T h => by rw [lnE_succ h, List.length_append]
  have HO := hide hO
  generalize hn : t.size = n at *
  generalize hAl : A.length = N at *
  have HLIM : Hid (N < 1000) := hA
  clear hv h4 h3 hO hg hA hn hAl
  go_enter Tryz.func4, Tryz.ntmps4
  go_wp2
  go_loopw [5] (fun sv wr => ∃ (k s : Nat) (u : Value) (xs : List Value), k ≤ N ∧ s ≤ n ∧ sv = .int .i64 (s : Int) ∧ Hid (xs.length = k) ∧ Hid (wr.heap[w.heap.size]? = some (.cells #[u] 36)) ∧ Hid (wr.ownsRow w.heap.size 39 1 u k xs) ∧ Hid (Ents wr xs (A.take k)) ∧ Hid (Opn PT (t.data.toList.drop s) (A.drop k)) ∧ Hid ((lns (A.take k)).length = s) ∧ Hid (Below w.heap.size w wr)) (fun sv _ => n - (RowKit.intOf sv).toNat)
  case atStart => exact ⟨0, 0, .slice none 0 0, [], Nat.zero_le _, Nat.zero_le _, rfl, rfl, hwp, World.ownsRow_nil _ _ _ _, ⟨rfl, fun j x T h => by simp at h⟩, HO.out, rfl, hwb⟩
  case round =>
    obtain ⟨k, s, u, xs, hk, hs5, rfl, HX, HP, HOW, HE, HOP, HLL, HB⟩ := hrel
    obtain ⟨ua, uc, rfl⟩ := row_form HOW.out
    have c0 : wr.cell? ⟨w.heap.size, 0, none⟩ = some (.slice ua k uc) := by rw [World.cell?, HP.out]; rfl
    have hlim : (k : Int) < 1000 := by have := HLIM.out; omega
    obtain ⟨sa, hsa⟩ : ∃ sa, (if cap = s then a else Option.map (fun x => x.add s) a) = sa := ⟨_, rfl⟩
    have HL1 : Hid (Calls Tryz.prog 10 #[.slice sa (n - s) (cap - s)] wr fun e w' => e = .returned (.string ⟨(fstL (t.data.toList.drop s)).toArray⟩) ∧ Below wr.heap.size wr w') := by
      have := HLINE.out s wr hs5 HB.out
      unfold sliced at this
      rw [Nat.mul_one] at this
      rw [← hsa]
      exact this
    have HR1 : Hid (∀ V, Below wr.heap.size wr V → Calls Tryz.prog 11 #[.string ⟨(fstL (t.data.toList.drop s)).toArray⟩] V (RdE ⟨(fstL (t.data.toList.drop s)).toArray⟩ V)) := fun V hV => HREAD.out s V hs5 (HB.out.trans (hV.mono HB.out.size))
    have HN1 := hide (HNEXT.out k s _ HOP.out hk hs5 rfl)
    have hle : (0 : Int) ≤ (s : Int) ∧ (s : Int) ≤ (n : Int) := ⟨by omega, by omega⟩
    generalize (⟨(fstL (t.data.toList.drop s)).toArray⟩ : ByteArray) = LN at *
    go_wp2_with fail
    refine HL1.out.mono ?_
    rintro e W1 ⟨rfl, hb1⟩
    have HRd := hide (HR1.out W1 hb1)
    have HX1 := hide hb1
    clear HL1 HR1 hb1 c0
    go_wp2_with fail
    refine HRd.out.mono ?_
    rintro e W2 ⟨hE2, hb2⟩
    have HX2 : Hid (Below wr.heap.size wr W2) := HX1.out.trans (hb2.mono HX1.out.size)
    have HB2 : Hid (Below w.heap.size w W2) := HB.out.trans (HX2.out.mono HB.out.size)
    clear HRd hb2 HX1
    rcases hE2 with ⟨d, c, m, ring, rv, hM, rfl, hRg, hln⟩ | ⟨ev, rfl, hno⟩
    · obtain ⟨n1, n2, n3, n4, n5⟩ := HN1.out.1 d c m ring hM hln
      have HN := hide n1
      have HN5 := hide n5
      have HSz : Hid ((lns (A.take (k + 1))).length = s + LN.size) := by
        have := HLS.out k _ n1
        rw [HLL.out, ← lnB_size, hln] at this
        exact this
      have HTK := hide (HLE.out k _ n1)
      have hkn : k + 1 ≤ N := n2
      have HENT : Hid (Ent W2 (.iface 75 (.agg #[.int .i64 (d : Int), .int .i64 (c : Int), .string m, rv])) (txB d c m ring).data.toList) := ⟨d, c, m, ring, rv, hM, rfl, hRg, rfl⟩
      have HE2 : Hid (Ents W2 xs (A.take k)) := HE.out.keep (StrK.of HX2.out)
      have hp2 : W2.heap[w.heap.size]? = some (.cells #[.slice ua k uc] 36) := (HX2.out.block _ (Array.getElem?_eq_some_iff.1 HP.out).1).trans HP.out
      have HP2 := hide hp2
      have HOW2 : Hid (W2.ownsRow w.heap.size 39 1 (.slice ua k uc) k xs) := fr_block HOW.out (fun g hg => HX2.out.block g (HOW.out.lt g hg).2)
      obtain ⟨g9, o9, cap9, cur9, fr9, erv, -⟩ := hRg.mem
      generalize ring.length = l9 at *
      subst erv
      have c2 : W2.cell? ⟨w.heap.size, 0, none⟩ = some (.slice ua k uc) := by rw [World.cell?, hp2]; rfl
      have hs9 : ((LN.size : Nat) : Int) = (LN.size : Int) := rfl
      have HZ2 := hide HB2.out.size
      have hk9 : k < 1000 := by have := HLIM.out; omega
      have HSL : Hid (s + LN.size ≤ n ∧ 0 < LN.size) := ⟨n4, n3⟩
      obtain ⟨LS, hLS⟩ : ∃ LS, LN.size = LS := ⟨_, rfl⟩
      rw [hLS] at HSz HN5 HSL
      clear hM hRg hln n1 n2 n3 n4 n5 HN1 hp2 hs9 HE HOW HP HREAD HNEXT HLINE
      go_wp2_with (at_builtin; refine wpList_append_keep _ rfl _ _ 34 rfl w.heap.size 39 i0 .nilIface 1 16 Tryz.underlying34 hi hz0 hz1 hz2 rfl (by decide) _ _ _ rfl (HOW2.out.alloc _) ⟨W2.heap.size, 0, none⟩ 1 1 [.iface 75 (.agg #[.int .i64 (d : Int), .int .i64 (c : Int), .string m, .slice (some ⟨g9, o9, none⟩) l9 cap9])] rfl rfl (cell_one_new _ _ _) ?c1 ?c2 ?c3 ?c4 ?_)
      case c1 => intro u hu; simp at hu; subst hu; rfl
      case c2 => unfold maxLen; omega
      case c3 => omega
      case c4 => have := HZ2.out; simp; omega
      intro v' W3 hO3 hg3 hl3
      have hg23 : W2.grownBy W3 (Value.slice ua k uc).ownBlock := (World.grownBy_alloc W2 _ _).trans hg3
      have HSK : Hid (StrK W2 W3) := StrK.grown HOW2.out hg23
      have hp3 : W3.heap[w.heap.size]? = some (.cells #[.slice ua k uc] 36) := (hg23.block _ (Array.getElem?_eq_some_iff.1 HP2.out).1 (bk_apart HOW2.out HP2.out)).trans HP2.out
      have HB3 : Hid (Below w.heap.size w W3) := HB2.out.grown hg23 HZ2.out (fun k hk => (HOW2.out.lt k hk).1)
      obtain ⟨va, vc, ev⟩ := row_form hO3
      subst ev
      have c3 : W3.cell? ⟨w.heap.size, 0, none⟩ = some (.slice ua k uc) := by rw [World.cell?, hp3]; rfl
      have f3 : W3.frozen? ⟨w.heap.size, 0, none⟩ = false := by simp [World.frozen?, hp3]
      have HP4 : Hid ((W3.setCell ⟨w.heap.size, 0, none⟩ (.slice va (k + 1) vc)).heap[w.heap.size]? = some (.cells #[.slice va (k + 1) vc] 36)) := set1 hp3 _
      have HO4 : Hid ((W3.setCell ⟨w.heap.size, 0, none⟩ (.slice va (k + 1) vc)).ownsRow w.heap.size 39 1 (.slice va (k + 1) vc) (k + 1) (xs ++ [.iface 75 (.agg #[.int .i64 (d : Int), .int .i64 (c : Int), .string m, .slice (some ⟨g9, o9, none⟩) l9 cap9])])) := fr_block hO3 (fun g hg => setCell_at W3 _ _ g (fun e => bk_apart hO3 hp3 (by rw [hg, e])))
      have HE4 : Hid (Ents (W3.setCell ⟨w.heap.size, 0, none⟩ (.slice va (k + 1) vc)) (xs ++ [.iface 75 (.agg #[.int .i64 (d : Int), .int .i64 (c : Int), .string m, .slice (some ⟨g9, o9, none⟩) l9 cap9])]) (A.take (k + 1))) := by
        show Ents _ _ _
        rw [HTK.out]
        exact ((HE2.out.keep HSK.out).snoc (HENT.out.keep HSK.out)).keep (StrK.set hp3 (by decide) _)
      have HB4 : Hid (Below w.heap.size w (W3.setCell ⟨w.heap.size, 0, none⟩ (.slice va (k + 1) vc))) := HB3.out.setCell (p := ⟨w.heap.size, 0, none⟩) (Nat.le_refl _) _
      have HXL : Hid ((xs ++ [Value.iface 75 (.agg #[.int .i64 (d : Int), .int .i64 (c : Int), .string m, .slice (some ⟨g9, o9, none⟩) l9 cap9])]).length = k + 1) := by show _ = _; rw [List.length_append, HX.out]; rfl
      clear hO3 hg3 hl3 hg23 hp3 HE2 HENT HOW2 HP2 c2
      obtain ⟨hq1, hq2⟩ := HSL.out
      go_wp2
      go_roundw
      case rel => exact ⟨k + 1, s + LS, _, _, hkn, hq1, by go_num, HXL, HP4, HO4, HE4, HN5, HSz, HB4⟩
      case measure => simp [RowKit.intOf]; omega
    · have hkN := HN1.out.2 hno
      subst hkN
      have hEA : Ents W2 xs A := by have := HE.out.keep (StrK.of HX2.out); rwa [HTk.out] at this
      have HEA := hide hEA
      have HLs : Hid ((lns A).length = s) := by have := HLL.out; rwa [HTk.out] at this
      have hp2 : W2.heap[w.heap.size]? = some (.cells #[.slice ua k uc] 36) := (HX2.out.block _ (Array.getElem?_eq_some_iff.1 HP.out).1).trans HP.out
      have HP2 := hide hp2
      have HOW2 : Hid (W2.ownsRow w.heap.size 39 1 (.slice ua k uc) k xs) := fr_block HOW.out (fun g hg => HX2.out.block g (HOW.out.lt g hg).2)
      clear hEA hno hp2 HN1 HREAD HNEXT HLINE HP HOW HE HOP
      go_wp2
      go_ret2
      exact ⟨_, _, xs, by rw [HLs.out]; rfl, Nat.le_refl _, HP2.out, by rw [HX.out]; exact HOW2.out, HEA.out, HB2.out⟩

end Go.Proofs.YtffnfchekbafmaaGreatDoor
