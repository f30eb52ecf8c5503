/- Joined: BoV, BrG, BrH, BrI, BrJ, BrK. -/
import Derived.Test.YtffnfchekbafmaaGreatDoorJ11
import Derived.Test.YtffnfchekbafmaaGreatDoorJ9
import Derived.BigQuiet
/- Contract: the law TopBook, its first part. -/
namespace Go.Proofs.YtffnfchekbafmaaGreatDoor
open Go.RowKit Go.Lib
set_option maxRecDepth 100000
set_option linter.unusedVariables false

/-- Where each line ends. -/
def endsL (Ts : List (List UInt8)) : List Int := (List.range Ts.length).map (fun j => ((lnE Ts (j + 1) : Nat) : Int))

theorem endsL_length (Ts : List (List UInt8)) : (endsL Ts).length = Ts.length := by unfold endsL; simp

theorem endsL_get {Ts : List (List UInt8)} {k : Nat} (h : k < Ts.length) : (endsL Ts)[k]? = some ((lnE Ts (k + 1) : Nat) : Int) := by
  unfold endsL; simp [h]

theorem endsL_snoc (Ts : List (List UInt8)) (T : List UInt8) : endsL (Ts ++ [T]) = endsL Ts ++ [(((lns (Ts ++ [T])).length : Nat) : Int)] := by
  unfold endsL
  rw [List.length_append, List.length_singleton, List.range_succ, List.map_append]
  congr 1
  · apply List.map_congr_left
    intro j hj
    rw [List.mem_range] at hj
    unfold lnE
    rw [List.take_append_of_le_length (by omega)]
  · simp only [List.map_cons, List.map_nil]
    unfold lnE
    rw [List.take_of_length_le (by simp)]

theorem lnE_mono (Ts : List (List UInt8)) {i j : Nat} (h : i ≤ j) : lnE Ts i ≤ lnE Ts j := by
  unfold lnE
  have e : Ts.take i = (Ts.take j).take i := by rw [List.take_take, Nat.min_eq_left h]
  have e2 : Ts.take j = Ts.take i ++ (Ts.take j).drop i := by
    conv => lhs; rw [← List.take_append_drop i (Ts.take j)]
    rw [← e]
  rw [e2, lns_append, List.length_append]
  omega

theorem row_not {w : World} {base e n p : Nat} {u : Value} {xs : List Value} {cur : Array Value} {t : TypeId} {fr : Nat × Nat} (h : w.ownsRow base e 1 u n xs) (hp : w.heap[p]? = some (.cells cur t fr)) (ht : t ≠ e) : u.ownBlock ≠ some p := fun hk => by
  rcases h.2 with ⟨rfl, _⟩ | ⟨g, cap, cur2, rfl, hgb, hh, _⟩
  · cases hk
  · have hk2 : g = p := by simpa [Value.ownBlock] using hk
    subst hk2
    rw [hp] at hh
    injection hh with e
    injection e with _ e2 _
    exact ht e2

/-- What the first loop of TopBook knows. -/
structure TbR (w wr : World) (bp : Nat) (u : Value) (xs : List Value) (Ts : List (List UInt8)) (ev : Value) : Prop where
  bk : wr.heap[bp]? = some (.cells #[u] 36)
  own : wr.ownsRow w.heap.size 39 1 u xs.length xs
  ents : Ents wr xs Ts
  ends : wr.ownsRow w.heap.size 3 1 ev Ts.length ((endsL Ts).map (Value.int .i64))
  below : Below w.heap.size w wr

theorem TbR.on {w wr w' : World} {bp : Nat} {u ev : Value} {xs : List Value} {Ts : List (List UInt8)} (h : TbR w wr bp u xs Ts ev) (hb : Below wr.heap.size wr w') : TbR w w' bp u xs Ts ev :=
  ⟨(hb.block bp (Array.getElem?_eq_some_iff.1 h.bk).1).trans h.bk, fr_block h.own (fun g hg => hb.block g (h.own.lt g hg).2), h.ents.keep (StrK.of hb), fr_block h.ends (fun g hg => hb.block g (h.ends.lt g hg).2), h.below.trans (hb.mono h.below.size)⟩

theorem TbR.added {w wr w' : World} {bp : Nat} {u u' x ev : Value} {xs : List Value} {Ts : List (List UInt8)} {T : List UInt8} (h : TbR w wr bp u xs Ts ev) (hbp : w.heap.size ≤ bp) (h1 : w'.heap[bp]? = some (.cells #[u'] 36)) (h2 : w'.ownsRow wr.heap.size 39 1 u' (xs.length + 1) (xs ++ [x])) (h3 : Ents w' (xs ++ [x]) (Ts ++ [T])) (h4 : But bp wr w') :
    w'.heap[bp]? = some (.cells #[u'] 36) ∧ w'.ownsRow w.heap.size 39 1 u' (xs ++ [x]).length (xs ++ [x]) ∧ Ents w' (xs ++ [x]) (Ts ++ [T]) ∧ w'.ownsRow w.heap.size 3 1 ev Ts.length ((endsL Ts).map (Value.int .i64)) ∧ Below w.heap.size w w' := by
  refine ⟨h1, ?_, h3, ?_, h.below.trans (h4.below hbp h.below.size)⟩
  · rw [List.length_append]; exact row_low h2 h.below.size
  · exact fr_block h.ends (fun g hg => h4.block g (h.ends.lt g hg).2 (fun e => row_not h.ends h.bk (by decide) (by rw [hg, e])))

theorem TbR.made {w w3 w4 : World} {bp : Nat} {u ev ev' : Value} {xs : List Value} {Ts : List (List UInt8)} {T : List UInt8} (h : w3.heap[bp]? = some (.cells #[u] 36) ∧ w3.ownsRow w.heap.size 39 1 u xs.length xs ∧ Ents w3 xs (Ts ++ [T]) ∧ w3.ownsRow w.heap.size 3 1 ev Ts.length ((endsL Ts).map (Value.int .i64)) ∧ Below w.heap.size w w3)
    (hg : w3.grownBy w4 ev.ownBlock) (ho : w4.ownsRow w.heap.size 3 1 ev' (Ts.length + 1) ((endsL Ts).map (Value.int .i64) ++ [.int .i64 ((lns (Ts ++ [T])).length : Int)])) : TbR w w4 bp u xs (Ts ++ [T]) ev' := by
  obtain ⟨h1, h2, h3, h4, h5⟩ := h
  have hs : StrK w3 w4 := fun b cur fr e => by
    refine (hg.block b (Array.getElem?_eq_some_iff.1 e).1 (fun hk => ?_)).trans e
    exact row_not h4 e (by decide) hk.symm
  refine ⟨(hg.block bp (Array.getElem?_eq_some_iff.1 h1).1 (fun e => row_not h4 h1 (by decide) e.symm)).trans h1, fr_block h2 (fun g hgb => hg.block g (h2.lt g hgb).2 (fun e => fr_ty h2 h4 (by decide) g hgb e.symm)), h3.keep hs, ?_, h5.grown hg h5.size (fun k hk => (h4.lt k hk).1)⟩
  rw [endsL_snoc, List.map_append, List.length_append]
  exact ho

theorem tb5_on {w w3 w4 : World} {bp n m : Nat} {u ev : Value} {xs ys : List Value} {Ts : List (List UInt8)} (h : w3.heap[bp]? = some (.cells #[u] 36) ∧ w3.ownsRow w.heap.size 39 1 u n xs ∧ Ents w3 xs Ts ∧ w3.ownsRow w.heap.size 3 1 ev m ys ∧ Below w.heap.size w w3) (hb : Below w3.heap.size w3 w4) :
    w4.heap[bp]? = some (.cells #[u] 36) ∧ w4.ownsRow w.heap.size 39 1 u n xs ∧ Ents w4 xs Ts ∧ w4.ownsRow w.heap.size 3 1 ev m ys ∧ Below w.heap.size w w4 := by
  obtain ⟨h1, h2, h3, h4, h5⟩ := h
  exact ⟨(hb.block bp (Array.getElem?_eq_some_iff.1 h1).1).trans h1, fr_block h2 (fun g hg => hb.block g (h2.lt g hg).2), h3.keep (StrK.of hb), fr_block h4 (fun g hg => hb.block g (h4.lt g hg).2), h5.trans (hb.mono h5.size)⟩

theorem pre_bytes {w : World} {g o : Nat} {l : List UInt8} (h : Lib.Bytes w g o ⟨l.toArray⟩) (q : Nat) (hq : q ≤ l.length) : Lib.Bytes w g o ⟨(l.take q).toArray⟩ := fun i hi => by
  have hs : (⟨(l.take q).toArray⟩ : ByteArray).size = q := by show (l.take q).toArray.size = q; rw [List.size_toArray, List.length_take]; omega
  have hi2 : i < (⟨l.toArray⟩ : ByteArray).size := by show i < l.toArray.size; rw [List.size_toArray]; omega
  rw [h i hi2]
  have e : (⟨l.toArray⟩ : ByteArray)[i] = (⟨(l.take q).toArray⟩ : ByteArray)[i] := by
    show l.toArray[i] = (l.take q).toArray[i]
    rw [List.getElem_toArray, List.getElem_toArray, List.getElem_take]
  rw [e]

/-- The first bytes. -/
theorem by_take {w : World} {ba : Option Addr} {bc : Nat} {l : List UInt8} (h : BySl w (.slice ba l.length bc) ⟨l.toArray⟩) (q : Nat) (hq : q ≤ l.length) : BySl w (.slice ba q bc) ⟨(l.take q).toArray⟩ := by
  obtain ⟨a, cap, e, h1, h2, h3, h4⟩ := h
  simp only [Value.slice.injEq] at e
  obtain ⟨rfl, e2, rfl⟩ := e
  have hs : (⟨(l.take q).toArray⟩ : ByteArray).size = q := by show (l.take q).toArray.size = q; rw [List.size_toArray, List.length_take]; omega
  refine ⟨ba, bc, by rw [hs], by rw [hs]; omega, h2, h3, ?_⟩
  rcases h4 with h0 | ⟨g, o, ea, hg, hb⟩
  · left; rw [hs]; omega
  · exact Or.inr ⟨g, o, ea, hg, pre_bytes hb q hq⟩

theorem by_conv {w : World} {ba : Option Addr} {n bc : Nat} {t : ByteArray} (h : BySl w (.slice ba n bc) t) : (convert 22 9 (.slice ba n bc)).run Tryz.prog w = .ok (.string t) w := by
  obtain ⟨a, cap, e, h1, h2, h3, h4⟩ := h
  simp only [Value.slice.injEq] at e
  obtain ⟨rfl, rfl, rfl⟩ := e
  rcases h4 with h0 | ⟨g, o, rfl, hg, hb⟩
  · have ht : t = ⟨([] : List UInt8).toArray⟩ := by
      apply ByteArray.ext
      apply Array.eq_empty_of_size_eq_zero
      exact h0
    rw [h0, ht]
    exact run_convert_empty9 ba bc w
  · exact Lib.run_convert_whole (P := Tryz.prog) w 22 5 9 Tryz.underlying22 Tryz.underlying5 Tryz.underlying9 g o t hb bc

theorem lns_take (Ts : List (List UInt8)) (j : Nat) : (lns Ts).take (lnE Ts j) = lns (Ts.take j) := by
  unfold lnE
  have e : lns Ts = lns (Ts.take j) ++ lns (Ts.drop j) := by rw [← lns_append, List.take_append_drop]
  conv => lhs; rw [e]
  rw [List.take_append_of_le_length (Nat.le_refl _), List.take_length]

theorem bits_xor_u8 (a b : Nat) (ha : a < 256) (hb : b < 256) :
    bits .xor .u8 (a : Int) (b : Int) = ((a ^^^ b : Nat) : Int) := by
  have hx : a ^^^ b < 2 ^ 8 := Nat.xor_lt_two_pow (by omega) (by omega)
  have h1 : (BitVec.ofInt 8 (a : Int)).toNat = a := by
    rw [BitVec.ofInt_natCast, BitVec.toNat_ofNat]; exact Nat.mod_eq_of_lt (by omega)
  have h2 : (BitVec.ofInt 8 (b : Int)).toNat = b := by
    rw [BitVec.ofInt_natCast, BitVec.toNat_ofNat]; exact Nat.mod_eq_of_lt (by omega)
  show IntKind.u8.wrap ((BitVec.ofInt 8 (a : Int) ^^^ BitVec.ofInt 8 (b : Int)).toNat : Int) = _
  rw [BitVec.toNat_xor, h1, h2, show ∀ n : Int, IntKind.u8.wrap n = n % 256 from fun n => by simp [IntKind.wrap, IntKind.bits, IntKind.signed]]
  omega

theorem TbR.slat {w wr : World} {bp : Nat} {u ev : Value} {xs : List Value} {Ts : List (List UInt8)} (h : TbR w wr bp u xs Ts ev) : SlAt wr u xs := SlAt.own h.own

theorem TbR.few {w wr : World} {bp : Nat} {u ev : Value} {xs : List Value} {Ts : List (List UInt8)} (h : TbR w wr bp u xs Ts ev) (hn : Ts.length ≤ 20) : (lns Ts).length ≤ 78280 := by
  have h1 := lns_le h.ents.pt
  have : Ts.length * 3914 ≤ 20 * 3914 := Nat.mul_le_mul_right _ hn
  omega

end Go.Proofs.YtffnfchekbafmaaGreatDoor

/- Contract: the answer's OpenBook. -/
namespace Go.Proofs.YtffnfchekbafmaaGreatDoor
open Go.RowKit Go.Lib
set_option maxRecDepth 100000
set_option linter.unusedVariables false

theorem sub_data (t : ByteArray) (s k : Nat) : (t.extract s k).data.toList = (t.data.toList.drop s).take (k - s) := Go.Lib.extract_data ..

theorem sub_size (t : ByteArray) {s k : Nat} (hk : k ≤ t.size) : (t.extract s k).size = k - s := by rw [ByteArray.size_extract]; omega

theorem by_sub {w : World} {g o cap : Nat} {t : ByteArray} (h : Lib.Bytes w g o t) (hg : g < w.heap.size) (s k : Nat) (hs : s ≤ k) (hk : k ≤ t.size) (hcap : t.size ≤ cap) (hcm : cap ≤ 9223372036854775807) : BySl w (.slice (some ⟨g, o + s, none⟩) (k - s) (cap - s)) (t.extract s k) := by
  refine ⟨some ⟨g, o + s, none⟩, cap - s, by rw [sub_size t hk], by rw [sub_size t hk]; omega, by omega, (fun e => (by cases e)), Or.inr ⟨g, o + s, rfl, hg, fun i hi => ?_⟩⟩
  rw [sub_size t hk] at hi
  have hi2 : s + i < t.size := by omega
  rw [Nat.add_assoc, h (s + i) hi2]
  congr 3
  have e1 : (t.extract s k).data.toList[i]? = t.data.toList[s + i]? := by rw [sub_data, List.getElem?_take, if_pos (by omega), List.getElem?_drop]
  have e2 : (t.extract s k).data.toList[i]? = some (t.extract s k)[i] := by
    rw [Array.getElem?_toList]; exact Array.getElem?_eq_getElem (by show i < (t.extract s k).size; rw [sub_size t hk]; omega)
  have e3 : t.data.toList[s + i]? = some t[s + i] := by
    rw [Array.getElem?_toList]; exact Array.getElem?_eq_getElem hi2
  rw [e2, e3] at e1
  injection e1 with e1
  rw [e1]

/-- How far a book is opened. -/
structure OB (l : List UInt8) (A : List (List UInt8)) (j s k : Nat) : Prop where
  le : j ≤ A.length
  at_ : s = (lns (A.take j)).length
  sk : s ≤ k
  kl : k ≤ l.length
  opn : Opn PT (l.drop s) (A.drop j)
  no : ∀ x, x ∈ (l.drop s).take (k - s) → x ≠ 10
  pre : l.take s = lns (A.take j)

theorem OB.start {l : List UInt8} {A : List (List UInt8)} (h : Opn PT l A) : OB l A 0 0 0 :=
  ⟨Nat.zero_le _, rfl, Nat.le_refl _, Nat.zero_le _, h, fun x hx => by simp at hx, rfl⟩

theorem OB.split {l : List UInt8} {A : List (List UInt8)} {j s k : Nat} (h : OB l A j s k) (hk : k < l.length) : l.drop s = (l.drop s).take (k - s) ++ l[k] :: l.drop (k + 1) := by
  have h1 := (List.take_append_drop (k - s) (l.drop s)).symm
  have hsk := h.sk
  rw [List.drop_drop, show s + (k - s) = k from by omega, List.drop_eq_getElem_cons hk] at h1
  exact h1

theorem OB.miss {l : List UInt8} {A : List (List UInt8)} {j s k : Nat} (h : OB l A j s k) (hk : k < l.length) (hb : l[k] ≠ 10) : OB l A j s (k + 1) := by
  refine ⟨h.le, h.at_, by have := h.sk; omega, hk, h.opn, fun x hx => ?_, h.pre⟩
  have hsk := h.sk
  rw [show k + 1 - s = (k - s) + 1 from by omega, List.take_add_one] at hx
  rcases List.mem_append.1 hx with hx | hx
  · exact h.no x hx
  · rw [List.getElem?_drop, show s + (k - s) = k from by omega, List.getElem?_eq_getElem hk] at hx
    simp at hx
    rw [hx]
    exact hb

theorem OB.fst {l : List UInt8} {A : List (List UInt8)} {j s k : Nat} (h : OB l A j s k) (hk : k < l.length) (hb : l[k] = 10) : fstL (l.drop s) = (l.drop s).take (k - s) ++ [10] := by
  rw [h.split hk, hb]
  exact (fstL_at h.no).trans (by rw [show List.take (k - s) ((l.drop s).take (k - s) ++ 10 :: l.drop (k + 1)) = (l.drop s).take (k - s) from by
    rw [List.take_append_of_le_length (by rw [List.length_take, List.length_drop]; have := h.sk; omega), List.take_take, Nat.min_self]])

theorem OB.hit {l : List UInt8} {A : List (List UInt8)} {j s k : Nat} (h : OB l A j s k) (hk : k < l.length) (hb : l[k] = 10) {T : List UInt8} (hT : PT T) (he : lnOf T = (l.drop s).take (k - s) ++ [10]) : A[j]? = some T ∧ j < A.length ∧ OB l A (j + 1) (k + 1) (k + 1) := by
  have hf := h.fst hk hb
  have hop := h.opn
  have hsk := h.sk
  generalize hB : A.drop j = B at *
  cases hop with
  | stop hst => exact absurd (hf.trans he.symm) (hst T hT)
  | @more _ S Ts q1 q2 q3 =>
    have eT : T = S := lnOf_inj (PT.cln _ hT) (PT.cln _ q1) ((he.trans hf.symm).trans q2)
    subst eT
    have hlt : j < A.length := by
      rcases Nat.lt_or_ge j A.length with h | h
      · exact h
      · rw [List.drop_eq_nil_of_le h] at hB; cases hB
    have hkd : A[j]? = some T := by
      have : (A.drop j)[0]? = some T := by rw [hB]; rfl
      rwa [List.getElem?_drop, Nat.add_zero] at this
    have hln : (lnOf T).length = k - s + 1 := by rw [he, List.length_append, List.length_take, List.length_drop]; simp; omega
    have hB2 : A.drop (j + 1) = Ts := by rw [← List.drop_drop, hB]; rfl
    have hpr : l.take (k + 1) = lns (A.take (j + 1)) := by
      rw [lnE_succ hkd, ← h.pre, he]
      have e1 : l.take (k + 1) = l.take s ++ (l.drop s).take (k + 1 - s) := by
        conv => lhs; rw [show k + 1 = s + (k + 1 - s) from by omega, List.take_add]
      rw [e1, show k + 1 - s = (k - s) + 1 from by omega, List.take_add_one, List.getElem?_drop, show s + (k - s) = k from by omega, List.getElem?_eq_getElem hk, hb]
      rfl
    refine ⟨hkd, hlt, hlt, ?_, Nat.le_refl _, hk, ?_, fun x hx => by simp at hx, hpr⟩
    · rw [← hpr, List.length_take]; omega
    · rw [hB2]
      rw [hln, List.drop_drop, show s + (k - s + 1) = k + 1 from by omega] at q3
      exact q3

theorem OB.stop {l : List UInt8} {A : List (List UInt8)} {j s k : Nat} (h : OB l A j s k) (hk : k < l.length) (hb : l[k] = 10) (hno : ∀ T, PT T → lnOf T ≠ (l.drop s).take (k - s) ++ [10]) : j = A.length := by
  have hf := h.fst hk hb
  have hop := h.opn
  have hle := h.le
  generalize hB : A.drop j = B at *
  cases hop with
  | stop hst =>
    have : (A.drop j).length = 0 := by rw [hB]; rfl
    rw [List.length_drop] at this
    omega
  | @more _ S Ts q1 q2 q3 => exact absurd (q2.symm.trans hf) (hno S q1)

theorem OB.end_ {l : List UInt8} {A : List (List UInt8)} {j s : Nat} (h : OB l A j s l.length) : j = A.length := by
  have hno := h.no
  have hop := h.opn
  have hle := h.le
  rw [List.take_of_length_le (by rw [List.length_drop]; exact Nat.le_refl _)] at hno
  generalize hB : A.drop j = B at *
  cases hop with
  | stop hst =>
    have : (A.drop j).length = 0 := by rw [hB]; rfl
    rw [List.length_drop] at this
    omega
  | @more _ S Ts q1 q2 q3 =>
    rw [fstL_none hno] at q2
    exact absurd q2 (lnOf_ne_nil S)

/-- Whatever the bytes are, they open with some lines. -/
theorem opn_exists (n : Nat) : ∀ l : List UInt8, l.length ≤ n → ∃ A, Opn PT l A := by
  induction n with
  | zero =>
    intro l hl
    exact ⟨[], Opn.stop (fun T hT e => by
      have e1 : l = [] := List.eq_nil_of_length_eq_zero (by omega)
      rw [e1] at e
      exact lnOf_ne_nil T e)⟩
  | succ n ih =>
    intro l hl
    by_cases h : ∃ T, PT T ∧ fstL l = lnOf T
    · obtain ⟨T, hT, e⟩ := h
      have hp := lnOf_pos T
      obtain ⟨A, hA⟩ := ih (l.drop (lnOf T).length) (by rw [List.length_drop]; omega)
      exact ⟨T :: A, Opn.more hT e hA⟩
    · exact ⟨[], Opn.stop (fun T hT e => h ⟨T, hT, e⟩)⟩

theorem nm_pos {s : ByteArray} (h : nm s = true) : 1 ≤ s.size := by
  rcases Nat.eq_zero_or_pos s.size with h0 | h0
  · have e : s = ⟨#[]⟩ := by
      apply ByteArray.ext
      exact Array.eq_empty_of_size_eq_zero h0
    rw [e] at h
    exact absurd h (by decide +kernel)
  · exact h0

theorem PT.long {T : List UInt8} (h : PT T) : 7 ≤ T.length := by
  obtain ⟨d, c, m, ring, hM, rfl⟩ := h
  have e : (txB d c m ring).data.toList.length = (txB d c m ring).size := by rw [Array.length_toList]; rfl
  rw [e, txB_eq]
  simp only [ByteArray.size_append]
  have n1 : (⟨#[124]⟩ : ByteArray).size = 1 := rfl
  have d1 : 1 ≤ (⟨(decDigits d).toArray⟩ : ByteArray).size := by
    show 1 ≤ (decDigits d).toArray.size
    rw [List.size_toArray]
    cases h : decDigits d with
    | nil => exact absurd h (dec_ne d)
    | cons a t => simp
  have d2 : 1 ≤ (⟨(decDigits c).toArray⟩ : ByteArray).size := by
    show 1 ≤ (decDigits c).toArray.size
    rw [List.size_toArray]
    cases h : decDigits c with
    | nil => exact absurd h (dec_ne c)
    | cons a t => simp
  have d3 : 1 ≤ m.size := nm_pos hM.name
  have d4 : 1 ≤ (jnB 44 ring).size := by
    match ring, hM with
    | [], hM => exact absurd hM.some (by decide)
    | [x], hM => rw [jnB_one]; exact nm_pos (hM.names x (by simp))
    | x :: y :: r, hM =>
      rw [show x :: y :: r = [x] ++ (y :: r) from rfl]
      have : (jnB 44 ([x] ++ (y :: r))).size = (jnB 44 ([x] ++ (y :: r))).data.toList.length := by rw [Array.length_toList]; rfl
      rw [this, show [x] ++ (y :: r) = x :: (y :: r) from rfl, jnB_data]
      show 1 ≤ (x.data.toList ++ 44 :: _).length
      rw [List.length_append, List.length_cons]
      omega
  omega

theorem opn_few {l : List UInt8} {A : List (List UInt8)} (h : Opn PT l A) : A.length * 10 ≤ l.length := by
  induction h with
  | stop _ => simp
  | @more bs T Ts h1 h2 h3 ih =>
    have e1 : (lnOf T).length ≤ bs.length := by
      rw [← h2, fstL_size]
      exact nlA_le bs
    have e2 := lnOf_length T
    have e3 := h1.long
    have e4 : 1 ≤ (decDigits (chkN T)).length := by
      cases h : decDigits (chkN T) with
      | nil => exact absurd h (dec_ne _)
      | cons a t => simp
    rw [List.length_drop] at ih
    rw [List.length_cons, Nat.add_mul]
    omega

end Go.Proofs.YtffnfchekbafmaaGreatDoor

/- Contract: the answer's OpenBook: its walk. -/
namespace Go.Proofs.YtffnfchekbafmaaGreatDoor
open Go.RowKit Go.Lib
set_option maxRecDepth 100000
set_option linter.unusedVariables false

set_option maxHeartbeats 8000000 in
theorem ropen_ok (v : Value) (t : ByteArray) (A : List (List UInt8)) (w : World) (h : BySl w v t) (hs : t.size ≤ 4000) (hO : Opn PT t.data.toList A) :
    Calls Tryz.prog 5 #[v] w fun e w' => ∃ (u : Value) (qs : List (List Value)), e = .returned (.tuple #[u, .int .i64 ((lns A).length : Int)]) ∧ w'.ownsRow w.heap.size 44 4 u A.length qs.flatten ∧ Rcs w' qs A ∧ Below w.heap.size w w' := by
  obtain ⟨i0, hi, hz0, hz1, hz2⟩ := info_parts Tryz.info44
  have hfew := opn_few hO
  have hsl : t.data.toList.length = t.size := by rw [Array.length_toList]; rfl
  have HA : Hid (A.length ≤ 400) := by show _ ≤ _; omega
  obtain ⟨a, cap, rfl, h1, h2, h3, h4⟩ := h
  have HMEM : Hid (∀ k, k < t.size → ∃ g o, a = some ⟨g, o, none⟩ ∧ g < w.heap.size ∧ Lib.Bytes w g o t) := fun k hk => by
    rcases h4 with h0 | ⟨g, o, e1, e2, e3⟩
    · omega
    · exact ⟨g, o, e1, e2, e3⟩
  have HST := hide (OB.start hO)
  have HSL := hide hsl
  have HTK : Hid (A.take A.length = A) := List.take_length
  obtain ⟨n, hn⟩ : ∃ n, t.size = n := ⟨_, rfl⟩
  have HN := hide hn
  have h1' : n ≤ cap := by omega
  have hn4 : n ≤ 4000 := by omega
  rw [hn]
  clear h4 h3 hO hfew hsl hs hn h1
  go_enter Tryz.func5, Tryz.ntmps5
  go_wp2
  go_loopw [4, 5, 6] (fun ov sv kv wr => ∃ (j s k : Nat) (ua : Option Addr) (uc : Nat) (qs : List (List Value)), ov = .slice ua j uc ∧ sv = .int .i64 (s : Int) ∧ kv = .int .i64 (k : Int) ∧ Hid (OB t.data.toList A j s k) ∧ Hid (wr.ownsRow w.heap.size 44 4 (.slice ua j uc) j qs.flatten) ∧ Hid (Rcs wr qs (A.take j)) ∧ Hid (Below w.heap.size w wr)) (fun _ _ kv _ => n - (RowKit.intOf kv).toNat)
  case atStart => exact ⟨0, 0, 0, none, 0, [], rfl, rfl, rfl, HST, World.ownsRow_nil _ _ _ _, ⟨rfl, fun j q T h _ => by simp at h⟩, Below.refl _ _⟩
  case round =>
    obtain ⟨j, s, k, ua, uc, qs, rfl, rfl, rfl, HOB, HO, HR, HB⟩ := hrel
    have hj := HOB.out.le
    have hj4 := HA.out
    have hjl : (j : Int) < 1000 := by omega
    have hsk := HOB.out.sk
    by_cases hlt : k < n
    · have hkt : k < t.size := by have := HN.out; omega
      have hkl : k < t.data.toList.length := by rw [HSL.out]; exact hkt
      obtain ⟨g, o, rfl, hg, hby⟩ := HMEM.out k hkt
      have hi1 : (k : Int) < (n : Int) := by omega
      obtain ⟨b, hb⟩ : ∃ b, b = t.data.toList[k] := ⟨_, rfl⟩
      have hc : wr.cell? ⟨g, o + k, none⟩ = some (.int .u8 (b.toNat : Int)) := by
        rw [hb, Array.getElem_toList]
        exact (HB.out.cell (p := ⟨g, o + k, none⟩) hg).trans (hby k hkt)
      by_cases h10 : b = 10
      · have hc2 : wr.cell? ⟨g, o + k, none⟩ = some (.int .u8 10) := by rw [hc, h10]; rfl
        have hcap : ¬ cap = s := by omega
        have hwg : g < wr.heap.size := Nat.lt_of_lt_of_le hg HB.out.size
        have hbr : Lib.Bytes wr g o t := fun i hi => (HB.out.cell (p := ⟨g, o + i, none⟩) hg).trans (hby i hi)
        have hcv := by_conv (by_sub hbr hwg s k hsk (by omega) (by have := HN.out; omega) h2)
        have HRR := hide (readRecord_ok (t.extract s k) wr (by rw [sub_size t (by omega)]; omega))
        have hle : (0 : Int) ≤ (s : Int) ∧ (s : Int) ≤ (k : Int) ∧ (k : Int) ≤ (cap : Int) := ⟨by omega, by omega, by omega⟩
        have HHIT : Hid (∀ T, PT T → lnOf T = (t.extract s k).data.toList ++ [10] → A[j]? = some T ∧ j < A.length ∧ OB t.data.toList A (j + 1) (k + 1) (k + 1)) := fun T hT he => by
          rw [sub_data] at he
          exact HOB.out.hit hkl (by rw [← hb, h10]) hT he
        have HSTOP : Hid ((∀ T, PT T → lnOf T ≠ (t.extract s k).data.toList ++ [10]) → j = A.length) := fun h => by
          rw [sub_data] at h
          exact HOB.out.stop hkl (by rw [← hb, h10]) h
        have HAT := hide HOB.out.at_
        generalize t.extract s k = X at *
        clear hc hb h10 hkl hkt hby hbr HOB
        go_wp2_with fail
        refine HRR.out.mono ?_
        rintro e W1 ⟨hE, hb1⟩
        have HB1 : Hid (Below w.heap.size w W1) := HB.out.trans (hb1.mono HB.out.size)
        have HO1 : Hid (W1.ownsRow w.heap.size 44 4 (.slice ua j uc) j qs.flatten) := fr4 HO.out (fun g hg => hb1.block g (HO.out.lt g hg).2)
        have HR1 : Hid (Rcs W1 qs (A.take j)) := HR.out.keep (StrK.of hb1)
        have HZ := hide HB1.out.size
        rcases hE with ⟨d, c, m, ring, g9, cap9, hM, rfl, hRg, hln⟩ | ⟨z0, z1, m9, p9, l9, k9, rfl, hno⟩
        · have hT : PT (txB d c m ring).data.toList := ⟨d, c, m, ring, hM, rfl⟩
          obtain ⟨hA1, hA2, hA3⟩ := HHIT.out _ hT (by rw [← lnB_data, hln]; simp [ByteArray.data_append])
          have HTk2 : Hid (A.take (j + 1) = A.take j ++ [(txB d c m ring).data.toList]) := by show _ = _; rw [List.take_add_one, hA1]; rfl
          have HOB2 := hide hA3
          have HM := hide hM
          have HRG := hide hRg
          have hj1 : (j : Int) + 1 ≤ 1000 := by omega
          clear hT hA1 hA2 hA3 hM hRg hln HHIT HSTOP hb1 HO HR HB HAT
          go_wp2_with (at_builtin; refine wpList_append_own _ rfl _ _ 26 rfl w.heap.size 44 i0 (.agg #[.int .i64 0, .int .i64 0, .string ByteArray.empty, .slice none 0 0]) 4 56 Tryz.underlying26 hi hz0 hz1 hz2 rfl (by decide) _ _ _ rfl ((HO1.out.alloc _).alloc _) ⟨W1.heap.size + 1, 0, none⟩ 1 1 [.int .i64 (d : Int), .int .i64 (c : Int), .string m, .slice (some ⟨g9, 0, none⟩) ring.length cap9] rfl rfl ?c1 ?c2 ?c3 ?c4 ?c5 ?_)
          case c1 =>
            intro i u hi
            rw [Addr.add_lit, Nat.zero_add]
            have e1 : (W1.alloc (.cells #[.int .i64 (d : Int), .int .i64 (c : Int), .string m, .slice (some ⟨g9, 0, none⟩) ring.length cap9] 44)).heap.size = W1.heap.size + 1 := Array.size_push _
            rw [← e1]
            simp only [World.cell?, heap_alloc_new (W1.alloc (.cells #[.int .i64 (d : Int), .int .i64 (c : Int), .string m, .slice (some ⟨g9, 0, none⟩) ring.length cap9] 44)) (.cells #[.int .i64 (d : Int), .int .i64 (c : Int), .string m, .slice (some ⟨g9, 0, none⟩) ring.length cap9] 44)]
            simpa using hi
          case c2 => intro u hu; simp at hu; rcases hu with rfl | rfl | rfl | rfl <;> rfl
          case c3 => unfold maxLen; omega
          case c4 => omega
          case c5 => have := HZ.out; simp; omega
          intro u' w2 h4 hg4 _
          have hg14 : W1.grownBy w2 (Value.slice ua j uc).ownBlock := (World.grownBy_alloc W1 _ _).trans ((World.grownBy_alloc _ _ _).trans hg4)
          have HSK : Hid (StrK W1 w2) := StrK.grown4 HO1.out hg14
          have HB2 : Hid (Below w.heap.size w w2) := HB1.out.grown hg14 HZ.out (fun k hk => (HO1.out.lt k hk).1)
          have HR2 : Hid (Rcs w2 (qs ++ [[.int .i64 (d : Int), .int .i64 (c : Int), .string m, .slice (some ⟨g9, 0, none⟩) ring.length cap9]]) (A.take (j + 1))) := by
            show Rcs _ _ _
            rw [HTk2.out]
            exact (HR1.out.keep HSK.out).snoc ⟨d, c, m, ring, _, HM.out, rfl, HRG.out.keep HSK.out, rfl⟩
          obtain ⟨va, vc, ev⟩ := form4 h4
          subst ev
          have HF : Hid (w2.ownsRow w.heap.size 44 4 (.slice va (j + 1) vc) (j + 1) (qs ++ [[Value.int .i64 (d : Int), Value.int .i64 (c : Int), Value.string m, Value.slice (some ⟨g9, 0, none⟩) ring.length cap9]]).flatten) := by
            show World.ownsRow _ _ _ _ _ _ _
            rw [List.flatten_append]
            simpa using h4
          clear h4 hg4 hg14 HSK HR1 HO1
          go_wp2
          go_roundw
          case rel => exact ⟨j + 1, k + 1, k + 1, va, vc, _, rfl, by go_num, by go_num, HOB2, HF, HR2, HB2⟩
          case measure => simp [RowKit.intOf]; omega
        · have hje := HSTOP.out (fun T hT he => by
            obtain ⟨d, c, m, ring, hM, rfl⟩ := hT
            refine hno d c m ring hM ?_
            apply ByteArray.ext
            apply Array.ext'
            rw [lnB_data, he]
            simp [ByteArray.data_append])
          have HF : Hid (s = (lns A).length ∧ W1.ownsRow w.heap.size 44 4 (.slice ua j uc) A.length qs.flatten ∧ Rcs W1 qs A) := by
            have h5 := HAT.out
            have h6 := HR1.out
            have h7 := HO1.out
            rw [hje, HTK.out] at h5 h6
            refine ⟨h5, ?_, h6⟩
            rw [← hje]; exact h7
          clear hje hno HR1 HO1 HHIT HSTOP HAT HO HR HB hb1
          go_wp2
          go_ret2
          exact ⟨_, qs, by rw [← HF.out.1]; rfl, HF.out.2.1.alloc _, HF.out.2.2.keep (StrK.of ((Below.refl _ _).alloc (Nat.le_refl _) _)), HB1.out.alloc HZ.out _⟩
      · have hne : ((b.toNat : Int) == 10) = false := by
          simp only [beq_eq_false_iff_ne, ne_eq]
          intro e
          exact h10 (UInt8.toNat_inj.1 (by show b.toNat = 10; omega))
        have HN2 := hide (HOB.out.miss hkl (by rw [← hb]; exact h10))
        clear hb h10 hkl hkt hby HOB
        generalize b.toNat = bk at *
        go_wp2
        go_roundw
        case rel => exact ⟨j, s, k + 1, ua, uc, qs, rfl, rfl, by go_num, HN2, HO, HR, HB⟩
        case measure => simp [RowKit.intOf]; omega
    · have hks : k = n := by have := HOB.out.kl; rw [HSL.out, HN.out] at this; omega
      have hje : j = A.length := by
        have h5 := HOB.out
        rw [hks, ← HN.out, ← HSL.out] at h5
        exact h5.end_
      have HF : Hid (s = (lns A).length ∧ wr.ownsRow w.heap.size 44 4 (.slice ua j uc) A.length qs.flatten ∧ Rcs wr qs A) := by
        have h5 := HOB.out.at_
        have h6 := HR.out
        have h7 := HO.out
        rw [hje, HTK.out] at h5 h6
        refine ⟨h5, ?_, h6⟩
        rw [← hje]; exact h7
      clear hje HOB HR HO
      go_wp2
      go_ret2
      exact ⟨_, qs, by rw [← HF.out.1]; rfl, HF.out.2.1, HF.out.2.2, HB.out⟩

end Go.Proofs.YtffnfchekbafmaaGreatDoor

/- Contract: the answer's SameRecord, of records that are the same. -/
namespace Go.Proofs.YtffnfchekbafmaaGreatDoor
open Go.RowKit Go.Lib
set_option maxRecDepth 100000
set_option linter.unusedVariables false

set_option maxHeartbeats 8000000 in
theorem sameRec_ok (d c : Int) (m : ByteArray) (u v : Value) (ring : List ByteArray) (w : World) (hu : RgAt w u ring) (hv : RgAt w v ring) :
    Calls Tryz.prog 13 #[.agg #[.int .i64 d, .int .i64 c, .string m, u], .agg #[.int .i64 d, .int .i64 c, .string m, v]] w fun e w' => e = .returned (.bool true) ∧ Below w.heap.size w w' := by
  obtain ⟨g, o, cap, ev, hg, hc1, hc2, hcell⟩ := hu.mem
  obtain ⟨g', o', cap', ev', hg', hc1', hc2', hcell'⟩ := hv.mem
  subst ev ev'
  obtain ⟨W, hW⟩ : ∃ W, W = ((w.alloc (.cells #[.int .i64 d, .int .i64 c, .string m, .slice (some ⟨g, o, none⟩) ring.length cap] 44)).alloc (.cells #[.int .i64 d, .int .i64 c, .string m, .slice (some ⟨g', o', none⟩) ring.length cap'] 44)) := ⟨_, rfl⟩
  obtain ⟨hbW, hW1, hW2, hWs⟩ := alloc2 w (.cells #[.int .i64 d, .int .i64 c, .string m, .slice (some ⟨g, o, none⟩) ring.length cap] 44) (.cells #[.int .i64 d, .int .i64 c, .string m, .slice (some ⟨g', o', none⟩) ring.length cap'] 44)
  rw [← hW] at hbW hW1 hW2 hWs
  have HV : Hid (∀ V, Below W.heap.size W V → V.cell? ⟨w.heap.size, 3, none⟩ = some (.slice (some ⟨g, o, none⟩) ring.length cap) ∧ V.cell? ⟨w.heap.size + 1, 3, none⟩ = some (.slice (some ⟨g', o', none⟩) ring.length cap') ∧ StC9 V g o ring ∧ StC9 V g' o' ring ∧ Below w.heap.size w V) := fun V hV => by
    have s1 := hbW.size
    refine ⟨(hV.cell (p := ⟨w.heap.size, 3, none⟩) (by show w.heap.size < _; omega)).trans (cells4 hW1).1.2.2.2, (hV.cell (p := ⟨w.heap.size + 1, 3, none⟩) (by show w.heap.size + 1 < _; omega)).trans (cells4 hW2).1.2.2.2, fun k x hk => ?_, fun k x hk => ?_, hbW.trans (hV.mono hbW.size)⟩
    · exact (hV.cell (p := ⟨g, o + k, none⟩) (show g < W.heap.size by omega)).trans ((hbW.cell (p := ⟨g, o + k, none⟩) hg).trans (hcell k x hk))
    · exact (hV.cell (p := ⟨g', o' + k, none⟩) (show g' < W.heap.size by omega)).trans ((hbW.cell (p := ⟨g', o' + k, none⟩) hg').trans (hcell' k x hk))
  obtain ⟨⟨k0, k1, k2, k3⟩, -⟩ := cells4 hW1
  obtain ⟨⟨j0, j1, j2, j3⟩, -⟩ := cells4 hW2
  have HX : Hid (∀ k, k < ring.length → ∃ x, ring[k]? = some x) := fun k hk => ⟨_, List.getElem?_eq_getElem hk⟩
  have hmm := eqs_t (s := m) rfl
  have HW := hide hW
  generalize hL : ring.length = L at *
  clear hL hW hbW hu hv hcell hcell' hW1 hW2
  go_enter Tryz.func13, Tryz.ntmps13
  go_wp2
  rw [← HW.out]
  go_loopw [5] (fun i wr => ∃ k : Nat, k ≤ L ∧ i = .int .i64 (k : Int) ∧ Hid (Below W.heap.size W wr)) (fun i _ => L - (RowKit.intOf i).toNat)
  case atStart => exact ⟨0, Nat.zero_le _, rfl, Below.refl _ _⟩
  case round =>
    obtain ⟨k, hk, rfl, HBr⟩ := hrel
    obtain ⟨r3, s3, hst, hst', hbel⟩ := HV.out wr HBr.out
    by_cases hlt : k < L
    · obtain ⟨x, hxe⟩ := HX.out k hlt
      have p1 := hst k x hxe
      have p2 := hst' k x hxe
      have hi1 : (k : Int) < (L : Int) := by omega
      have hxx := eqs_t (s := x) rfl
      clear hst hst' hbel hxe
      go_wp2_with fail
      go_quiet (fail)
      go_wp2
      go_roundw
      case rel => exact ⟨k + 1, hlt, by go_num, below_drewN HBr.out _⟩
      case measure => simp [RowKit.intOf]; omega
    · obtain rfl : k = L := by omega
      have HF := hide hbel
      clear hst hst' hbel
      go_wp2
      go_ret
      exact ⟨rfl, HF.out⟩

end Go.Proofs.YtffnfchekbafmaaGreatDoor

/- Contract: the answer's SameRecords, of lists that tell the same texts. -/
namespace Go.Proofs.YtffnfchekbafmaaGreatDoor
open Go.RowKit Go.Lib
set_option maxRecDepth 100000
set_option linter.unusedVariables false

theorem flat4 : ∀ (qs : List (List Value)) (i r : Nat), (∀ q, q ∈ qs → q.length = 4) → r < 4 → qs.flatten[i * 4 + r]? = (qs[i]?).bind (fun q => q[r]?)
  | [], i, r, _, _ => by simp
  | q :: qs, i, r, h, hr => by
    have hq := h q (by simp)
    rw [List.flatten_cons]
    cases i with
    | zero =>
      rw [List.getElem?_append_left (by omega)]
      simp
    | succ i =>
      rw [List.getElem?_append_right (by omega), hq, show (i + 1) * 4 + r - 4 = i * 4 + r by omega, flat4 qs i r (fun q hq => h q (List.mem_cons_of_mem _ hq)) hr]
      simp

theorem Rc1.len {w : World} {q : List Value} {T : List UInt8} (h : Rc1 w q T) : q.length = 4 := by
  obtain ⟨d, c, m, ring, v, _, rfl, _⟩ := h
  rfl

theorem Rcs.len {w : World} {qs : List (List Value)} {Ts : List (List UInt8)} (h : Rcs w qs Ts) : ∀ q, q ∈ qs → q.length = 4 := fun q hq => by
  obtain ⟨k, hk, e⟩ := List.getElem_of_mem hq
  have hk2 : k < Ts.length := by rw [← h.1]; exact hk
  exact (h.2 k q _ (by rw [List.getElem?_eq_getElem hk, e]) (List.getElem?_eq_getElem hk2)).len

/-- A record in a row of records. -/
structure RcAt (w : World) (g i : Nat) (d c : Nat) (m : ByteArray) (p : Addr) (l k : Nat) : Prop where
  c0 : w.cell? ⟨g, i * 4, none⟩ = some (.int .i64 (d : Int))
  c1 : w.cell? ⟨g, i * 4 + 1, none⟩ = some (.int .i64 (c : Int))
  c2 : w.cell? ⟨g, i * 4 + 2, none⟩ = some (.string m)
  c3 : w.cell? ⟨g, i * 4 + 3, none⟩ = some (.slice (some p) l k)

theorem Rcs.at_ {w : World} {base n : Nat} {v : Value} {qs : List (List Value)} {Ts : List (List UInt8)} (h : w.ownsRow base 44 4 v n qs.flatten) (hR : Rcs w qs Ts) (hn : n = Ts.length) {i : Nat} (hi : i < n) :
    ∃ (g cap d c : Nat) (m : ByteArray) (ring : List ByteArray) (p : Addr) (k : Nat), v = .slice (some ⟨g, 0, none⟩) n cap ∧ g < w.heap.size ∧ n ≤ cap ∧ cap ≤ 9223372036854775807 ∧ RcAt w g i d c m p ring.length k ∧ MayR (d : Int) (c : Int) m ring ∧ RgS w (.slice (some p) ring.length k) ring ∧ Ts[i]? = some (txB d c m ring).data.toList := by
  have hiT : i < Ts.length := by omega
  have hiq : i < qs.length := by rw [hR.1]; exact hiT
  obtain ⟨d, c, m, ring, v', hM, hq, hg, hT⟩ := hR.2 i _ _ (List.getElem?_eq_getElem hiq) (List.getElem?_eq_getElem hiT)
  obtain ⟨g9, o9, cap9, cur9, fr9, ev, -⟩ := hg.mem
  subst ev
  rcases h.2 with ⟨_, h0⟩ | ⟨g, cap, cur, rfl, hg1, hh, hn1, hn2, hn3, hn4⟩
  · omega
  · have key : ∀ r x, r < 4 → (qs[i])[r]? = some x → w.cell? ⟨g, i * 4 + r, none⟩ = some x := fun r x hr hx => by
      have h5 : qs.flatten[i * 4 + r]? = some x := by rw [flat4 qs i r hR.len hr, List.getElem?_eq_getElem hiq]; exact hx
      rw [← hn4, List.getElem?_take, if_pos (by omega), Array.getElem?_toList] at h5
      simp only [World.cell?, hh]
      exact h5
    refine ⟨g, cap, d, c, m, ring, _, _, rfl, (Array.getElem?_eq_some_iff.1 hh).1, hn1, by unfold maxLen at hn2; omega, ⟨key 0 _ (by decide) (by rw [hq]; rfl), key 1 _ (by decide) (by rw [hq]; rfl), key 2 _ (by decide) (by rw [hq]; rfl), key 3 _ (by decide) (by rw [hq]; rfl)⟩, hM, hg, ?_⟩
    rw [List.getElem?_eq_getElem hiT, hT]

theorem RcAt.below {w w' : World} {g i d c : Nat} {m : ByteArray} {p : Addr} {l k : Nat} (h : RcAt w g i d c m p l k) (hb : ∀ o, w'.cell? ⟨g, o, none⟩ = w.cell? ⟨g, o, none⟩) : RcAt w' g i d c m p l k :=
  ⟨(hb _).trans h.c0, (hb _).trans h.c1, (hb _).trans h.c2, (hb _).trans h.c3⟩

theorem txB_inj {d c d' c' : Nat} {m m' : ByteArray} {ring ring' : List ByteArray} (h : MayR (d : Int) (c : Int) m ring) (h' : MayR (d' : Int) (c' : Int) m' ring') (e : (txB d c m ring).data.toList = (txB d' c' m' ring').data.toList) : d = d' ∧ c = c' ∧ m = m' ∧ ring = ring' := by
  have e2 : txB d c m ring = txB d' c' m' ring' := by
    apply ByteArray.ext
    apply Array.ext'
    exact e
  obtain ⟨-, k2, k3⟩ := read_back h
  obtain ⟨-, k2', k3'⟩ := read_back h'
  rw [e2, k2'] at k2
  injection k2 with e0 k2
  injection k2 with e1 k2
  injection k2 with e3 k2
  injection k2 with e4 k2
  refine ⟨?_, ?_, e3.symm, ?_⟩
  · have := congrArg (fun b : ByteArray => b.data.toList) e0
    simp at this
    exact (dec_inj this).symm
  · have := congrArg (fun b : ByteArray => b.data.toList) e1
    simp at this
    exact (dec_inj this).symm
  · rw [← k3, ← k3', e4]

set_option maxHeartbeats 8000000 in
theorem sameRecs_ok (base base' n : Nat) (u v : Value) (qs qs' : List (List Value)) (Ts : List (List UInt8)) (w : World) (hn : n = Ts.length) (hnl : n ≤ 1000) (hu : w.ownsRow base 44 4 u n qs.flatten) (hv : w.ownsRow base' 44 4 v n qs'.flatten) (hq : Rcs w qs Ts) (hq' : Rcs w qs' Ts) :
    Calls Tryz.prog 6 #[u, v] w fun e w' => e = .returned (.bool true) ∧ Below w.heap.size w w' := by
  have HAT : Hid (∀ i, i < n → ∃ (g cap g' cap' d c : Nat) (m : ByteArray) (ring : List ByteArray) (p p' : Addr) (k k' : Nat), u = .slice (some ⟨g, 0, none⟩) n cap ∧ v = .slice (some ⟨g', 0, none⟩) n cap' ∧ g < w.heap.size ∧ g' < w.heap.size ∧ RcAt w g i d c m p ring.length k ∧ RcAt w g' i d c m p' ring.length k' ∧ RgS w (.slice (some p) ring.length k) ring ∧ RgS w (.slice (some p') ring.length k') ring) := fun i hi => by
    obtain ⟨g, cap, d, c, m, ring, p, k, h1, h2, -, -, h3, h4, h5, h6⟩ := Rcs.at_ hu hq hn hi
    obtain ⟨g', cap', d', c', m', ring', p', k', h1', h2', -, -, h3', h4', h5', h6'⟩ := Rcs.at_ hv hq' hn hi
    rw [h6] at h6'
    obtain ⟨rfl, rfl, rfl, rfl⟩ := txB_inj h4 h4' (Option.some.inj h6')
    exact ⟨g, cap, g', cap', d, c, m, ring, p, p', k, k', h1, h1', h2, h2', h3, h3', h5, h5'⟩
  obtain ⟨ua, uc, rfl⟩ := form4 hu
  obtain ⟨va, vc, rfl⟩ := form4 hv
  clear hu hv hq hq' hn
  go_enter Tryz.func6, Tryz.ntmps6
  go_wp2
  go_loopw [5] (fun i wr => ∃ k : Nat, k ≤ n ∧ i = .int .i64 (k : Int) ∧ Hid (Below w.heap.size w wr)) (fun i _ => n - (RowKit.intOf i).toNat)
  case atStart => exact ⟨0, Nat.zero_le _, rfl, Below.refl _ _⟩
  case round =>
    obtain ⟨k, hk, rfl, HBr⟩ := hrel
    by_cases hlt : k < n
    · obtain ⟨g, cap, g', cap', d, c, m, ring, p, p', z, z', hu, hv, hg, hg', hr, hr', hs, hs'⟩ := HAT.out k hlt
      injection hu with e1 _ e2
      injection hv with e3 _ e4
      subst e1 e2 e3 e4
      have hi1 : (k : Int) < (n : Int) := by omega
      have q := hr.below (w' := wr) (fun o => HBr.out.cell (p := ⟨g, o, none⟩) hg)
      have q' := hr'.below (w' := wr) (fun o => HBr.out.cell (p := ⟨g', o, none⟩) hg')
      obtain ⟨c0, c1, c2, c3⟩ := q
      obtain ⟨c0', c1', c2', c3'⟩ := q'
      have HS : Hid (∀ V, Below wr.heap.size wr V → Calls Tryz.prog 13 #[.agg #[.int .i64 (d : Int), .int .i64 (c : Int), .string m, .slice (some p) ring.length z], .agg #[.int .i64 (d : Int), .int .i64 (c : Int), .string m, .slice (some p') ring.length z']] V fun e w' => e = .returned (.bool true) ∧ Below V.heap.size V w') := fun V hV =>
        sameRec_ok d c m _ _ ring V ((hs.keep (StrK.of HBr.out)).keep (StrK.of hV)).rg ((hs'.keep (StrK.of HBr.out)).keep (StrK.of hV)).rg
      generalize ring.length = rl at *
      clear hr hr' hs hs' HAT
      go_wp2_with fail
      go_upto_region 6 with fail
      refine wp_region_held_drew (S := fun W' => (W'.cell? ⟨g, k * 4, none⟩ = some (.int .i64 (d : Int)) ∧ W'.cell? ⟨g, k * 4 + 1, none⟩ = some (.int .i64 (c : Int)) ∧ W'.cell? ⟨g, k * 4 + 2, none⟩ = some (.string m) ∧ W'.cell? ⟨g, k * 4 + 3, none⟩ = some (.slice (some p) rl z)) ∧ (W'.cell? ⟨g', k * 4, none⟩ = some (.int .i64 (d : Int)) ∧ W'.cell? ⟨g', k * 4 + 1, none⟩ = some (.int .i64 (c : Int)) ∧ W'.cell? ⟨g', k * 4 + 2, none⟩ = some (.string m) ∧ W'.cell? ⟨g', k * 4 + 3, none⟩ = some (.slice (some p') rl z'))) (by kernel_rfl) ⟨⟨c0, c1, c2, c3⟩, ⟨c0', c1', c2', c3'⟩⟩ (fun hS => ?_)
      refine wpAnyH_take (i := 0) (v := .slice (some ⟨g, 0, none⟩) n uc) rfl (by kernel_rfl) (by kernel_rfl) (by kernel_rfl) (fun _ _ _ h => h) (Or.inl ⟨by kernel_rfl, fun w' hS' => by clear hS'; go_simp⟩) hS ?_
      refine wpAnyH_take (i := 1) (v := .int .i64 (k : Int)) rfl (by kernel_rfl) (by kernel_rfl) (by kernel_rfl) (fun _ _ _ h => h) (Or.inl ⟨by kernel_rfl, fun w' hS' => by clear hS'; go_simp⟩) hS ?_
      refine wpAnyH_take (i := 2) (v := .pointer (some ⟨g, k * 4, none⟩)) rfl (by kernel_rfl) (by kernel_rfl) (by kernel_rfl) (fun _ _ _ h => h) (Or.inl ⟨by kernel_rfl, fun w' hS' => by clear hS'; go_simp⟩) hS ?_
      refine wpAnyH_take (i := 3) (v := .agg #[.int .i64 (d : Int), .int .i64 (c : Int), .string m, .slice (some p) rl z]) rfl (by kernel_rfl) (by kernel_rfl) (by kernel_rfl) (fun _ _ _ h => h) (Or.inl ⟨by kernel_rfl, fun w' hS' => by obtain ⟨⟨x0, x1, x2, x3⟩, -⟩ := hS'; go_simp⟩) hS ?_
      refine wpAnyH_take (i := 4) (v := .slice (some ⟨g', 0, none⟩) n vc) rfl (by kernel_rfl) (by kernel_rfl) (by kernel_rfl) (fun _ _ _ h => h) (Or.inl ⟨by kernel_rfl, fun w' hS' => by clear hS'; go_simp⟩) hS ?_
      refine wpAnyH_take (i := 5) (v := .int .i64 (k : Int)) rfl (by kernel_rfl) (by kernel_rfl) (by kernel_rfl) (fun _ _ _ h => h) (Or.inl ⟨by kernel_rfl, fun w' hS' => by clear hS'; go_simp⟩) hS ?_
      refine wpAnyH_take (i := 6) (v := .pointer (some ⟨g', k * 4, none⟩)) rfl (by kernel_rfl) (by kernel_rfl) (by kernel_rfl) (fun _ _ _ h => h) (Or.inl ⟨by kernel_rfl, fun w' hS' => by clear hS'; go_simp⟩) hS ?_
      refine wpAnyH_take (i := 7) (v := .agg #[.int .i64 (d : Int), .int .i64 (c : Int), .string m, .slice (some p') rl z']) rfl (by kernel_rfl) (by kernel_rfl) (by kernel_rfl) (fun _ _ _ h => h) (Or.inl ⟨by kernel_rfl, fun w' hS' => by obtain ⟨-, ⟨x0, x1, x2, x3⟩⟩ := hS'; go_simp⟩) hS ?_
      refine wpAnyH_ready (rs := [8]) (by kernel_rfl) (by simp) ?_
      refine AllReadyH.cons rfl (fun K hK => ?_) AllReadyH.nil
      go_simp
      refine (HS.out wr.drew (Below.refl wr.heap.size wr).drew).mono ?_
      rintro e V9 ⟨rfl, hb9⟩
      have hB9 : Below wr.heap.size wr V9 := ((Below.refl wr.heap.size wr).drew).trans hb9
      have hwg : g < wr.heap.size := Nat.lt_of_lt_of_le hg HBr.out.size
      have hwg' : g' < wr.heap.size := Nat.lt_of_lt_of_le hg' HBr.out.size
      refine hK.out _ _ ⟨⟨(hB9.cell (p := ⟨g, _, none⟩) hwg).trans c0, (hB9.cell (p := ⟨g, _, none⟩) hwg).trans c1, (hB9.cell (p := ⟨g, _, none⟩) hwg).trans c2, (hB9.cell (p := ⟨g, _, none⟩) hwg).trans c3⟩, ⟨(hB9.cell (p := ⟨g', _, none⟩) hwg').trans c0', (hB9.cell (p := ⟨g', _, none⟩) hwg').trans c1', (hB9.cell (p := ⟨g', _, none⟩) hwg').trans c2', (hB9.cell (p := ⟨g', _, none⟩) hwg').trans c3'⟩⟩ (fun hS => ?_)
      clear hK
      refine wpAnyH_take (i := 9) (v := .bool true) rfl (by kernel_rfl) (by kernel_rfl) (by kernel_rfl) (fun _ _ _ h => h) (Or.inl ⟨by kernel_rfl, fun w' hS' => by clear hS'; go_simp⟩) hS ?_
      refine wpAnyH_done (by kernel_rfl) ?_ _
      have HB2 := hide (HBr.out.trans (hB9.mono HBr.out.size))
      clear hS hB9 hb9 c0 c1 c2 c3 c0' c1' c2' c3'
      go_wp2
      go_roundw
      case rel => exact ⟨k + 1, hlt, by go_num, HB2⟩
      case measure => simp [RowKit.intOf]; omega
    · obtain rfl : k = n := by omega
      go_wp2
      go_ret
      exact ⟨rfl, HBr.out⟩

end Go.Proofs.YtffnfchekbafmaaGreatDoor

/- Plain: records by their days: insertion; rows of records; two laws of append. -/
namespace Go.Proofs.YtffnfchekbafmaaGreatDoor
open Go.RowKit Go.Lib
set_option maxRecDepth 100000
set_option linter.unusedVariables false

/-- Numbers of records, in order by day, and by place where days are like. -/
def LtD (D : Nat → Int) (i j : Nat) : Prop := D i < D j ∨ (D i = D j ∧ i < j)

structure Ins (D : Nat → Int) (i : Nat) (l : List Nat) : Prop where
  perm : l.Perm (List.range i)
  ord : l.Pairwise (LtD D)

theorem Ins.nil (D : Nat → Int) : Ins D 0 [] := ⟨List.Perm.refl _, List.Pairwise.nil⟩

theorem Ins.lt {D : Nat → Int} {i : Nat} {l : List Nat} (h : Ins D i l) {x : Nat} (hx : x ∈ l) : x < i := List.mem_range.1 (h.perm.mem_iff.1 hx)

theorem Ins.len {D : Nat → Int} {i : Nat} {l : List Nat} (h : Ins D i l) : l.length = i := by rw [h.perm.length_eq, List.length_range]

theorem Ins.unique {D : Nat → Int} {i : Nat} {l m : List Nat} (h : Ins D i l) (k : Ins D i m) : l = m :=
  List.Perm.eq_of_pairwise (fun a b _ _ hab hba => by unfold LtD at hab hba; omega) h.ord k.ord (h.perm.trans k.perm.symm)

theorem Ins.step {D : Nat → Int} {i k : Nat} {l : List Nat} (h : Ins D i l) (hk : k ≤ l.length) (hlo : ∀ q x, k = q + 1 → l[q]? = some x → D x ≤ D i) (hhi : ∀ q x, k ≤ q → l[q]? = some x → D i < D x) : Ins D (i + 1) (l.take k ++ i :: l.drop k) := by
  refine ⟨?_, ?_⟩
  · have h1 : (l.take k ++ i :: l.drop k).Perm (i :: l) := by
      refine List.perm_middle.trans ?_
      rw [List.take_append_drop]
    rw [List.range_succ]
    exact h1.trans ((h.perm.cons i).trans (List.perm_append_singleton i _).symm)
  · have hp := h.ord
    rw [← List.take_append_drop k l, List.pairwise_append] at hp
    obtain ⟨p1, p2, p3⟩ := hp
    rw [List.pairwise_append, List.pairwise_cons]
    have hT : ∀ a, a ∈ l.take k → LtD D a i := fun a ha => by
      have hai := h.lt (List.mem_of_mem_take ha)
      obtain ⟨q, hq, e⟩ := List.getElem_of_mem ha
      rw [List.length_take] at hq
      rw [List.getElem_take] at e
      have hle : D a ≤ D i := by
        have hlast : k - 1 < l.length := by omega
        have h2 := hlo (k - 1) _ (by omega) (List.getElem?_eq_getElem hlast)
        rcases Nat.eq_or_lt_of_le (show q ≤ k - 1 by omega) with e2 | e2
        · subst e2; rw [← e]; exact h2
        · have h3 := (List.pairwise_iff_getElem.1 h.ord) q (k - 1) (by omega) hlast e2
          rw [e] at h3
          unfold LtD at h3
          omega
      unfold LtD
      omega
    have hU : ∀ a, a ∈ l.drop k → LtD D i a := fun a ha => by
      obtain ⟨q, hq, e⟩ := List.getElem_of_mem ha
      rw [List.getElem_drop] at e
      rw [List.length_drop] at hq
      exact Or.inl (hhi (k + q) a (by omega) (by rw [List.getElem?_eq_getElem (by omega), e]))
    refine ⟨p1, ⟨hU, p2⟩, fun a ha b hb => ?_⟩
    rcases List.mem_cons.1 hb with rfl | hb
    · exact hT a ha
    · exact p3 a ha b hb

/-- A record in four cells. -/
def GQ (q : List Value) : Prop := ∃ (d c : Int) (m : ByteArray) (p : Addr) (l k : Nat), q = [.int .i64 d, .int .i64 c, .string m, .slice (some p) l k]

theorem GQ.len {q : List Value} (h : GQ q) : q.length = 4 := by obtain ⟨d, c, m, p, l, k, rfl⟩ := h; rfl

/-- Its day. -/
def kQ (q : List Value) : Int := RowKit.intOf (q.getD 0 (.int .i64 0))

theorem Rcs.gq {w : World} {qs : List (List Value)} {Ts : List (List UInt8)} (h : Rcs w qs Ts) : ∀ q, q ∈ qs → GQ q := fun q hq => by
  obtain ⟨k, hk, e⟩ := List.getElem_of_mem hq
  have hk2 : k < Ts.length := by rw [← h.1]; exact hk
  obtain ⟨d, c, m, ring, v, hM, eq, hg, hT⟩ := h.2 k q _ (by rw [List.getElem?_eq_getElem hk, e]) (List.getElem?_eq_getElem hk2)
  obtain ⟨g9, o9, cap9, cur9, fr9, ev, -⟩ := hg.mem
  subst ev
  exact ⟨_, _, _, _, _, _, eq⟩

/-- A row of records, at one of them. -/
theorem row_at {w : World} {base n : Nat} {v : Value} {qs : List (List Value)} (h : w.ownsRow base 44 4 v n qs.flatten) (hQ : ∀ q, q ∈ qs → GQ q) (hn : n = qs.length) {i : Nat} (hi : i < n) :
    ∃ (g cap : Nat) (d c : Int) (m : ByteArray) (p : Addr) (l k : Nat), v = .slice (some ⟨g, 0, none⟩) n cap ∧ g < w.heap.size ∧ n ≤ cap ∧ cap ≤ 9223372036854775807 ∧ qs[i]? = some [.int .i64 d, .int .i64 c, .string m, .slice (some p) l k] ∧ (w.cell? ⟨g, i * 4, none⟩ = some (.int .i64 d) ∧ w.cell? ⟨g, i * 4 + 1, none⟩ = some (.int .i64 c) ∧ w.cell? ⟨g, i * 4 + 2, none⟩ = some (.string m) ∧ w.cell? ⟨g, i * 4 + 3, none⟩ = some (.slice (some p) l k)) := by
  have hiq : i < qs.length := by omega
  obtain ⟨d, c, m, p, l, k, e⟩ := hQ qs[i] (List.getElem_mem hiq)
  rcases h.2 with ⟨_, h0⟩ | ⟨g, cap, cur, rfl, hg1, hh, hn1, hn2, hn3, hn4⟩
  · omega
  · have key : ∀ r x, r < 4 → (qs[i])[r]? = some x → w.cell? ⟨g, i * 4 + r, none⟩ = some x := fun r x hr hx => by
      have h5 : qs.flatten[i * 4 + r]? = some x := by rw [flat4 qs i r (fun q hq => (hQ q hq).len) hr, List.getElem?_eq_getElem hiq]; exact hx
      rw [← hn4, List.getElem?_take, if_pos (by omega), Array.getElem?_toList] at h5
      simp only [World.cell?, hh]
      exact h5
    exact ⟨g, cap, d, c, m, p, l, k, rfl, (Array.getElem?_eq_some_iff.1 hh).1, hn1, by unfold maxLen at hn2; omega, by rw [List.getElem?_eq_getElem hiq, e], key 0 _ (by decide) (by rw [e]; rfl), key 1 _ (by decide) (by rw [e]; rfl), key 2 _ (by decide) (by rw [e]; rfl), key 3 _ (by decide) (by rw [e]; rfl)⟩

theorem row4_low {w : World} {base base' e n : Nat} {v : Value} {xs : List Value} (h : w.ownsRow base e 4 v n xs) (hb : base' ≤ base) : w.ownsRow base' e 4 v n xs := by
  obtain ⟨h1, h2⟩ := h
  refine ⟨h1, ?_⟩
  rcases h2 with h2 | ⟨g, cap, cur, hv, hg, r⟩
  · exact Or.inl h2
  · exact Or.inr ⟨g, cap, cur, hv, Nat.le_trans hb hg, r⟩

/-- Append to a row of the call's own, out of a slice that may be nil. -/
theorem step_append_opt {P : Program} {ops : Array Oper} {o : Oper} {a : Act} {w : World} {K : Act → World → Prop} {Q : Exit → Act → World → Prop} {E : Prop} (hg : o.guard = none) (s x : Operand) (t : TypeId)
    (ho : o.op = .call { callee := .builtin .append, args := #[s, x], argTypes := #[t, t] })
    (base : Nat) (e : TypeId) (i : TypeInfo) (z : Value) (size bytes : Nat) (ht : P.underlying t = some (.slice e)) (hi : P.info? e = some i) (hz : i.zero = some z)
    (hsize : i.size = size) (hby : i.bytes = bytes) (hzs : z.cells.size = size) (hsz : 0 < size)
    (v : Value) (n : Nat) (xs : List Value) (hs : a.eval s = v) (hown : w.ownsRow base e size v n xs)
    (sa : Option Addr) (m c : Nat) (news : List Value) (hx : a.eval x = .slice sa m c) (hnone : sa = none → m = 0 ∧ c = 0) (hl : news.length = m * size) (hnews : ∀ b, sa = some b → ∀ j u, news[j]? = some u → w.cell? (b.add j) = some u) (h1 : ∀ u ∈ news, u.oneCell' = true)
    (h63 : n + m ≤ maxLen) (hbytes : (n + m) * bytes ≤ 140737488355328) (hbase : base ≤ w.heap.size)
    (h : ∀ v' w', w'.ownsRow base e size v' (n + m) (xs ++ news) → w.grownBy w' v.ownBlock → K (a.put o.dst v') w') :
    if Region.wanted o (yielded ops a.tmps) = true then Oper.wp P o a w K Q else E := by
  have hw : Region.wanted o (yielded ops a.tmps) = true := by simp [Region.wanted, hg]
  rw [if_pos hw]
  cases sa with
  | some ad =>
    obtain ⟨v', w', hr, h2, h3, h4⟩ := run_append_own (P := P) w base t o.type e i z size bytes ht hi hz hsize hby hzs hsz v n xs hown ad m c news hl (hnews ad rfl) h1 h63 hbytes hbase
    unfold Oper.wp execOp
    simp only [ho, resolve, invoke, builtin, Sem.run_bind, Sem.run_pure, Result.andThen_ok, List.map_toArray, List.map_cons, List.map_nil, hs, hx, hr]
    exact h v' w' h2 h3
  | none =>
    obtain ⟨rfl, rfl⟩ := hnone rfl
    have hr := run_append_owned_none (P := P) (w := w) base t o.type e i size ht hi v n xs hown
    have e0 : news = [] := List.eq_nil_of_length_eq_zero (by rw [hl, Nat.zero_mul])
    subst e0
    unfold Oper.wp execOp
    simp only [ho, resolve, invoke, builtin, Sem.run_bind, Sem.run_pure, Result.andThen_ok, List.map_toArray, List.map_cons, List.map_nil, hs, hx, hr]
    exact h v w (by rw [Nat.add_zero, List.append_nil]; exact hown) ⟨rfl, rfl, rfl, Nat.le_refl _, fun _ _ _ => rfl⟩

/-- Append to a slice that is full: it moves. -/
theorem step_append_full {P : Program} {ops : Array Oper} {o : Oper} {a : Act} {w : World} {K : Act → World → Prop} {Q : Exit → Act → World → Prop} {E : Prop} (hg : o.guard = none) (s x : Operand) (t : TypeId)
    (ho : o.op = .call { callee := .builtin .append, args := #[s, x], argTypes := #[t, t] })
    (e : TypeId) (i : TypeInfo) (z : Value) (size bytes : Nat) (ht : P.underlying t = some (.slice e)) (hi : P.info? e = some i) (hz : i.zero = some z)
    (hsize : i.size = size) (hby : i.bytes = bytes) (hzs : z.cells.size = size) (hsz : 0 < size)
    (ao : Option Addr) (n : Nat) (olds : List Value) (hs : a.eval s = .slice ao n n) (hnone : ao = none → n = 0) (hlo : olds.length = n * size) (holds : ∀ b, ao = some b → ∀ j u, olds[j]? = some u → w.cell? (b.add j) = some u)
    (ad : Addr) (m c : Nat) (news : List Value) (hx : a.eval x = .slice (some ad) m c) (hl : news.length = m * size) (hnews : ∀ j u, news[j]? = some u → w.cell? (ad.add j) = some u) (h1 : ∀ u ∈ news, u.oneCell' = true)
    (hm : 1 ≤ m) (h63 : n + m ≤ maxLen) (hbytes : (n + m) * bytes ≤ 140737488355328)
    (h : ∀ v' w', w'.ownsRow w.heap.size e size v' (n + m) (olds ++ news) → w.grownBy w' none → K (a.put o.dst v') w') :
    if Region.wanted o (yielded ops a.tmps) = true then Oper.wp P o a w K Q else E := by
  have hw : Region.wanted o (yielded ops a.tmps) = true := by simp [Region.wanted, hg]
  rw [if_pos hw]
  cases ao with
  | some b =>
    obtain ⟨v', w', hr, h2, h3⟩ := run_append_arg_grows (P := P) w t o.type e i z size bytes ht hi hz hsize hby hzs hsz b n n olds hlo (holds b rfl) ad m c news hl hnews (by omega) h63 hbytes
    unfold Oper.wp execOp
    simp only [ho, resolve, invoke, builtin, Sem.run_bind, Sem.run_pure, Result.andThen_ok, List.map_toArray, List.map_cons, List.map_nil, hs, hx, hr]
    exact h v' w' h2 h3
  | none =>
    obtain rfl := hnone rfl
    obtain rfl : olds = [] := List.eq_nil_of_length_eq_zero (by simpa using hlo)
    obtain ⟨v', w', hr, h2, h3, _⟩ := run_append_own (P := P) w w.heap.size t o.type e i z size bytes ht hi hz hsize hby hzs hsz (.slice none 0 0) 0 [] (World.ownsRow_nil w _ e size) ad m c news hl hnews h1 h63 hbytes (Nat.le_refl _)
    unfold Oper.wp execOp
    simp only [ho, resolve, invoke, builtin, Sem.run_bind, Sem.run_pure, Result.andThen_ok, List.map_toArray, List.map_cons, List.map_nil, hs, hx, hr]
    exact h v' w' h2 h3

end Go.Proofs.YtffnfchekbafmaaGreatDoor
