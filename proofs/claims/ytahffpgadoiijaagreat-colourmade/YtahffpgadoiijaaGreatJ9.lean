/- Joined: TrB, TrC, TrD, TrE, Rno, Name, MMay, Meth, ChOf, LL, RowAt, Lead, TrK, TtD, TtO, SbB, SbU, GensM, RoA, RoB, GNormQ, AppW, GrA, ExA, KoB, GrB, GrC. -/
import Derived.Test.YtahffpgadoiijaaGreatJ8
import Derived.Test.YtahffpgadoiijaaGreatJ2
import Derived.Laws.CopyOwn
import Derived.Deep.CutRange
import Derived.Test.YtahffpgadoiijaaGreatJ6
import Derived.Test.YtahffpgadoiijaaGreatJ4
import Derived.Lib.RuneCount
import Derived.Lib.DecodeN
import Derived.Test.YtahffpgadoiijaaGreatJ0
import Derived.Deep.RegionHeld3
import Derived.Deep.Cut
import Derived.BigQuiet
import Derived.Test.YtahffpgadoiijaaGreatJ7
import Derived.Deep.QuietTactic
import Derived.Test.YtahffpgadoiijaaGreatJ1
import Derived.Deep.CutBlock
/- Contract: truth.keyOf; its maps at the operation. -/
namespace Go.Proofs.YtahffpgadoiijaaGreat
open Go.RowKit Go.Maps

theorem laidT : laidOutB Tryz.prog = true := by kernel_rfl

/-- A row as a key. -/
def kp (r : List Int) : List Int := r ++ zerosK.drop r.length

theorem kp_length {r : List Int} (h : r.length ≤ 12) : (kp r).length = 12 := by
  unfold kp
  rw [List.length_append, List.length_drop]
  have : zerosK.length = 12 := rfl
  omega

theorem kp_inj {n : Nat} {a b : List Int} (ha : a.length = n) (hb : b.length = n) (h : kp a = kp b) : a = b := by
  unfold kp at h
  have := congrArg (List.take n) h
  rwa [List.take_left' ha, List.take_left' hb] at this

theorem kp_ok {n : Nat} (h12 : n ≤ 12) {r : List Int} (h : Rw n r) : OkK .i64 (kp r) := by
  refine ⟨kp_length (by rw [h.len]; exact h12), fun z hz => ?_⟩
  unfold kp at hz
  rcases List.mem_append.1 hz with hz | hz
  · have := h.row.1 z hz
    rw [h.len] at this
    exact WalkArith.wf_i64 ⟨by omega, by omega⟩
  · have h0 : z = 0 := by
      have := List.mem_of_mem_drop hz
      simp [zerosK] at this
      exact this
    subst h0
    decide

end Go.Proofs.YtahffpgadoiijaaGreat

/- Contract: truth.repeated. -/
namespace Go.Proofs.YtahffpgadoiijaaGreat
open Go.RowKit Go.Maps

/-- What the loop knows of the rows that it has seen. -/
structure Seen (n : Nat) (L : List (List Int)) (k : Nat) (f : List Int → Option Value) : Prop where
  old : ∀ x, Rw n x → ((f (kp x)).isSome = true ↔ x ∈ L.take k)
  nodup : (L.take k).Nodup
  ints : ∀ zs v, f zs = some v → ∃ i, v = .int .i64 i

theorem seen_next {n k : Nat} {L : List (List Int)} {f : List Int → Option Value} (h : Seen n L k f) (hk : k < L.length) (hr : Rw n (L.getD k [])) (hn : f (kp (L.getD k [])) = none) (j : Int) : Seen n L (k + 1) (kupd f (kp (L.getD k [])) (.int .i64 j)) := by
  have ht : L.take (k + 1) = L.take k ++ [L.getD k []] := by
    rw [List.take_add_one, List.getElem?_eq_getElem hk]; simp [List.getD, List.getElem?_eq_getElem hk]
  have hnot : L.getD k [] ∉ L.take k := fun hm => by
    have := (h.old _ hr).2 hm
    rw [hn] at this
    cases this
  refine ⟨fun x hx => ?_, ?_, fun zs v hv => ?_⟩
  · rw [ht, List.mem_append, List.mem_singleton]
    unfold kupd
    by_cases e : kp x = kp (L.getD k [])
    · rw [if_pos e]
      have : x = L.getD k [] := kp_inj hx.len hr.len e
      simp [this]
    · rw [if_neg e, h.old x hx]
      exact ⟨Or.inl, fun h1 => h1.resolve_right (fun h2 => e (by rw [h2]))⟩
  · rw [ht]
    exact List.nodup_append.2 ⟨h.nodup, by simp, fun a ha b hb e => by rw [List.mem_singleton] at hb; rw [e, hb] at ha; exact hnot ha⟩
  · unfold kupd at hv
    by_cases e : zs = kp (L.getD k [])
    · rw [if_pos e] at hv; exact ⟨j, (Option.some.inj hv).symm⟩
    · rw [if_neg e] at hv; exact h.ints zs v hv

def RepPost (L : List (List Int)) (w : World) (e : Ending) (w' : World) : Prop :=
  ∃ (i j : Int) (t : Bool), e = .returned (.tuple #[.int .i64 i, .int .i64 j, .bool t]) ∧ (t = false ↔ L.Nodup) ∧ Below w.heap.size w w'

end Go.Proofs.YtahffpgadoiijaaGreat

/- Contract: truth.between. -/
namespace Go.Proofs.YtahffpgadoiijaaGreat
open Go.RowKit Go.Maps

theorem KMap.obj {K : TypeId} {q : IntKind} {w : World} {b n : Nat} {f : List Int → Option Value} (h : KMap K q w b n f) : ∃ es clock, w.heap[b]? = some (.map es clock) := by
  obtain ⟨D, ⟨es, c, h1, _⟩, _⟩ := h; exact ⟨es, c, h1⟩

theorem owns_kmap {K : TypeId} {q : IntKind} {w w' : World} {base e size n m k : Nat} {v : Value} {xs : List Value} {f : List Int → Option Value} (h : w.ownsRow base e size v n xs) (hm : KMap K q w m k f) (hg : w.grownBy w' (some m)) : w'.ownsRow base e size v n xs := by
  refine ⟨h.1, ?_⟩
  rcases h.2 with h2 | ⟨g, cap, cur, hv, hgg, hh, r⟩
  · exact Or.inl h2
  · refine Or.inr ⟨g, cap, cur, hv, hgg, ?_, r⟩
    rw [hg.block g (Array.getElem?_eq_some_iff.1 hh).1 (fun e' => ?_)]
    · exact hh
    · obtain ⟨es, c, ho⟩ := hm.obj
      injection e' with e'
      rw [← e', hh] at ho
      cases ho

theorem LL.kmap {K : TypeId} {q : IntKind} {w w' : World} {base m k : Nat} {v : Value} {vs : List Value} {xss : List (List Int)} {f : List Int → Option Value} (h : LL w base v vs xss) (hm : KMap K q w m k f) (hg : w.grownBy w' (some m)) : LL w' base v vs xss :=
  ⟨owns_kmap h.row hm hg, h.all.mono (fun _ _ _ h' => owns_kmap h' hm hg)⟩

theorem KMap.row {K : TypeId} {q : IntKind} {w w' : World} {base e size n m k : Nat} {v : Value} {xs : List Value} {f : List Int → Option Value} (hm : KMap K q w m k f) (h : w.ownsRow base e size v n xs) (hg : w.grownBy w' v.ownBlock) : KMap K q w' m k f := by
  refine hm.of_block (hg.block m hm.lt (fun e' => ?_))
  rcases h.2 with ⟨h2, _⟩ | ⟨g, cap, cur, hv, hgg, hh, r⟩
  · rw [h2] at e'; cases e'
  · rw [hv] at e'
    have e2 : g = m := by cases e'; rfl
    obtain ⟨es, c, ho⟩ := hm.obj
    rw [← e2, hh] at ho
    cases ho

/-- What the map tells. -/
def FS (n : Nat) (acc : List (List Int)) (f : List Int → Option Value) : Prop := ∀ x, Rw n x → ((f (kp x)).isSome = true ↔ x = rnd n ∨ x ∈ acc)

theorem FS.add {n : Nat} {acc : List (List Int)} {f : List Int → Option Value} (h : FS n acc f) {r : List Int} (hr : Rw n r) (v : Value) : FS n (acc ++ [r]) (kupd f (kp r) v) := by
  intro x hx
  unfold kupd
  by_cases e : kp x = kp r
  · rw [if_pos e]
    have : x = r := kp_inj hx.len hr.len e
    subst this
    simp
  · rw [if_neg e, h x hx, List.mem_append, List.mem_singleton]
    constructor
    · rintro (h1 | h1)
      · exact Or.inl h1
      · exact Or.inr (Or.inl h1)
    · rintro (h1 | h1 | h1)
      · exact Or.inl h1
      · exact Or.inr h1
      · exact absurd (by rw [h1]) e

theorem FS.start {n : Nat} (v : Value) : FS n [] (kupd (fun _ => none) (kp (rnd n)) v) := by
  intro x hx
  unfold kupd
  by_cases e : kp x = kp (rnd n)
  · rw [if_pos e]
    have : x = rnd n := kp_inj hx.len (rnd_length n) e
    simp [this]
  · rw [if_neg e]
    constructor
    · intro h; cases h
    · rintro (rfl | h)
      · exact absurd rfl e
      · cases h

theorem flat_get {α β : Type} (F : α → List β) (k : Nat) (hF : ∀ a, (F a).length = k) : ∀ (l : List α) (p q : Nat) (hp : p < l.length), q < k → (l.flatMap F)[p * k + q]? = (F l[p])[q]?
  | [], p, q, hp, _ => absurd hp (Nat.not_lt_zero _)
  | a :: l, 0, q, _, hq => by
    rw [List.flatMap_cons, Nat.zero_mul, Nat.zero_add, List.getElem?_append_left (by rw [hF]; exact hq)]
    rfl
  | a :: l, p + 1, q, hp, hq => by
    rw [List.flatMap_cons, List.getElem?_append_right (by rw [hF, Nat.succ_mul]; omega), hF, show (p + 1) * k + q - k = p * k + q from by rw [Nat.succ_mul]; omega]
    exact flat_get F k hF l p q (by simpa using hp) hq

theorem pr_next {L : List (List Int)} {p q : Nat} (hp : p < L.length) (hq : q < L.length) : (pr L).take (p * L.length + q + 1) = (pr L).take (p * L.length + q) ++ [by_ (L.getD q []) (un (L.getD p []))] := by
  have h : (pr L)[p * L.length + q]? = some (by_ (L.getD q []) (un (L.getD p []))) := by
    unfold pr
    rw [flat_get _ L.length (fun a => List.length_map _) L p q hp hq, List.getElem?_map, List.getElem?_eq_getElem hq]
    simp [List.getD, List.getElem?_eq_getElem hq, List.getElem?_eq_getElem hp]
  rw [List.take_add_one, h]
  rfl

end Go.Proofs.YtahffpgadoiijaaGreat

/- Contract: truth.between. -/
namespace Go.Proofs.YtahffpgadoiijaaGreat
open Go.RowKit Go.Maps

def BetPost (n : Nat) (L : List (List Int)) (w : World) (e : Ending) (w' : World) : Prop := ∃ u vs, e = .returned u ∧ LL w' w.heap.size u vs (hds n L) ∧ Below w.heap.size w w'

end Go.Proofs.YtahffpgadoiijaaGreat

/- Plain: the runes of a text. -/
namespace Go.Proofs.YtahffpgadoiijaaGreat
open Go.RowKit Go.Lib

/-- The runes of a text from a place on, at most so many. -/
def rns (s : ByteArray) : Nat → Nat → List Nat
  | 0, _ => []
  | f + 1, pos => if pos < s.size then (Utf8.decode s pos).1 :: rns s f (pos + (Utf8.decode s pos).2) else []

def runesOf (s : ByteArray) : List Nat := rns s s.size 0

theorem rns_length (s : ByteArray) : ∀ f pos, (rns s f pos).length ≤ f
  | 0, _ => by simp [rns]
  | f + 1, pos => by
    have ih := rns_length s f (pos + (Utf8.decode s pos).2)
    unfold rns
    split
    · simp; omega
    · simp

theorem runesOf_length (s : ByteArray) : (runesOf s).length ≤ s.size := rns_length s _ _

/-- Runes up to a place, and the rest. -/
def RunesTo (s : ByteArray) (pre : List Nat) (pos : Nat) : Prop := ∃ f, s.size - pos ≤ f ∧ runesOf s = pre ++ rns s f pos

theorem runesTo_start (s : ByteArray) : RunesTo s [] 0 := ⟨s.size, by omega, rfl⟩

theorem RunesTo.next {s : ByteArray} {pre : List Nat} {pos : Nat} (h : RunesTo s pre pos) (hp : pos < s.size) : RunesTo s (pre ++ [(Utf8.decode s pos).1]) (pos + (Utf8.decode s pos).2) := by
  obtain ⟨f, hf, e⟩ := h
  have hw := decode_width_pos s pos hp
  match f, hf, e with
  | 0, hf, _ => omega
  | f + 1, hf, e =>
    refine ⟨f, by omega, ?_⟩
    rw [e, rns, if_pos hp, List.append_assoc, List.singleton_append]

theorem RunesTo.done {s : ByteArray} {pre : List Nat} {pos : Nat} (h : RunesTo s pre pos) (hp : ¬ pos < s.size) : runesOf s = pre := by
  obtain ⟨f, hf, e⟩ := h
  rw [e]
  cases f with
  | zero => simp [rns]
  | succ f => rw [rns, if_neg hp, List.append_nil]

theorem RunesTo.mem {s : ByteArray} {pre : List Nat} {pos : Nat} (h : RunesTo s pre pos) (hp : pos < s.size) : (Utf8.decode s pos).1 ∈ runesOf s ∧ pre.length < s.size := by
  obtain ⟨f, hf, e⟩ := h.next hp
  constructor
  · rw [e]; simp
  · have := runesOf_length s
    rw [e] at this
    simp at this
    omega

theorem decode_le (s : ByteArray) (pos : Nat) : (Utf8.decode s pos).1 ≤ 1114111 := by
  rw [decode_at]
  have h0 : (s.get! pos).toNat < 256 := UInt8.toNat_lt _
  unfold decodeN
  repeat' split
  all_goals simp only
  all_goals omega

end Go.Proofs.YtahffpgadoiijaaGreat

/- Contracts: ofName, Name of package method, at every text. -/
namespace Go.Proofs.YtahffpgadoiijaaGreat
open Go.RowKit Go.Lib

/-- May a rune be in a name? -/
def ofn (r : Nat) : Bool := decide (65 ≤ r ∧ r ≤ 90 ∨ 97 ≤ r ∧ r ≤ 122 ∨ 48 ≤ r ∧ r ≤ 57 ∨ r = 32 ∨ (192 ≤ r ∧ r ≤ 382 ∧ r ≠ 215 ∧ r ≠ 247))

/-- The k-th byte; 0 beyond. -/
def bt (s : ByteArray) (k : Nat) : Nat := ((s.data.toList[k]?).getD 0).toNat

theorem bt_get {s : ByteArray} {k : Nat} (h : k < s.size) : (s[k]'h).toNat = bt s k := by
  have h' : k < s.data.toList.length := by rw [Array.length_toList]; exact h
  unfold bt
  rw [List.getElem?_eq_getElem h', Option.getD_some]
  rfl

theorem bt_lt (s : ByteArray) (k : Nat) : bt s k < 256 := by unfold bt; exact UInt8.toNat_lt _

/-- Is it a name? -/
def nm (s : ByteArray) : Bool := (runesOf s).all ofn && decide (1 ≤ (runesOf s).length ∧ (runesOf s).length ≤ 20 ∧ bt s 0 ≠ 32 ∧ bt s (s.size - 1) ≠ 32)

theorem nm_bad {s : ByteArray} {r : Nat} (h : r ∈ runesOf s) (hr : ofn r = false) : nm s = false := by
  unfold nm
  rw [show (runesOf s).all ofn = false from by rw [List.all_eq_false]; exact ⟨r, h, by simp [hr]⟩]
  rfl

structure NameRel (w wr : World) (s : ByteArray) (pre : List Nat) (pos : Nat) : Prop where
  iter : wr.heap[w.heap.size]? = some (.stringIter s pos)
  rto : RunesTo s pre pos
  all : pre.all ofn = true
  size : w.heap.size < wr.heap.size
  below : Below w.heap.size w wr
end Go.Proofs.YtahffpgadoiijaaGreat

/- Contract: method.mayCount. -/
namespace Go.Proofs.YtahffpgadoiijaaGreat
open Go.RowKit

end Go.Proofs.YtahffpgadoiijaaGreat

/- Contracts: method.Check. -/
namespace Go.Proofs.YtahffpgadoiijaaGreat
open Go.RowKit

/-- A method as a value. -/
abbrev meth (s : ByteArray) (n : Int) (v : Value) : Value := .agg #[.string s, .int .i64 n, v]

/-- Where a method lies. -/
structure Box (w : World) (B : Nat) (s : ByteArray) (n : Int) (v : Value) : Prop where
  c0 : w.cell? ⟨B, 0, none⟩ = some (.string s)
  c1 : w.cell? ⟨B, 1, none⟩ = some (.int .i64 n)
  c2 : w.cell? ⟨B, 2, none⟩ = some v
  lt : B < w.heap.size

theorem Box.start (w : World) (s : ByteArray) (n : Int) (v : Value) (t : TypeId) : Box (w.alloc (.cells #[.string s, .int .i64 n, v] t)) w.heap.size s n v := by
  refine ⟨?_, ?_, ?_, by simp⟩ <;> simp

theorem Box.below {w w' : World} {B : Nat} {s : ByteArray} {n : Int} {v : Value} (h : Box w B s n v) (hb : Below w.heap.size w w') : Box w' B s n v :=
  ⟨(hb.cell (p := ⟨B, 0, none⟩) h.lt).trans h.c0, (hb.cell (p := ⟨B, 1, none⟩) h.lt).trans h.c1, (hb.cell (p := ⟨B, 2, none⟩) h.lt).trans h.c2, Nat.lt_of_lt_of_le h.lt hb.size⟩

end Go.Proofs.YtahffpgadoiijaaGreat

/- Contract: ChangeOf. -/
namespace Go.Proofs.YtahffpgadoiijaaGreat
open Go.RowKit

end Go.Proofs.YtahffpgadoiijaaGreat

/- Contract: ChangesOf. -/
namespace Go.Proofs.YtahffpgadoiijaaGreat
open Go.RowKit

end Go.Proofs.YtahffpgadoiijaaGreat

/- What is known of a row behind a slice; the contracts of package row in its terms. -/
namespace Go.Proofs.YtahffpgadoiijaaGreat
open Go.RowKit

/-- What is known of a row behind a slice. -/
structure RowAt (w : World) (v : Value) (n : Nat) (X : List Int) : Prop where
  ints : Ints w v X
  row : isRow X
  len : X.length = n

theorem RowAt.below {w w' : World} {v : Value} {n : Nat} {X : List Int} (h : RowAt w v n X) (hb : Below w.heap.size w w') : RowAt w' v n X := ⟨h.ints.below hb, h.row, h.len⟩

theorem RowAt.own {w : World} {base : Nat} {v : Value} {n : Nat} {X : List Int} (h : w.ownsRow base 3 1 v n (X.map (Value.int .i64))) (hr : isRow X) : RowAt w v n X :=
  ⟨Ints.own h, hr, by have := h.1; simpa using this⟩

end Go.Proofs.YtahffpgadoiijaaGreat

/- Contract: method.Lead. -/
namespace Go.Proofs.YtahffpgadoiijaaGreat
open Go.RowKit

/-- Rounds, changed by changes. -/
def prd (n : Nat) (ts : List (List Bool)) : List Int := ts.foldl (fun r t => by_ r (trow t)) (rnd n)

theorem prd_snoc (n : Nat) (ts : List (List Bool)) (t : List Bool) : prd n (ts ++ [t]) = by_ (prd n ts) (trow t) := by simp [prd, List.foldl_append]

theorem fold_row (n : Nat) : ∀ (ts : List (List Bool)) (r : List Int), isRow r → r.length = n → (∀ t, t ∈ ts → tsz t = n) → isRow (ts.foldl (fun r t => by_ r (trow t)) r) ∧ (ts.foldl (fun r t => by_ r (trow t)) r).length = n
  | [], _, hr, hl, _ => ⟨hr, hl⟩
  | t :: ts, r, hr, hl, h => by
    have ht : tsz t = n := h t (by simp)
    exact fold_row n ts _ (isRow_by hr (trow_row t) (by rw [trow_length, ht, hl])) (by rw [by_length, trow_length, ht]) (fun t' ht' => h t' (List.mem_cons_of_mem _ ht'))

theorem prd_row (n : Nat) (ts : List (List Bool)) (h : ∀ t, t ∈ ts → tsz t = n) : isRow (prd n ts) ∧ (prd n ts).length = n := fold_row n ts _ (isRow_rnd n) (rnd_length n) h

/-- The first rows of a lead. -/
def leadTo (n : Nat) (ts : List (List Bool)) (k : Nat) : List (List Int) := (List.range (k + 1)).map (fun j => prd n (ts.take j))

theorem leadTo_snoc (n : Nat) (ts : List (List Bool)) (k : Nat) : leadTo n ts (k + 1) = leadTo n ts k ++ [prd n (ts.take (k + 1))] := by
  unfold leadTo; rw [List.range_succ, List.map_append]; rfl

theorem leadTo_length (n : Nat) (ts : List (List Bool)) (k : Nat) : (leadTo n ts k).length = k + 1 := by simp [leadTo]

theorem leadTo_get {n k j : Nat} {ts : List (List Bool)} (h : j ≤ k) : (leadTo n ts k).getD j [] = prd n (ts.take j) := by
  simp [leadTo, List.getD, Nat.lt_succ_of_le h]

theorem tile_ok {n : Nat} {ts : List (List Bool)} (h : ∀ t, t ∈ ts → tsz t = n) {k : Nat} (hk : k < (ts.map tpl).length) : okc n 0 ((ts.map tpl).getD k []) = true := by
  have hk' : k < ts.length := by simpa using hk
  rw [show (ts.map tpl).getD k [] = tpl ts[k] from by simp [List.getD, hk'], ← h ts[k] (List.getElem_mem hk')]
  exact okc_self _

/-- What the loop of Lead knows. -/
structure LeadRel (w wr : World) (s : ByteArray) (n : Nat) (v : Value) (ts : List (List Bool)) (k : Nat) (r u : Value) (vs : List Value) : Prop where
  box : Box wr w.heap.size s n v
  ll : LL wr (w.heap.size + 1) u vs (leadTo n ts k)
  row : wr.ownsRow (w.heap.size + 1) 3 1 r n ((prd n (ts.take k)).map (Value.int .i64))
  below : Below w.heap.size w wr

theorem take_next {ts : List (List Bool)} {k : Nat} (h : k < ts.length) : ts.take (k + 1) = ts.take k ++ [ts[k]] := List.take_succ_eq_append_getElem h

end Go.Proofs.YtahffpgadoiijaaGreat

/- Plain: the first lists of a list of lists; the rows of a lead. -/
namespace Go.Proofs.YtahffpgadoiijaaGreat
open Go.RowKit Go.Maps

/-- The first lists of a list of lists. -/
theorem LL.front {w : World} {base g N cap k : Nat} {vs : List Value} {X : List (List Int)} (h : LL w base (.slice (some ⟨g, 0, none⟩) N cap) vs X) (hN : vs.length = N) (hk : k ≤ N) (h1 : 1 ≤ k) (hg : g < w.heap.size) (hc : N ≤ cap) (hc2 : cap ≤ 9223372036854775807) :
    IntsAll w (.slice (some ⟨g, 0, none⟩) k cap) (X.take k) := by
  have hr := h.row
  rw [hN] at hr
  have hXl := h.len
  refine ⟨vs.take k, Or.inr ⟨g, 0, cap, ?_, ?_, ?_, hc2, hg, fun j hj => ?_⟩, ?_, fun j hj => ?_⟩
  · rw [List.length_take, hN, Nat.min_eq_left hk]
  · rw [List.length_take, hN, Nat.min_eq_left hk]; exact h1
  · rw [List.length_take, hN, Nat.min_eq_left hk]; omega
  · have hj' : j < k := by rw [List.length_take, hN, Nat.min_eq_left hk] at hj; exact hj
    rw [Nat.zero_add, owns_val hr (by omega)]
    simp [List.getD, hj']
  · rw [List.length_take, List.length_take, hXl]
  · have hj' : j < k := by rw [List.length_take] at hj; omega
    have hjX : j < X.length := by rw [← hXl, hN]; omega
    have := Ints.own (h.at hjX)
    have e1 : (vs.take k).getD j undef = vs.getD j undef := by simp [List.getD, hj']
    have e2 : (X.take k).getD j [] = X.getD j [] := by simp [List.getD, hj']
    rw [e1, e2]
    exact this

/-- The rows of a lead, but the last one. -/
def ldr (n : Nat) (ts : List (List Bool)) : List (List Int) := (leadTo n ts ts.length).take ts.length

theorem ldr_length (n : Nat) (ts : List (List Bool)) : (ldr n ts).length = ts.length := by unfold ldr; rw [List.length_take, leadTo_length]; omega

theorem ldr_rows {n : Nat} {ts : List (List Bool)} (h : ∀ t, t ∈ ts → tsz t = n) : ∀ r, r ∈ ldr n ts → Rw n r := by
  intro r hr
  have hr' := List.mem_of_mem_take hr
  obtain ⟨j, hj, e⟩ := List.getElem_of_mem hr'
  have hl : (leadTo n ts ts.length).length = ts.length + 1 := leadTo_length n ts ts.length
  have h2 := leadTo_get (n := n) (ts := ts) (k := ts.length) (j := j) (by omega)
  rw [List.getD_eq_getElem?_getD, List.getElem?_eq_getElem hj, Option.getD_some, e] at h2
  have := prd_row n (ts.take j) (fun t ht => h t (List.mem_of_mem_take ht))
  rw [← h2] at this
  exact ⟨this.1, this.2⟩

end Go.Proofs.YtahffpgadoiijaaGreat

/- Contract: truth.Heads, over what call.Rows tells. -/
namespace Go.Proofs.YtahffpgadoiijaaGreat
open Go.RowKit

/-- What call.Rows tells. -/
def RowsPost (T : List (List Int)) (w : World) (e : Ending) (w' : World) : Prop := ∃ u vs, e = .returned (.tuple #[u, .int .i64 0]) ∧ LL w' w.heap.size u vs T ∧ Below w.heap.size w w'

theorem LL.keptRow {w w' : World} {base : Nat} {v : Value} {vs : List Value} {xss : List (List Int)} {u : Value} {k : Nat} {us : List Value} (h : LL w base v vs xss) (hu : w.ownsRow base 22 1 u k us) (hg : w.grownBy w' u.ownBlock) (hne : v.ownBlock = none ∨ v.ownBlock ≠ u.ownBlock) : LL w' base v vs xss :=
  ⟨h.row.kept hg hne, h.all.mono (fun _ _ _ h' => owns_kept_ty h' hu hg)⟩

theorem Box.keep {w w' : World} {b B : Nat} {s : ByteArray} {n : Int} {v : Value} (h : Box w b s n v) (hb : Below B w w') (hlt : b < B) : Box w' b s n v :=
  ⟨(hb.cell (p := ⟨b, 0, none⟩) hlt).trans h.c0, (hb.cell (p := ⟨b, 1, none⟩) hlt).trans h.c1, (hb.cell (p := ⟨b, 2, none⟩) hlt).trans h.c2, Nat.lt_of_lt_of_le h.lt hb.size⟩

/-- The heads. -/
def headsOf (T : List (List Int)) (k N : Nat) : List (List Int) := (List.range N).map (fun i => T.getD (i * k) [])

theorem headsOf_snoc (T : List (List Int)) (k j : Nat) : headsOf T k (j + 1) = headsOf T k j ++ [T.getD (j * k) []] := by
  unfold headsOf
  rw [List.range_succ, List.map_append]
  rfl

end Go.Proofs.YtahffpgadoiijaaGreat

/- Contract: call.leadOf: the rows of a lead that ends with a call. -/
namespace Go.Proofs.YtahffpgadoiijaaGreat
open Go.RowKit

/-- The changes of a lead that ends with a call. -/
def calledBy (ts ss : List (List Bool)) : List (List Bool) := ts.take (ts.length - ss.length) ++ ss

theorem calledBy_length {ts ss : List (List Bool)} (h : ss.length ≤ ts.length) : (calledBy ts ss).length = ts.length := by
  unfold calledBy; rw [List.length_append, List.length_take]; omega

theorem calledBy_mem {n : Nat} {ts ss : List (List Bool)} (h1 : ∀ t, t ∈ ts → tsz t = n) (h2 : ∀ t, t ∈ ss → tsz t = n) : ∀ t, t ∈ calledBy ts ss → tsz t = n := by
  intro t ht
  rcases List.mem_append.1 ht with h | h
  · exact h1 t (List.mem_of_mem_take h)
  · exact h2 t h

end Go.Proofs.YtahffpgadoiijaaGreat

/- Contract: the answer's Ends. -/
namespace Go.Proofs.YtahffpgadoiijaaGreat
open Go.RowKit
set_option maxRecDepth 20000
set_option linter.unusedVariables false

/-- 'append(a, b...)': a owned, b whatever came in, none too. -/
theorem run_append_vals {P : Program} (w : World) (base : Nat) (t ty e : TypeId) (i : TypeInfo) (z : Value) (bytes : Nat) (ht : P.underlying t = some (.slice e)) (hi : P.info? e = some i) (hz : i.zero = some z)
    (hsize : i.size = 1) (hby : i.bytes = bytes) (hzs : z.cells.size = 1)
    (v : Value) (n : Nat) (xs : List Value) (hown : w.ownsRow base e 1 v n xs)
    (u : Value) (news : List Value) (hsrc : Vals w u news) (h1 : ∀ u ∈ news, u.oneCell' = true)
    (h63 : n + news.length ≤ maxLen) (hbytes : (n + news.length) * bytes ≤ 140737488355328) (hbase : base ≤ w.heap.size) :
    ∃ v' w', (Builtin.append_ #[t, t] ty #[v, u]).run P w = .ok v' w' ∧ w'.ownsRow base e 1 v' (n + news.length) (xs ++ news) ∧ w.grownBy w' v.ownBlock := by
  rcases hsrc with ⟨rfl, p, c, rfl⟩ | ⟨b, off, cap, rfl, h0, hc, hm, hb, hcell⟩
  · rw [List.length_nil, Nat.add_zero, List.append_nil]
    have hr : w.grownBy w v.ownBlock := ⟨rfl, rfl, rfl, Nat.le_refl _, fun _ _ _ => rfl⟩
    rcases hown.2 with ⟨rfl, rfl⟩ | ⟨g2, cap2, cur2, rfl, _, _, hnc2, _⟩
    · exact ⟨_, w, run_append_nil_none (P := P) w t ty e i ht hi p c, hown, hr⟩
    · exact ⟨_, w, run_append_none (P := P) w t ty e i ht hi ⟨g2, 0, none⟩ n cap2 hnc2 p c, hown, hr⟩
  · obtain ⟨v', w', hr, h2, h3, _⟩ := run_append_keep (P := P) w base t ty e i z 1 bytes ht hi hz hsize hby hzs (by decide) v n xs hown ⟨b, off, none⟩ news.length cap news (by omega) (fun j u hu => by
      have hj := (List.getElem?_eq_some_iff.1 hu).1
      have := hcell j hj
      rw [List.getD_eq_getElem?_getD, hu] at this
      rw [Addr.add_lit]
      exact this) h1 h63 hbytes hbase
    exact ⟨v', w', hr, h2, h3⟩

/-- .. as one step of a region that draws. -/
theorem step_append_vals {P : Program} {ops : Array Oper} {o : Oper} {a : Act} {w : World} {K : Act → World → Prop} {Q : Exit → Act → World → Prop} {E : Prop} (hg : o.guard = none) (s x : Operand) (t : TypeId)
    (ho : o.op = .call { callee := .builtin .append, args := #[s, x], argTypes := #[t, t] })
    (base : Nat) (e : TypeId) (i : TypeInfo) (z : Value) (bytes : Nat) (ht : P.underlying t = some (.slice e)) (hi : P.info? e = some i) (hz : i.zero = some z)
    (hsize : i.size = 1) (hby : i.bytes = bytes) (hzs : z.cells.size = 1)
    (v : Value) (n : Nat) (xs : List Value) (hs : a.eval s = v) (hown : w.ownsRow base e 1 v n xs)
    (u : Value) (news : List Value) (hx : a.eval x = u) (hsrc : Vals w u news) (h1 : ∀ u ∈ news, u.oneCell' = true)
    (h63 : n + news.length ≤ maxLen) (hbytes : (n + news.length) * bytes ≤ 140737488355328) (hbase : base ≤ w.heap.size)
    (h : ∀ v' w', w'.ownsRow base e 1 v' (n + news.length) (xs ++ news) → w.grownBy w' v.ownBlock → K (a.put o.dst v') w') :
    if Region.wanted o (yielded ops a.tmps) = true then Oper.wp P o a w K Q else E := by
  have hw : Region.wanted o (yielded ops a.tmps) = true := by simp [Region.wanted, hg]
  rw [if_pos hw]
  obtain ⟨v', w', hr, h2, h3⟩ := run_append_vals (P := P) w base t o.type e i z bytes ht hi hz hsize hby hzs v n xs hown u news hsrc h1 h63 hbytes hbase
  unfold Oper.wp execOp
  simp only [ho, resolve, invoke, builtin, Sem.run_bind, Sem.run_pure, Result.andThen_ok, List.map_toArray, List.map_cons, List.map_nil, hs, hx, hr]
  exact h v' w' h2 h3

theorem alloc_new9 (w : World) (o : Obj) : (w.alloc o).heap[w.heap.size]? = some o := heap_alloc_new w o

theorem alloc_new9' (w : World) (o : Obj) {k : Nat} (h : k = w.heap.size) : (w.alloc o).heap[k]? = some o := by rw [h]; exact alloc_new9 w o

/-- A call's value. -/
def callV (sg : Int) (cv : Value) : Value := .agg #[.int .i32 sg, cv]

theorem Vals.take {w : World} {p : Option Addr} {m c k : Nat} {vs : List Value} (h : Vals w (.slice p m c) vs) (hk : k ≤ vs.length) : Vals w (.slice p k c) (vs.take k) := by
  rcases h with ⟨rfl, p', c', e⟩ | ⟨b, off, cap, e, h0, h1, h2, h3, hc⟩
  · simp at hk
    subst hk
    exact Or.inl ⟨rfl, _, _, rfl⟩
  · injection e with e1 e2 e3
    subst e1; subst e3
    have hl : (vs.take k).length = k := by rw [List.length_take]; omega
    rcases Nat.eq_zero_or_pos k with h9 | h9
    · subst h9; exact Or.inl ⟨rfl, _, _, rfl⟩
    · refine Or.inr ⟨b, off, c, by rw [hl], by omega, by omega, h2, h3, fun j hj => ?_⟩
      rw [hl] at hj
      rw [hc j (by omega)]
      simp [List.getD, hj]

theorem vals_len {w : World} {p : Option Addr} {m c : Nat} {vs : List Value} (h : Vals w (.slice p m c) vs) : m = vs.length := by
  rcases h with ⟨rfl, p', c', e⟩ | ⟨b, off, cap, e, _⟩
  · injection e
  · injection e

theorem vals_cap {w : World} {p : Option Addr} {m c : Nat} {vs : List Value} (h : Vals w (.slice p m c) vs) (h0 : 1 ≤ m) : m ≤ c ∧ ∃ b off, p = some ⟨b, off, none⟩ := by
  rcases h with ⟨rfl, p', c', e⟩ | ⟨b, off, cap, e, h0, h1, _⟩
  · injection e with _ e2 _; omega
  · injection e with e1 e2 e3
    subst e3
    exact ⟨by omega, b, off, e1⟩

end Go.Proofs.YtahffpgadoiijaaGreat

/- Contract: the answer's Ordered. -/
namespace Go.Proofs.YtahffpgadoiijaaGreat
open Go.RowKit
set_option maxRecDepth 20000
set_option linter.unusedVariables false

theorem Vals.dropK {w : World} {b o c m k : Nat} {vs : List Value} (h : Vals w (.slice (some ⟨b, o, none⟩) m c) vs) (hk : k < m) : Vals w (.slice (some ⟨b, o + k, none⟩) (m - k) (c - k)) (vs.drop k) := by
  rcases h with ⟨rfl, p', c', e⟩ | ⟨b', off, cap, e, h0, h1, h2, h3, hc⟩
  · simp at e; omega
  · simp only [Value.slice.injEq, Option.some.injEq, Addr.mk.injEq, and_true] at e
    obtain ⟨⟨rfl, rfl⟩, rfl, rfl⟩ := e
    refine Or.inr ⟨b, o + k, c - k, by rw [List.length_drop], by rw [List.length_drop]; omega, by rw [List.length_drop]; omega, by omega, h3, fun j hj => ?_⟩
    rw [List.length_drop] at hj
    rw [show o + k + j = o + (k + j) from by omega, hc (k + j) (by omega)]
    simp [List.getD]

def OrdPost (P : List (Value × List Int)) (w : World) (e : Ending) (w' : World) : Prop :=
  ∃ (u : Value) (P' : List (Value × List Int)), e = .returned u ∧ Vals w' u (P'.map Prod.fst) ∧ P'.Perm P ∧ P'.Pairwise (fun a b => blw b.2 a.2 = false) ∧ Below w.heap.size w w'

/-- What a list of values and what they read as gives at an index. -/
theorem pv_at {A : List (Value × List Int)} {i : Nat} (h : i < A.length) : ∃ x, A[i]? = some x ∧ x ∈ A ∧ (A.map Prod.fst).getD i undef = x.1 := by
  refine ⟨A[i], List.getElem?_eq_getElem h, List.getElem_mem h, by simp [List.getD, h]⟩

theorem Vals.cells {w : World} {v : Value} {vs : List Value} {m : Nat} (h : Vals w v vs) (hm : vs.length = m) (h1 : 1 ≤ m) : ∃ b off cap, v = .slice (some ⟨b, off, none⟩) m cap ∧ m ≤ cap ∧ cap ≤ 9223372036854775807 ∧ b < w.heap.size ∧ ∀ j, j < m → w.cell? ⟨b, off + j, none⟩ = some (vs.getD j undef) := by
  subst hm
  rcases h with ⟨rfl, p', c', e⟩ | ⟨b, off, cap, e, h0, h1, h2, h3, hc⟩
  · simp at h1
  · exact ⟨b, off, cap, e, h1, h2, h3, hc⟩

/-- What the merging knows. -/
structure MRel (A B Z : List (Value × List Int)) (w2 wr : World) (v : Value) (i k : Nat) : Prop where
  own : wr.ownsRow w2.heap.size 22 1 v Z.length (Z.map Prod.fst)
  eq : mrg A B = Z ++ mrg (A.drop i) (B.drop k)
  len : Z.length = i + k
  below : Below w2.heap.size w2 wr

theorem MRel.later {A B Z : List (Value × List Int)} {w2 wr w9 : World} {v : Value} {i k : Nat} (h : MRel A B Z w2 wr v i k) (hb : Below wr.heap.size wr w9) : MRel A B Z w2 w9 v i k :=
  ⟨owns_below h.own hb (Nat.le_refl _), h.eq, h.len, h.below.trans (hb.mono h.below.size)⟩

theorem MRel.next {A B Z : List (Value × List Int)} {w2 wr w9 : World} {v v9 : Value} {i k i' k' : Nat} {x : Value × List Int} {o : Obj} (h : MRel A B Z w2 wr v i k) (hx : mrg (A.drop i) (B.drop k) = x :: mrg (A.drop i') (B.drop k')) (hl : i' + k' = i + k + 1)
    (ho : w9.ownsRow w2.heap.size 22 1 v9 (Z.length + 1) (Z.map Prod.fst ++ [x.1])) (hg : (wr.alloc o).grownBy w9 v.ownBlock) : MRel A B (Z ++ [x]) w2 w9 v9 i' k' := by
  refine ⟨?_, ?_, ?_, ?_⟩
  · rw [List.length_append, List.map_append]; exact ho
  · rw [h.eq, hx, List.append_assoc]; rfl
  · rw [List.length_append, h.len]; simp; omega
  · exact (h.below.alloc h.below.size _).grown hg (by have := h.below.size; simp; omega) (fun g hg' => (h.own.lt g hg').1)

set_option maxHeartbeats 4000000 in
theorem ordered_ok (W0 : World) : ∀ (N : Nat) (P : List (Value × List Int)) (v : Value) (w : World), P.length ≤ N → P.length ≤ 1000000 → Vals w v (P.map Prod.fst) → Below W0.heap.size W0 w → (∀ p, p ∈ P → Ints W0 p.1 p.2 ∧ p.2.length ≤ 1000000) →
    Calls Tryz.prog 34 #[v] w (OrdPost P w) := by
  intro N
  induction N using Nat.strongRecOn with
  | ind N ih =>
    intro P v w hN hM hv hW hP
    obtain ⟨j0, hj, hq0, hq1, hq2⟩ := info_parts Tryz.info22
    by_cases h2 : P.length < 2
    · have HP : Hid (OrdPost P w (.returned v) w) := by
        refine ⟨v, P, rfl, hv, List.Perm.refl _, ?_, Below.refl _ _⟩
        match P, h2 with
        | [], _ => exact List.Pairwise.nil
        | [a], _ => exact List.pairwise_singleton _ _
      obtain ⟨p, c, hve⟩ := hv.form
      rw [List.length_map] at hve
      subst hve
      have h2' : (P.length : Int) < 2 := by omega
      clear hv hP ih hW
      generalize P.length = m at *
      go_enter Tryz.func34, Tryz.ntmps34
      go_wp2
      go_ret
      exact HP.out
    · obtain ⟨m, hm⟩ : ∃ m, Hid (P.length = m) := ⟨_, rfl⟩
      have hmP : (P.map Prod.fst).length = m := by rw [List.length_map]; exact hm.out
      rw [hm.out] at h2 hN hM
      obtain ⟨b, off, cap, rfl, hc1, hc2, hbl, hcell⟩ := hv.cells hmP (by omega)
      obtain ⟨q, hq⟩ : ∃ q, Hid (q = m / 2) := ⟨_, rfl⟩
      have hqv := hq.out
      have hq1' : 1 ≤ q := by omega
      have hq2' : q < m := by omega
      have hdv : (m : Int).tdiv 2 = (q : Int) := by
        rw [show (2 : Int) = ((2 : Nat) : Int) from rfl, ← Int.ofNat_tdiv, hqv]
      have HV1 := hide (hv.take (k := q) (by rw [hmP]; omega))
      have HV2 := hide (hv.dropK hq2')
      have HI := hide hP
      have HW := hide hW
      have HIH := hide ih
      have hg2 : ¬ (m : Int) < 2 := by omega
      clear hv hP hcell hqv ih hW hmP
      have HT1 : Hid (∀ p, p ∈ P.take q → Ints W0 p.1 p.2 ∧ p.2.length ≤ 1000000) := fun p hp => HI.out p (List.mem_of_mem_take hp)
      have HT2 : Hid (∀ p, p ∈ P.drop q → Ints W0 p.1 p.2 ∧ p.2.length ≤ 1000000) := fun p hp => HI.out p (List.mem_of_mem_drop hp)
      have HC1 : Hid (Calls Tryz.prog 34 #[.slice (some ⟨b, off, none⟩) q cap] w (OrdPost (P.take q) w)) := by
        have hl : (P.take q).length = q := by rw [List.length_take, hm.out]; omega
        exact HIH.out q (by omega) (P.take q) _ w (by omega) (by omega) (by rw [List.map_take]; exact HV1.out) HW.out HT1.out
      have HC2 : Hid (∀ W, Below w.heap.size w W → Calls Tryz.prog 34 #[.slice (some ⟨b, off + q, none⟩) (m - q) (cap - q)] W (OrdPost (P.drop q) W)) := fun W hb => by
        have hl : (P.drop q).length = m - q := by rw [List.length_drop, hm.out]
        exact HIH.out (m - q) (by omega) (P.drop q) _ W (by omega) (by omega) (by rw [List.map_drop]; exact HV2.out.below hb) (HW.out.trans (hb.mono HW.out.size)) HT2.out
      clear HIH HV1 HV2
      go_enter Tryz.func34, Tryz.ntmps34
      go_wp2_with fail
      refine HC1.out.mono ?_
      rintro e w1 ⟨u1, A, rfl, hA1, hA2, hA3, hb1⟩
      have HA1 := hide hA1
      have HA2 := hide hA2
      have HA3 := hide hA3
      have hAl : A.length = q := by rw [hA2.length_eq, List.length_take, hm.out]; omega
      obtain ⟨ab, ao, ac, rfl, hac1, hac2, hab, hacell⟩ := hA1.cells (m := q) (by rw [List.length_map]; exact hAl) hq1'
      have HAC := hide hacell
      clear hA1 hA2 hA3 HC1 hacell
      go_wp2_with fail
      refine (HC2.out w1 hb1).mono ?_
      rintro e w2 ⟨u2, B, rfl, hB1, hB2, hB3, hb2⟩
      have HB2 := hide hB2
      have HB3 := hide hB3
      have hBl : B.length = m - q := by rw [hB2.length_eq, List.length_drop, hm.out]
      obtain ⟨bb, bo, bc, rfl, hbc1, hbc2, hbb, hbcell⟩ := hB1.cells (m := m - q) (by rw [List.length_map]; exact hBl) (by omega)
      obtain ⟨r, hr⟩ : ∃ r, m - q = r := ⟨_, rfl⟩
      rw [hr] at hbcell hbc1 hBl ⊢
      have HBC := hide hbcell
      have HAC2 : Hid (∀ j, j < q → w2.cell? ⟨ab, ao + j, none⟩ = some ((A.map Prod.fst).getD j undef)) := fun j hj => (hb2.cell (p := ⟨ab, ao + j, none⟩) hab).trans (HAC.out j hj)
      have hab2 : ab < w2.heap.size := Nat.lt_of_lt_of_le hab hb2.size
      have hbw2 : Below w.heap.size w w2 := hb1.trans (hb2.mono hb1.size)
      have HIA : Hid (∀ p, p ∈ A → Ints W0 p.1 p.2 ∧ p.2.length ≤ 1000000) := fun p hp => HT1.out p (HA2.out.mem_iff.1 hp)
      have HIB : Hid (∀ p, p ∈ B → Ints W0 p.1 p.2 ∧ p.2.length ≤ 1000000) := fun p hp => HT2.out p (HB2.out.mem_iff.1 hp)
      have HAl := hide hAl
      have HBl := hide hBl
      have HW2 : Hid (Below W0.heap.size W0 w2) := HW.out.trans (hbw2.mono HW.out.size)
      have HR0 : Hid (MRel A B [] w2 w2 (.slice none 0 0) 0 0) := ⟨World.ownsRow_nil _ _ _ _, rfl, rfl, Below.refl _ _⟩
      have HPOST : Hid (∀ Z v wr, MRel A B Z w2 wr v q r → OrdPost P w (.returned v) wr) := fun Z v wr hR => by
        have hz : Z = mrg A B := by
          have h9 := hR.eq
          rw [List.drop_eq_nil_of_le (by rw [HAl.out]; exact Nat.le_refl _), List.drop_eq_nil_of_le (by rw [HBl.out]; exact Nat.le_refl _), mrg_nil, List.append_nil] at h9
          exact h9.symm
        refine ⟨v, Z, rfl, Vals.own (by rw [List.length_map]; exact hR.own), ?_, ?_, hbw2.trans (hR.below.mono hbw2.size)⟩
        · rw [hz]
          have h9 := (mrg_perm A B).trans (HA2.out.append HB2.out)
          rw [List.take_append_drop] at h9
          exact h9
        · rw [hz]; exact mrg_ris A B HA3.out HB3.out
      have hrm : r + q = m := by omega
      clear hB1 hB2 hB3 hb1 hb2 HC2 HAC hbcell hAl hBl hr hdv
      go_wp2
      go_loopw [5, 6, 7] (fun hd iv kv wr => ∃ (Z : List (Value × List Int)) (i k : Nat), i ≤ q ∧ k ≤ r ∧ iv = .int .i64 i ∧ kv = .int .i64 k ∧ Hid (MRel A B Z w2 wr hd i k)) (fun _ iv kv _ => q + r - ((intOf iv).toNat + (intOf kv).toNat))
      case atStart => exact ⟨[], 0, 0, by omega, by omega, rfl, rfl, HR0⟩
      case round =>
        clear HR0
        obtain ⟨Z, i, k, hi, hk, rfl, rfl, hR⟩ := hrel
        have hbr := hR.out.below
        have hbs := hbr.size
        have hZb : Z.length ≤ 1000000 := by rw [hR.out.len]; omega
        have hrow := hR.out.own
        obtain ⟨zp, zc, rfl⟩ := owns_slice hrow
        have HRW := hide hrow
        clear hrow
        by_cases hiq : i < q
        · obtain ⟨x, hx1, hx2, hx3⟩ := pv_at (A := A) (i := i) (by rw [HAl.out]; exact hiq)
          have gx := (hbr.cell (p := ⟨ab, ao + i, none⟩) hab2).trans (HAC2.out i hiq)
          rw [hx3] at gx
          obtain ⟨xi, xl⟩ := HIA.out x hx2
          obtain ⟨xp, xc, hxe⟩ := xi.form
          rw [hxe] at gx
          by_cases hkr : k < r
          · obtain ⟨y, hy1, hy2, hy3⟩ := pv_at (A := B) (i := k) (by rw [HBl.out]; exact hkr)
            have gy := (hbr.cell (p := ⟨bb, bo + k, none⟩) hbb).trans (HBC.out k hkr)
            rw [hy3] at gy
            obtain ⟨yi, yl⟩ := HIB.out y hy2
            obtain ⟨yp, yc, hye⟩ := yi.form
            rw [hye] at gy
            have HBQ : Hid (∀ mm, Calls Tryz.prog 60 #[.slice yp y.2.length yc, .slice xp x.2.length xc] (wr.drewN mm) fun e w' => e = .returned (.bool (blw y.2 x.2)) ∧ ∃ m', w' = (wr.drewN mm).drewN m') := fun mm => by
              have hbb9 : Below W0.heap.size W0 (wr.drewN mm) := below_drewN (HW2.out.trans (hbr.mono HW2.out.size)) mm
              exact rbelow_q _ _ _ _ (wr.drewN mm) (by rw [← hye]; exact yi.below hbb9) (by rw [← hxe]; exact xi.below hbb9) yl xl
            have HLX := hide (fun h => mrg_left (B := B) (k := k) hx1 (Or.inr ⟨y, hy1, h⟩))
            have HRX := hide (fun h => mrg_right (A := A) (i := i) hy1 (Or.inr ⟨x, hx1, h⟩))
            have hd1 : decide ((i : Int) < (q : Int)) = true := decide_eq_true (by omega)
            have hd2 : ((k : Int) == (r : Int)) = false := by simp; omega
            have hik : (i : Int) < (q : Int) := by omega
            have HXE := hide hxe
            have HYE := hide hye
            clear xi yi xl yl hxe hye hx2 hy2 hx3 hy3 hx1 hy1
            generalize x.2.length = xn at *
            generalize y.2.length = yn at *
            go_wp2
            cases hc : blw y.2 x.2 with
            | false =>
              rw [hc] at HBQ
              have HNX := hide (HLX.out hc)
              clear hc
              go_quiet ((go_at_call 60; exact Calls.quiet_of (HBQ.out _)))
              have HR9 := hide (hR.out.later (below_drewN (Below.refl _ _) nq))
              have gx9 : (wr.drewN nq).cell? ⟨ab, ao + i, none⟩ = some (.slice xp xn xc) := gx
              have gy9 : (wr.drewN nq).cell? ⟨bb, bo + k, none⟩ = some (.slice yp yn yc) := gy
              clear HBQ HLX HRX gx gy hR
              generalize wr.drewN nq = wX at *
              have hrow9 := HR9.out.own
              have hs9 := HR9.out.below.size
              go_wp2_with (at_builtin; refine wpList_append_own _ rfl _ _ 25 rfl w2.heap.size 22 j0 (.slice none 0 0) 1 24 Tryz.underlying25 hj hq0 hq1 hq2 rfl (by decide) _ _ _ rfl (hrow9.alloc _) ⟨wX.heap.size, 0, none⟩ 1 1 [.slice xp xn xc] rfl rfl ?c1a ?c2a ?c3a ?c4a ?c5a ?_)
              case c1a => exact cell_one_new _ _ _
              case c2a => intro u hu; simp at hu; subst hu; rfl
              case c3a => unfold maxLen; omega
              case c4a => omega
              case c5a => simp; omega
              · intro v9 w9 hown9 hg9 _
                have HRN := hide (HR9.out.next (x := x) HNX.out (by omega) (by rw [HXE.out]; exact hown9) hg9)
                clear hown9 hg9 HR9 hrow9 HNX
                go_wp2
                go_roundw
                case rel => exact ⟨Z ++ [x], i + 1, k, by omega, by omega, by go_num, rfl, HRN⟩
                case measure => simp [intOf]; omega
            | true =>
              rw [hc] at HBQ
              have HNX := hide (HRX.out hc)
              clear hc
              go_quiet ((go_at_call 60; exact Calls.quiet_of (HBQ.out _)))
              have HR9 := hide (hR.out.later (below_drewN (Below.refl _ _) nq))
              have gx9 : (wr.drewN nq).cell? ⟨ab, ao + i, none⟩ = some (.slice xp xn xc) := gx
              have gy9 : (wr.drewN nq).cell? ⟨bb, bo + k, none⟩ = some (.slice yp yn yc) := gy
              clear HBQ HLX HRX gx gy hR
              generalize wr.drewN nq = wX at *
              have hrow9 := HR9.out.own
              have hs9 := HR9.out.below.size
              go_wp2_with (at_builtin; refine wpList_append_own _ rfl _ _ 25 rfl w2.heap.size 22 j0 (.slice none 0 0) 1 24 Tryz.underlying25 hj hq0 hq1 hq2 rfl (by decide) _ _ _ rfl (hrow9.alloc _) ⟨wX.heap.size, 0, none⟩ 1 1 [.slice yp yn yc] rfl rfl ?c1b ?c2b ?c3b ?c4b ?c5b ?_)
              case c1b => exact cell_one_new _ _ _
              case c2b => intro u hu; simp at hu; subst hu; rfl
              case c3b => unfold maxLen; omega
              case c4b => omega
              case c5b => simp; omega
              · intro v9 w9 hown9 hg9 _
                have HRN := hide (HR9.out.next (x := y) HNX.out (by omega) (by rw [HYE.out]; exact hown9) hg9)
                clear hown9 hg9 HR9 hrow9 HNX
                go_wp2
                go_roundw
                case rel => exact ⟨Z ++ [y], i, k + 1, by omega, by omega, rfl, by go_num, HRN⟩
                case measure => simp [intOf]; omega
          · obtain rfl : k = r := by omega
            have HNX := hide (mrg_left (B := B) (k := k) hx1 (Or.inl HBl.out.symm))
            have hik : (i : Int) < (q : Int) := by omega
            have hd1 : decide ((i : Int) < (q : Int)) = true := decide_eq_true (by omega)
            have HXE := hide hxe
            clear xi xl hxe hx2 hx3 hx1
            generalize x.2.length = xn at *
            go_wp2
            go_quiet (fail)
            have HR9 := hide (hR.out.later (below_drewN (Below.refl _ _) nq))
            have gx9 : (wr.drewN nq).cell? ⟨ab, ao + i, none⟩ = some (.slice xp xn xc) := gx
            clear gx hR
            generalize wr.drewN nq = wX at *
            have hrow9 := HR9.out.own
            have hs9 := HR9.out.below.size
            go_wp2_with (at_builtin; refine wpList_append_own _ rfl _ _ 25 rfl w2.heap.size 22 j0 (.slice none 0 0) 1 24 Tryz.underlying25 hj hq0 hq1 hq2 rfl (by decide) _ _ _ rfl (hrow9.alloc _) ⟨wX.heap.size, 0, none⟩ 1 1 [.slice xp xn xc] rfl rfl ?c1c ?c2c ?c3c ?c4c ?c5c ?_)
            case c1c => exact cell_one_new _ _ _
            case c2c => intro u hu; simp at hu; subst hu; rfl
            case c3c => unfold maxLen; omega
            case c4c => omega
            case c5c => simp; omega
            · intro v9 w9 hown9 hg9 _
              have HRN := hide (HR9.out.next (x := x) HNX.out (by omega) (by rw [HXE.out]; exact hown9) hg9)
              clear hown9 hg9 HR9 hrow9 HNX
              go_wp2
              go_roundw
              case rel => exact ⟨Z ++ [x], i + 1, k, by omega, by omega, by go_num, rfl, HRN⟩
              case measure => simp [intOf]; omega
        · obtain rfl : i = q := by omega
          by_cases hkr : k < r
          · obtain ⟨y, hy1, hy2, hy3⟩ := pv_at (A := B) (i := k) (by rw [HBl.out]; exact hkr)
            have gy := (hbr.cell (p := ⟨bb, bo + k, none⟩) hbb).trans (HBC.out k hkr)
            rw [hy3] at gy
            obtain ⟨yi, yl⟩ := HIB.out y hy2
            obtain ⟨yp, yc, hye⟩ := yi.form
            rw [hye] at gy
            have HNX := hide (mrg_right (A := A) (i := i) hy1 (Or.inl HAl.out.symm))
            have hik : ¬ (i : Int) < (i : Int) := by omega
            have hkk : (k : Int) < (r : Int) := by omega
            have hd1 : decide ((i : Int) < (i : Int)) = false := decide_eq_false (by omega)
            have hd2 : decide ((k : Int) < (r : Int)) = true := decide_eq_true (by omega)
            have HYE := hide hye
            clear yi yl hye hy2 hy3 hy1
            generalize y.2.length = yn at *
            go_wp2
            go_quiet (fail)
            have HR9 := hide (hR.out.later (below_drewN (Below.refl _ _) nq))
            have gy9 : (wr.drewN nq).cell? ⟨bb, bo + k, none⟩ = some (.slice yp yn yc) := gy
            clear gy hR
            generalize wr.drewN nq = wX at *
            have hrow9 := HR9.out.own
            have hs9 := HR9.out.below.size
            go_wp2_with (at_builtin; refine wpList_append_own _ rfl _ _ 25 rfl w2.heap.size 22 j0 (.slice none 0 0) 1 24 Tryz.underlying25 hj hq0 hq1 hq2 rfl (by decide) _ _ _ rfl (hrow9.alloc _) ⟨wX.heap.size, 0, none⟩ 1 1 [.slice yp yn yc] rfl rfl ?c1d ?c2d ?c3d ?c4d ?c5d ?_)
            case c1d => exact cell_one_new _ _ _
            case c2d => intro u hu; simp at hu; subst hu; rfl
            case c3d => unfold maxLen; omega
            case c4d => omega
            case c5d => simp; omega
            · intro v9 w9 hown9 hg9 _
              have HRN := hide (HR9.out.next (x := y) HNX.out (by omega) (by rw [HYE.out]; exact hown9) hg9)
              clear hown9 hg9 HR9 hrow9 HNX
              go_wp2
              go_roundw
              case rel => exact ⟨Z ++ [y], i, k + 1, by omega, by omega, rfl, by go_num, HRN⟩
              case measure => simp [intOf]; omega
          · obtain rfl : k = r := by omega
            have HP := hide (HPOST.out Z _ wr hR.out)
            clear hR HPOST HRW
            have hd1 : decide ((i : Int) < (i : Int)) = false := decide_eq_false (by omega)
            have hd2 : decide ((k : Int) < (k : Int)) = false := decide_eq_false (by omega)
            go_wp2
            go_ret
            exact HP.out

end Go.Proofs.YtahffpgadoiijaaGreat

/- Rows that were made of raw numbers, in a later world; what a law answers (out of GNormA). -/
namespace Go.Proofs.YtahffpgadoiijaaGreat
open Go.RowKit

theorem run_ptr_ne (a : Addr) (w : World) : (binOp BinOp.eql 49 (.pointer (some a)) (.pointer none)).run Tryz.prog w = .ok (.bool false) w := by kernel_rfl

/-- Rows that were made of raw numbers, in a later world. -/
structure Gens (w wr : World) (n m : Nat) (u : Value) (vs : List Value) (xss : List (List Int)) : Prop where
  row : wr.ownsRow w.heap.size 22 1 u m vs
  all : OwnAll wr w.heap.size vs xss
  len : vs.length = m
  rows : RowsN n xss

theorem Gens.later {w wr w' : World} {n m : Nat} {u : Value} {vs : List Value} {xss : List (List Int)} (h : Gens w wr n m u vs xss) (hb : Below wr.heap.size wr w') : Gens w w' n m u vs xss :=
  ⟨owns_below h.row hb (Nat.le_refl _), h.all.mono (fun _ _ _ h' => owns_below h' hb (Nat.le_refl _)), h.len, h.rows⟩

theorem Gens.made {w wa wr : World} {n m : Nat} {u : Value} {vs : List Value} {xss : List (List Int)} (h : RowsRel wa wr n m u vs xss) (hs : w.heap.size ≤ wa.heap.size) : Gens w wr n m u vs xss :=
  ⟨owns_base h.row hs, OwnAll.low hs h.all, h.len, h.rows⟩

theorem Gens.ints {w wr : World} {n m : Nat} {u : Value} {vs : List Value} {xss : List (List Int)} (h : Gens w wr n m u vs xss) : IntsAll wr u xss := by
  have hr := h.row
  rw [← h.len] at hr
  exact IntsAll.own hr h.all

theorem Gens.size {w wr : World} {n m : Nat} {u : Value} {vs : List Value} {xss : List (List Int)} (h : Gens w wr n m u vs xss) : xss.length = m := by rw [← OwnAll.length h.all]; exact h.len

def Told (w : World) (e : Ending) (w' : World) : Prop := e = .returned (.bool true) ∧ Below w.heap.size w w'

theorem Ints.open {w : World} {p : Option Addr} {n c : Nat} {xs : List Int} (h : Ints w (.slice p n c) xs) (h0 : 0 < xs.length) : ∃ b off, p = some ⟨b, off, none⟩ ∧ xs.length ≤ c ∧ c ≤ 9223372036854775807 ∧ b < w.heap.size ∧ ∀ j, j < xs.length → w.cell? ⟨b, off + j, none⟩ = some (.int .i64 (xs.getD j 0)) := by
  rcases h with ⟨rfl, _⟩ | ⟨b, off, cap, h1, h2, h3, h4, h5, h6⟩
  · simp at h0
  · injection h1 with e1 e2 e3
    exact ⟨b, off, e1, by omega, by omega, h5, h6⟩

end Go.Proofs.YtahffpgadoiijaaGreat

/- Contract: the answer's Orbits. -/
namespace Go.Proofs.YtahffpgadoiijaaGreat
open Go.RowKit

/-- Which bells rows have in a place, in order. -/
def thr (rows : List (List Int)) (n b : Nat) : List Nat := (List.range n).filter (fun k => rows.any (fun r => r.getD b 0 == (k : Int)))

def rorbsTo (rows : List (List Int)) (n : Nat) : Nat → List (List Nat)
  | 0 => []
  | b + 1 => if (thr rows n b).head? = some b then rorbsTo rows n b ++ [thr rows n b] else rorbsTo rows n b

theorem rorbsTo_length (rows : List (List Int)) (n : Nat) : ∀ k, (rorbsTo rows n k).length ≤ k
  | 0 => Nat.le_refl _
  | k + 1 => by
    have := rorbsTo_length rows n k
    show (if _ then _ else _ : List (List Nat)).length ≤ k + 1
    split
    · rw [List.length_append]; simp; omega
    · omega

theorem mem_thr {rows : List (List Int)} {n b k : Nat} : k ∈ thr rows n b ↔ k < n ∧ ∃ r, r ∈ rows ∧ r.getD b 0 = (k : Int) := by
  unfold thr
  rw [List.mem_filter, List.mem_range, List.any_eq_true]
  simp only [beq_iff_eq]

theorem thr_sorted (rows : List (List Int)) (n b : Nat) : (thr rows n b).Pairwise (· < ·) := by
  unfold thr
  exact List.Pairwise.filter _ List.pairwise_lt_range

/-- The first of a sorted list is the least. -/
theorem head_least : ∀ (L : List Nat) (b : Nat), L.Pairwise (· < ·) → b ∈ L → (L.head? = some b ↔ ∀ a, a ∈ L → b ≤ a)
  | [], b, _, h => by cases h
  | c :: L, b, hs, h => by
    rw [List.pairwise_cons] at hs
    rw [List.head?_cons]
    constructor
    · intro e a ha
      have := Option.some.inj e
      subst this
      rcases List.mem_cons.1 ha with e | e
      · omega
      · have := hs.1 a e; omega
    · intro hl
      have h1 := hl c List.mem_cons_self
      rcases List.mem_cons.1 h with e | e
      · rw [e]
      · have := hs.1 b e; omega

/-- Rows of a group tell its orbits. -/
theorem rorbs_eq {gs : List Pm} {n : Nat} {rows : List (List Int)} (h12 : n ≤ 12) (hr : ∀ r, r ∈ rows ↔ ∃ x, Gen (fun y => y ∈ gs) x ∧ r = cut n x) : rorbsTo rows n n = orbsTo gs n n := by
  have ht : ∀ b, b < n → thr rows n b = orbS gs n b := fun b hb => by
    refine sorted_ext _ _ (thr_sorted rows n b) (orbS_sorted gs n b) (fun k => ?_)
    rw [mem_thr, mem_orbS]
    constructor
    · rintro ⟨h1, r, hm, e⟩
      obtain ⟨x, hx, rfl⟩ := (hr r).1 hm
      refine ⟨h1, x, hx, ?_⟩
      have e2 := cut_get x h12 hb
      rw [e2] at e
      omega
    · rintro ⟨h1, x, hx, e⟩
      refine ⟨h1, cut n x, (hr _).2 ⟨x, hx, rfl⟩, ?_⟩
      rw [cut_get x h12 hb, e]
  have key : ∀ k, k ≤ n → rorbsTo rows n k = orbsTo gs n k := by
    intro k
    induction k with
    | zero => intro _; rfl
    | succ k ih =>
      intro hk
      have ih' := ih (by omega)
      have hkm : k ∈ orbS gs n k := mem_orbS.2 ⟨by omega, 1, Gen.one, Pm.act_one k⟩
      show (if (thr rows n k).head? = some k then rorbsTo rows n k ++ [thr rows n k] else rorbsTo rows n k) = _
      rw [ht k (by omega), ih']
      by_cases hm : k ∈ (orbsTo gs n k).flatten
      · rw [orbsTo_yes hm, if_neg]
        intro e
        have hl := (head_least _ _ (orbS_sorted gs n k) hkm).1 e
        obtain ⟨O, hO, hkO⟩ := List.mem_flatten.1 hm
        obtain ⟨a, ha, rfl⟩ := orbsTo_form k O hO
        have hra := (mem_orbS.1 hkO).2
        have := hl a (mem_orbS.2 ⟨by omega, reach_back hra⟩)
        omega
      · rw [orbsTo_no hm, if_pos]
        refine (head_least _ _ (orbS_sorted gs n k) hkm).2 (fun a ha => ?_)
        rcases Nat.lt_or_ge a k with hlt | hge
        · exfalso
          have := orbsTo_all (gs := gs) (n := n) k (by omega) a hlt
          obtain ⟨O, hO, haO⟩ := List.mem_flatten.1 this
          obtain ⟨c, hc, rfl⟩ := orbsTo_form k O hO
          exact hm (List.mem_flatten.2 ⟨_, hO, mem_orbS.2 ⟨by omega, reach_trans (mem_orbS.1 haO).2 (reach_back (mem_orbS.1 ha).2)⟩⟩)
        · exact hge
  exact key n (Nat.le_refl _)

end Go.Proofs.YtahffpgadoiijaaGreat

/- Contract: the answer's Orbits: the walk. -/
namespace Go.Proofs.YtahffpgadoiijaaGreat
open Go.RowKit

/-- Marks of the bells that the first i rows have in a place. -/
def MarkedBy (rows : List (List Int)) (n b i : Nat) (zs : List Int) : Prop :=
  zs.length = n ∧ ∀ k, k < n → zs.getD k 0 = if (rows.take i).any (fun r => r.getD b 0 == (k : Int)) then 1 else 0

theorem MarkedBy.start (rows : List (List Int)) (n b : Nat) : MarkedBy rows n b 0 (List.replicate n 0) :=
  ⟨by simp, fun k hk => by simp [List.getD, hk]⟩

theorem MarkedBy.step {rows : List (List Int)} {n b i m : Nat} {zs r : List Int} (h : MarkedBy rows n b i zs) (hr : rows[i]? = some r) (hm : r.getD b 0 = (m : Int)) : MarkedBy rows n b (i + 1) (zs.set m 1) := by
  refine ⟨by rw [List.length_set]; exact h.1, fun k hk => ?_⟩
  rw [List.take_add_one, hr, List.any_append]
  have hks : k < zs.length := by rw [h.1]; exact hk
  by_cases e : m = k
  · subst e
    have h1 : (zs.set m 1).getD m 0 = 1 := by simp [List.getD, hks]
    have h2 : (Option.some r).toList.any (fun r => r.getD b 0 == (m : Int)) = true := by show (r.getD b 0 == (m : Int) || false) = true; rw [hm, Bool.or_false, beq_self_eq_true]
    rw [h1, h2, Bool.or_true]
    rfl
  · have h1 : (zs.set m 1).getD k 0 = zs.getD k 0 := by simp [List.getD, e]
    have h2 : (Option.some r).toList.any (fun r => r.getD b 0 == (k : Int)) = false := by
      show (r.getD b 0 == (k : Int) || false) = false
      rw [hm, Bool.or_false, beq_eq_false_iff_ne]
      omega
    rw [h1, h.2 k hk, h2, Bool.or_false]

/-- The bells below k that are marked. -/
def thrTo (rows : List (List Int)) (b k : Nat) : List Nat := (List.range k).filter (fun k => rows.any (fun r => r.getD b 0 == (k : Int)))

theorem thrTo_yes {rows : List (List Int)} {b k : Nat} (h : rows.any (fun r => r.getD b 0 == (k : Int)) = true) : thrTo rows b (k + 1) = thrTo rows b k ++ [k] := by
  unfold thrTo
  rw [List.range_succ, List.filter_append]
  simp only [List.filter_cons, h, if_true, List.filter_nil]

theorem thrTo_no {rows : List (List Int)} {b k : Nat} (h : rows.any (fun r => r.getD b 0 == (k : Int)) = false) : thrTo rows b (k + 1) = thrTo rows b k := by
  unfold thrTo
  rw [List.range_succ, List.filter_append]
  simp only [List.filter_cons, h, List.filter_nil]
  simp

theorem thrTo_length (rows : List (List Int)) (b k : Nat) : (thrTo rows b k).length ≤ k := by
  unfold thrTo
  have := List.length_filter_le (fun (k : Nat) => rows.any (fun r => r.getD b 0 == (k : Int))) (List.range k)
  rwa [List.length_range] at this

/-- A row among some, in memory. -/
theorem IntsAll.row {w : World} {p : Option Addr} {N c : Nat} {rows : List (List Int)} (h : IntsAll w (.slice p N c) rows) (h0 : 0 < rows.length) : ∃ g off, p = some ⟨g, off, none⟩ ∧ N = rows.length ∧ rows.length ≤ c ∧ c ≤ 9223372036854775807 ∧ g < w.heap.size ∧
    ∀ i r, rows[i]? = some r → 0 < r.length → ∃ b2 o2 c2, w.cell? ⟨g, off + i, none⟩ = some (.slice (some ⟨b2, o2, none⟩) r.length c2) ∧ r.length ≤ c2 ∧ c2 ≤ 9223372036854775807 ∧ b2 < w.heap.size ∧ ∀ j, j < r.length → w.cell? ⟨b2, o2 + j, none⟩ = some (.int .i64 (r.getD j 0)) := by
  obtain ⟨vs, hv, hl, he⟩ := h
  rcases hv with ⟨e, _⟩ | ⟨g, off, cap, h1, h2, h3, h4, h5, h6⟩
  · rw [e] at hl; simp at hl; omega
  · injection h1 with e1 e2 e3
    refine ⟨g, off, e1, by omega, by omega, by omega, h5, fun i r hr hr0 => ?_⟩
    have hi := (List.getElem?_eq_some_iff.1 hr).1
    have hI := he i hi
    have er : rows.getD i [] = r := by rw [List.getD, hr]; rfl
    rw [er] at hI
    have hc := h6 i (by omega)
    rcases hI with ⟨e, _⟩ | ⟨b2, o2, c2, g1, g2, g3, g4, g5, g6⟩
    · rw [e] at hr0; simp at hr0
    · exact ⟨b2, o2, c2, by rw [hc, g1], g3, g4, g5, g6⟩

end Go.Proofs.YtahffpgadoiijaaGreat

/- Plain: how many rows few bells have; what sizes tell (out of GNormP). -/
namespace Go.Proofs.YtahffpgadoiijaaGreat
open Go.RowKit

theorem rkP_lt {n : Nat} (x : Pm) (h12 : n ≤ 12) : rkP n x < fct n := by
  unfold rkP
  have h := rankR_lt (cut n x)
  rw [← rkTo_all, cut_length h12] at h
  exact h

theorem RunOk.few {n : Nat} {xss : List (List Int)} {S : List (Pm × List Int)} (h12 : n ≤ 12) (h : RowsN n xss) (hS : RunOk (letters 0 xss) S) : S.length ≤ fct n := by
  have hn : (S.map (fun e => rkP n e.1)).Nodup := by
    have h1 := hS.nodup
    have hf : ∀ e, e ∈ S → Fixes (fun b => n ≤ b) e.1 := fun e he => hS.fix h12 h he
    clear hS
    induction S with
    | nil => simp
    | cons e S ih =>
      rw [List.map_cons, List.nodup_cons] at h1 ⊢
      refine ⟨fun hm => h1.1 ?_, ih h1.2 (fun e he => hf e (List.mem_cons_of_mem _ he))⟩
      obtain ⟨e', he', h2⟩ := List.mem_map.1 hm
      exact List.mem_map.2 ⟨e', he', rkP_inj h12 (hf e' (List.mem_cons_of_mem _ he')) (hf e List.mem_cons_self) h2⟩
  have := nodup_len (S.map (fun e => rkP n e.1)) (List.range (fct n)) hn (fun b hb => by
    obtain ⟨e, _, rfl⟩ := List.mem_map.1 hb
    exact List.mem_range.2 (rkP_lt e.1 h12))
  rwa [List.length_map, List.length_range] at this

theorem fct_five {n : Nat} (h : n ≤ 5) : fct n ≤ 120 := by
  have key : ∀ k, k < 6 → fct k ≤ 120 := by decide
  exact key n (by omega)

/-- Sizes tell whether all of the second are in the first. -/
theorem sizes_tell {n : Nat} {gss sss : List (List Int)} (h12 : n ≤ 12) (hg : RowsN n gss) (hs : RowsN n sss) :
    sz (Gen (fun y => y ∈ (gss ++ sss).map pad)) n = sz (Gen (fun y => y ∈ gss.map pad)) n ↔ ∀ y, y ∈ sss.map pad → Gen (fun y => y ∈ gss.map pad) y := by
  have hsub : ∀ x, Gen (fun y => y ∈ gss.map pad) x → Gen (fun y => y ∈ (gss ++ sss).map pad) x := fun x => Gen.mono (fun y hy => by rw [List.map_append]; exact List.mem_append_left _ hy)
  constructor
  · intro he y hy
    refine sz_all (Gen.sub _) (Gen.sub _) hsub h12 (fun x hx => hx.least (fixes_sub _) (fun s hs' => ?_)) he.symm y (Gen.of (by rw [List.map_append]; exact List.mem_append_right _ hy))
    obtain ⟨Z, hZ, rfl⟩ := List.mem_map.1 hs'
    rcases List.mem_append.1 hZ with hZ | hZ
    · exact pad_fixes h12 (hg Z hZ).2 (hg Z hZ).1
    · exact pad_fixes h12 (hs Z hZ).2 (hs Z hZ).1
  · intro h
    refine sz_congr (fun x => ⟨fun hx => hx.least (Gen.sub _) (fun s hs' => ?_), hsub x⟩) n
    rw [List.map_append] at hs'
    rcases List.mem_append.1 hs' with h1 | h1
    · exact Gen.of h1
    · exact h s h1

end Go.Proofs.YtahffpgadoiijaaGreat

/- append of what came in, wherever the operation is wanted. -/
namespace Go.Proofs.YtahffpgadoiijaaGreat
open Go.RowKit

/-- An operation that is wanted, guarded or not. -/
theorem wpList_want {P : Program} {ops : Array Oper} {Q : Exit → Act → World → Prop} {a : Act} {w : World} {rest : List Oper} {o : Oper} (hw : Region.wanted o (yielded ops a.tmps) = true)
    (h : ∀ K : Act → World → Prop, (∀ a w, wpList P ops Q rest a w → K a w) → o.wp P a w K Q) : wpList P ops Q (o :: rest) a w :=
  wpList_step fun K hK => by rw [if_pos hw]; exact h K hK

/-- 'append(a, b...)': a owned, b whatever came in; the operation guarded or not. -/
theorem wpList_append_want {P : Program} {w : World} {ops : Array Oper} {rest : List Oper} {o : Oper} {a : Act} {Q : Exit → Act → World → Prop} (hgd : Region.wanted o (yielded ops a.tmps) = true) (s x : Operand) (t : TypeId)
    (ho : o.op = .call { callee := .builtin .append, args := #[s, x], argTypes := #[t, t] })
    (base : Nat) (e : TypeId) (i : TypeInfo) (z : Value) (bytes : Nat) (ht : P.underlying t = some (.slice e)) (hi : P.info? e = some i) (hz : i.zero = some z)
    (hsize : i.size = 1) (hby : i.bytes = bytes) (hzs : z.cells.size = 1)
    (v : Value) (n : Nat) (xs : List Value) (hs : a.eval s = v) (hown : w.ownsRow base e 1 v n xs)
    (u : Value) (news : List Value) (hx : a.eval x = u) (hsrc : Vals w u news) (h1 : ∀ u ∈ news, u.oneCell' = true)
    (h63 : n + news.length ≤ maxLen) (hbytes : (n + news.length) * bytes ≤ 140737488355328) (hbase : base ≤ w.heap.size)
    (h : ∀ v' w', w'.ownsRow base e 1 v' (n + news.length) (xs ++ news) → w.grownBy w' v.ownBlock → wpList P ops Q rest (a.put o.dst v') w') :
    wpList P ops Q (o :: rest) a w := by
  refine wpList_want hgd fun K hK => ?_
  obtain ⟨v', w', hr, h2, h3⟩ := run_append_vals (P := P) w base t o.type e i z bytes ht hi hz hsize hby hzs v n xs hown u news hsrc h1 h63 hbytes hbase
  unfold Oper.wp execOp
  simp only [ho, resolve, invoke, builtin, Sem.run_bind, Sem.run_pure, Result.andThen_ok, List.map_toArray, List.map_cons, List.map_nil, hs, hx, hr]
  exact hK _ _ (h v' w' h2 h3)

/-- One value in a block of its own. -/
theorem vals_one (w : World) (u : Value) (t : TypeId) : Vals (w.alloc (.cells #[u] t)) (.slice (some ⟨w.heap.size, 0, none⟩) 1 1) [u] :=
  Or.inr ⟨w.heap.size, 0, 1, rfl, by simp, by simp, by omega, by simp, fun j hj => by
    have : j = 0 := by simp at hj; omega
    subst this
    have := cell_one_new w u t 0 u rfl
    rw [Addr.add_lit] at this
    exact this⟩

end Go.Proofs.YtahffpgadoiijaaGreat

/- Plain: all rows of a group, in order; letters; what sizes tell. Contract: the answer's Ordered over rows that came in. -/
namespace Go.Proofs.YtahffpgadoiijaaGreat
open Go.RowKit

theorem letters_glet : ∀ (k : Nat) (gss : List (List Int)), glet k (gss.map pad) = letters k gss
  | _, [] => rfl
  | k, x :: t => by
    show ((k : Int) + 1, pad x) :: (-(k : Int) - 1, (pad x)⁻¹) :: glet (k + 1) (t.map pad) = ((k : Int) + 1, pad x) :: (-((k : Int) + 1), (pad x)⁻¹) :: letters (k + 1) t
    rw [letters_glet (k + 1) t, show (-(k : Int) - 1) = -((k : Int) + 1) by omega]

theorem lcmp_app : ∀ (a b c : List Int), a.length = b.length → lcmp (a ++ c) (b ++ c) = lcmp a b
  | [], [], c, _ => by rw [List.nil_append]; exact lcmp_self c
  | x :: a, y :: b, c, h => by
    have := lcmp_app a b c (by simpa using h)
    rw [List.cons_append, List.cons_append, lcmp_cons, lcmp_cons, this]

theorem cut_l {n : Nat} {x : Pm} (h12 : n ≤ 12) (hf : Fixes (fun b => n ≤ b) x) : x.l = cut n x ++ (rnd 12).drop n := by
  have h := pad_l (by rw [cut_length h12]; exact h12) (cut_row h12 hf)
  rw [pad_cut h12 hf, cut_length h12] at h
  exact h

theorem cut_lcmp {n : Nat} {x y : Pm} (h12 : n ≤ 12) (hx : Fixes (fun b => n ≤ b) x) (hy : Fixes (fun b => n ≤ b) y) : lcmp x.l y.l = lcmp (cut n x) (cut n y) := by
  rw [cut_l h12 hx, cut_l h12 hy]
  exact lcmp_app _ _ _ (by rw [cut_length h12, cut_length h12])

theorem cut_inj {n : Nat} {x y : Pm} (h12 : n ≤ 12) (hx : Fixes (fun b => n ≤ b) x) (hy : Fixes (fun b => n ≤ b) y) (h : cut n x = cut n y) : x = y := by
  rw [← pad_cut h12 hx, h, pad_cut h12 hy]

theorem nodup_cut {n : Nat} (h12 : n ≤ 12) : ∀ (X : List Pm), (∀ x, x ∈ X → Fixes (fun b => n ≤ b) x) → X.Nodup → (X.map (cut n)).Nodup
  | [], _, _ => by simp
  | a :: l, hf, h => by
    rw [List.nodup_cons] at h
    rw [List.map_cons, List.nodup_cons]
    exact ⟨fun hm => by
      obtain ⟨b, hb, e⟩ := List.mem_map.1 hm
      exact h.1 (by rw [← cut_inj h12 (hf b (List.mem_cons_of_mem _ hb)) (hf a List.mem_cons_self) e]; exact hb), nodup_cut h12 l (fun x hx => hf x (List.mem_cons_of_mem _ hx)) h.2⟩

/-- Rows in order, each once. -/
theorem cut_rising {n : Nat} {X : List Pm} (h12 : n ≤ 12) (hf : ∀ x, x ∈ X → Fixes (fun b => n ≤ b) x) (hn : X.Nodup) (hs : X.Pairwise (fun a b => 0 ≤ lcmp b.l a.l)) : (X.map (cut n)).Pairwise (fun a b => blw a b = true) := by
  refine Ris.rising ?_ (nodup_cut h12 X hf hn)
  show (X.map (cut n)).Pairwise _
  rw [List.pairwise_map]
  refine List.Pairwise.imp_of_mem (fun {a b} ha hb h => ?_) hs
  rw [blw_lcmp, ← cut_lcmp h12 (hf b hb) (hf a ha)]
  exact decide_eq_false (by omega)

/-- All rows of a group in order are told by whoever lists them. -/
theorem group_ordered {n : Nat} {X : List Pm} {R Y : List (List Int)} {S : List Pm} (h12 : n ≤ 12) (hf : ∀ x, x ∈ X → Fixes (fun b => n ≤ b) x) (hn : X.Nodup) (hs : X.Pairwise (fun a b => 0 ≤ lcmp b.l a.l)) (hS : S.Nodup) (hm : ∀ x, x ∈ X ↔ x ∈ S) (hR : R = S.map (cut n)) (hY : Y.Perm R) (hYs : Ris Y) : X.map (cut n) = Y := by
  have hSf : ∀ x, x ∈ S → Fixes (fun b => n ≤ b) x := fun x hx => hf x ((hm x).2 hx)
  refine rising_eq (cut_rising h12 hf hn hs) (hYs.rising (hY.nodup_iff.2 (by rw [hR]; exact nodup_cut h12 S hSf hS))) (fun r => ?_)
  rw [hY.mem_iff, hR, List.mem_map, List.mem_map]
  exact ⟨fun ⟨x, h1, h2⟩ => ⟨x, (hm x).1 h1, h2⟩, fun ⟨x, h1, h2⟩ => ⟨x, (hm x).2 h1, h2⟩⟩

theorem gchk_back {n : Nat} : ∀ {xss : List (List Int)}, gchk n xss = 0 → RowsN n xss
  | [], _ => fun x hx => by cases hx
  | x :: t, h => by
    have h' : (if rchk n x = 0 then gchk n t else rchk n x) = 0 := h
    by_cases e : rchk n x = 0
    · rw [if_pos e] at h'
      intro y hy
      rcases List.mem_cons.1 hy with rfl | hy
      · exact ⟨(rchk_zero e).1, (rchk_zero e).2.1⟩
      · exact gchk_back h' y hy
    · rw [if_neg e] at h'
      exact absurd h' e

/-- The answer's Ordered over what came in. -/
theorem rordered_all (v : Value) (rows : List (List Int)) (w : World) (h : IntsAll w v rows) (hN : rows.length ≤ 1000000) (hr : ∀ r, r ∈ rows → r.length ≤ 1000000) :
    Calls Tryz.prog 34 #[v] w fun e w' => ∃ u Y, e = .returned u ∧ IntsAll w' u Y ∧ Y.Perm rows ∧ Ris Y ∧ Below w.heap.size w w' := by
  obtain ⟨vs, hv, hl, he⟩ := h
  have hzl : (vs.zip rows).length = rows.length := by rw [List.length_zip]; omega
  have hfst : (vs.zip rows).map Prod.fst = vs := List.map_fst_zip (by omega)
  have hsnd : (vs.zip rows).map Prod.snd = rows := List.map_snd_zip (by omega)
  have hP : ∀ p, p ∈ vs.zip rows → Ints w p.1 p.2 ∧ p.2.length ≤ 1000000 := fun p hp => by
    obtain ⟨j, hj, e⟩ := List.getElem_of_mem hp
    rw [hzl] at hj
    have h1 := he j hj
    have hjv : j < vs.length := by omega
    rw [List.getElem_zip] at e
    rw [← e]
    refine ⟨?_, hr _ (List.getElem_mem _)⟩
    simpa [List.getD, hjv, hj] using h1
  refine (ordered_ok w (vs.zip rows).length (vs.zip rows) v w (Nat.le_refl _) (by omega) (by rw [hfst]; exact hv) (Below.refl _ _) hP).mono ?_
  rintro e w' ⟨u, P', rfl, hV, hp, hs, hb⟩
  refine ⟨u, P'.map Prod.snd, rfl, ⟨P'.map Prod.fst, hV, by rw [List.length_map, List.length_map], fun j hj => ?_⟩, ?_, ?_, hb⟩
  · rw [List.length_map] at hj
    have h1 := (hP P'[j] (hp.mem_iff.1 (List.getElem_mem hj))).1.below hb
    simpa [List.getD, hj] using h1
  · have := hp.map Prod.snd
    rwa [hsnd] at this
  · show (P'.map Prod.snd).Pairwise _
    rw [List.pairwise_map]
    exact hs

/-- What one row more tells. -/
theorem sizes_one {n : Nat} {gss : List (List Int)} {xs : List Int} (h12 : n ≤ 12) (hg : RowsN n gss) (hx : isRow xs) (hl : xs.length = n) : sz (Gen (fun y => y ∈ (gss ++ [xs]).map pad)) n = sz (Gen (fun y => y ∈ gss.map pad)) n ↔ Gen (fun y => y ∈ gss.map pad) (pad xs) := by
  rw [sizes_tell h12 hg (fun y hy => by rw [List.mem_singleton.1 hy]; exact ⟨hx, hl⟩)]
  constructor
  · intro h; exact h (pad xs) (by simp)
  · intro h y hy
    have : y = pad xs := by simpa using hy
    rw [this]; exact h

end Go.Proofs.YtahffpgadoiijaaGreat

/- Plain: the rows of a group by their numbers; where a change leads from each. -/
namespace Go.Proofs.YtahffpgadoiijaaGreat

/-- A row's number. -/
noncomputable def ix (X : List Pm) (p : Pm) : Nat := open Classical in X.findIdx (fun q => decide (q = p))

theorem ix_lt {X : List Pm} {p : Pm} (h : p ∈ X) : ix X p < X.length := by
  classical
  exact List.findIdx_lt_length.2 ⟨p, h, decide_eq_true rfl⟩

theorem ix_get {X : List Pm} {p : Pm} (h : p ∈ X) : X[ix X p]? = some p := by
  classical
  have hl := ix_lt h
  rw [List.getElem?_eq_getElem hl]
  have := List.findIdx_getElem (p := fun q : Pm => decide (q = p)) (w := hl)
  exact congrArg some (of_decide_eq_true this)

theorem get_inj {X : List Pm} (hn : X.Nodup) {i j : Nat} {p : Pm} (hi : X[i]? = some p) (hj : X[j]? = some p) : i = j := by
  have h1 := (List.getElem?_eq_some_iff.1 hi)
  have h2 := (List.getElem?_eq_some_iff.1 hj)
  obtain ⟨l1, e1⟩ := h1
  obtain ⟨l2, e2⟩ := h2
  exact (List.getElem_inj (h₀ := l1) (h₁ := l2) hn).1 (by rw [e1, e2])

theorem ix_of {X : List Pm} (hn : X.Nodup) {i : Nat} {p : Pm} (hi : X[i]? = some p) : ix X p = i := get_inj hn (ix_get (List.mem_of_getElem? hi)) hi

/-- Where a change leads from each row. -/
noncomputable def mv (X : List Pm) (c : Pm) : List Int := X.map (fun p => ((ix X (p * c) : Nat) : Int))

theorem mv_length (X : List Pm) (c : Pm) : (mv X c).length = X.length := by unfold mv; rw [List.length_map]

theorem mv_get {X : List Pm} {c p : Pm} {i : Nat} (h : X[i]? = some p) : (mv X c)[i]? = some ((ix X (p * c) : Nat) : Int) := by unfold mv; rw [List.getElem?_map, h]; rfl

theorem mv_nx {X : List Pm} {c p : Pm} {i : Nat} (h : X[i]? = some p) : nx (mv X c) i = ix X (p * c) := by
  unfold nx
  rw [List.getD, mv_get h]
  rfl

/-- What is closed under a change. -/
def Cls (X : List Pm) (c : Pm) : Prop := ∀ p, p ∈ X → p * c ∈ X

theorem mv_row {X : List Pm} (hn : X.Nodup) {c : Pm} (hc : Cls X c) : isRow (mv X c) := by
  refine ⟨fun y hy => ?_, ?_⟩
  · unfold mv at hy
    obtain ⟨p, hp, rfl⟩ := List.mem_map.1 hy
    rw [mv_length]
    exact ⟨by omega, by have := ix_lt (hc p hp); omega⟩
  · unfold mv
    rw [List.Nodup, List.pairwise_map]
    refine List.Pairwise.imp_of_mem (fun {a b} ha hb h e => h ?_) hn
    have e1 : ix X (a * c) = ix X (b * c) := by omega
    have h1 := ix_get (hc a ha)
    rw [e1, ix_get (hc b hb)] at h1
    have e2 := Option.some.inj h1
    have := congrArg (fun z => z * c⁻¹) e2
    simp only [Pm.mul_assoc, Pm.mul_inv, Pm.mul_one] at this
    exact this.symm

theorem mv_by {X : List Pm} {c d : Pm} (hd : Cls X d) : by_ (mv X c) (mv X d) = mv X (d * c) := by
  refine List.ext_getElem? (fun i => ?_)
  unfold by_
  cases hi : X[i]? with
  | none =>
    have hl := List.getElem?_eq_none_iff.1 hi
    rw [List.getElem?_eq_none (by rw [List.length_map, mv_length]; exact hl), List.getElem?_eq_none (by rw [mv_length]; exact hl)]
  | some p =>
    rw [List.getElem?_map, mv_get hi, mv_get hi, Option.map_some]
    have hp := hd p (List.mem_of_getElem? hi)
    have h2 := mv_get (c := c) (ix_get hp)
    rw [List.getD, Int.toNat_natCast, h2, Pm.mul_assoc]
    rfl

theorem mv_one {X : List Pm} (hn : X.Nodup) : mv X 1 = (List.range X.length).map (fun i => ((i : Nat) : Int)) := by
  refine List.ext_getElem? (fun i => ?_)
  cases hi : X[i]? with
  | none =>
    have hl := List.getElem?_eq_none_iff.1 hi
    rw [List.getElem?_eq_none (by rw [mv_length]; exact hl), List.getElem?_eq_none (by simp; exact hl)]
  | some p =>
    have hl := (List.getElem?_eq_some_iff.1 hi).1
    rw [mv_get hi, Pm.mul_one, ix_of hn hi, List.getElem?_map, List.getElem?_range hl]
    rfl

end Go.Proofs.YtahffpgadoiijaaGreat

/- Contracts: the answer's ColouringAt; colour.turned. -/
namespace Go.Proofs.YtahffpgadoiijaaGreat
open Go.RowKit

set_option maxRecDepth 20000 in
set_option maxHeartbeats 2000000 in
theorem rcolouring_ok (n c k : Nat) (w : World) (hn : n ≤ 12) (hc1 : 1 ≤ c) (hc8 : c ≤ 8) (hk : k ≤ 68719476736) :
    Calls Tryz.prog 42 #[.int .i64 (n : Int), .int .i64 (c : Int), .int .i64 (k : Int)] w fun e w' => ∃ u, e = .returned u ∧ w'.ownsRow w.heap.size 3 1 u n ((colL n c k).map (Value.int .i64)) ∧ Below w.heap.size w w' := by
  obtain ⟨j0, hji, hjz0, hjz1, hjz2⟩ := info_parts Tryz.info3
  go_enter Tryz.func42, Tryz.ntmps42
  go_wp2_with (at_make; refine wpList_make_full _ rfl _ _ 22 rfl w.heap.size 3 j0 (.int .i64 0) 1 Tryz.underlying22 hji hjz0 hjz1 _ _ _ _ n rfl rfl (by omega) (by omega) ?b2 ?b3 (Nat.le_refl _) ?_)
  case b2 => rw [hjz2]; omega
  case b3 => unfold maxLen; omega
  intro w1 hown1 hg1
  rw [made_ints] at hown1
  have HO1 := hide hown1
  have HB1 : Hid (Below w.heap.size w w1) := (Below.refl _ _).grown hg1 (Nat.le_refl _) (fun k h => by cases h)
  clear hown1 hg1
  go_wp2
  go_loopw [2, 8] (fun s2 si wr => ∃ (m q : Nat) (x : Int) (zs : List Int), m ≤ n ∧ si = .int .i64 x ∧ x = (n : Int) - 1 - (m : Int) ∧ s2 = .int .i64 (q : Int) ∧ Hid (q = k / c ^ m) ∧ Hid (wr.ownsRow w.heap.size 3 1 (.slice (some ⟨w.heap.size, 0, none⟩) n n) n (zs.map (Value.int .i64))) ∧ Hid (zs.length = n ∧ ∀ j, j < m → zs.getD (n - 1 - j) 0 = (((k / c ^ j) % c : Nat) : Int)) ∧ Below w.heap.size w wr) (fun _ si _ => (intOf si + 1).toNat)
  case atStart => exact ⟨0, k, _, _, Nat.zero_le _, rfl, by omega, rfl, by unfold Hid; simp, HO1, ⟨by simp, fun j hj => absurd hj (by omega)⟩, HB1.out⟩
  case round =>
    clear HO1 HB1
    obtain ⟨m, q, x, zs, hm, rfl, hx, rfl, hq, hO, hZ, hbm⟩ := hrel
    by_cases hlt : m < n
    · obtain ⟨ps, hps⟩ : ∃ ps, ps = n - 1 - m := ⟨_, rfl⟩
      have hpx : x = (ps : Int) := by omega
      have hpl : ps < n := by omega
      obtain ⟨d, hd⟩ : ∃ d, d = q % c := ⟨_, rfl⟩
      obtain ⟨q2, hq2⟩ : ∃ q2, q2 = q / c := ⟨_, rfl⟩
      have m1 : (q : Int).tmod (c : Int) = (d : Int) := by rw [hd]; rfl
      have m2 : (q : Int).tdiv (c : Int) = (q2 : Int) := by rw [hq2]; rfl
      have hql : q ≤ 68719476736 := by rw [hq.out]; exact Nat.le_trans (Nat.div_le_self _ _) hk
      have hq2l : q2 ≤ 68719476736 := by rw [hq2]; exact Nat.le_trans (Nat.div_le_self _ _) hql
      have hdl : d ≤ 8 := by rw [hd]; have := Nat.mod_lt q (show 0 < c by omega); omega
      have HQ2 : Hid (q2 = k / c ^ (m + 1)) := by show _ = _; rw [hq2, hq.out, Nat.pow_succ, Nat.div_div_eq_div_mul]
      obtain ⟨y, hy, hcy, hfy⟩ := owns_cellAt hO.out hpl
      have HOs := hide (owns_set_int (m := ps) hO.out (d : Int))
      have HZ2 : Hid ((zs.set ps (d : Int)).length = n ∧ ∀ j, j < m + 1 → (zs.set ps (d : Int)).getD (n - 1 - j) 0 = (((k / c ^ j) % c : Nat) : Int)) := by
        refine ⟨by rw [List.length_set]; exact hZ.out.1, fun j hj => ?_⟩
        rw [getD_set (by have := hZ.out.1; omega)]
        by_cases e : j = m
        · subst e; rw [if_pos hps, hd, hq.out]
        · rw [if_neg (by omega)]; exact hZ.out.2 j (by omega)
      have HPX : Hid ((ps : Int) - 1 = (n : Int) - 1 - ((m + 1 : Nat) : Int)) := by unfold Hid; omega
      subst hpx
      clear hx hps hd hq2 hq hO hZ hy
      go_wp2
      go_roundw
      case rel =>
        have hfin : ∃ (m' q : Nat) (x : Int) (zs : List Int), m' ≤ n ∧ Value.int .i64 ((ps : Int) - 1) = .int .i64 x ∧ x = (n : Int) - 1 - (m' : Int) ∧ Value.int .i64 (q2 : Int) = .int .i64 (q : Int) ∧ Hid (q = k / c ^ m') ∧ Hid ((wr.setCell ⟨w.heap.size, ps, none⟩ (.int .i64 (d : Int))).ownsRow w.heap.size 3 1 (.slice (some ⟨w.heap.size, 0, none⟩) n n) n (zs.map (Value.int .i64))) ∧ Hid (zs.length = n ∧ ∀ j, j < m' → zs.getD (n - 1 - j) 0 = (((k / c ^ j) % c : Nat) : Int)) ∧ Below w.heap.size w (wr.setCell ⟨w.heap.size, ps, none⟩ (.int .i64 (d : Int))) := ⟨m + 1, q2, _, _, hlt, rfl, HPX.out, rfl, HQ2, HOs, HZ2, hbm.setCell (Nat.le_refl _) _⟩
        first
          | exact hfin
          | ((repeat apply Exists.intro); exact ⟨hfin, rfl⟩)
      case measure => simp [intOf]
    · obtain rfl : n = m := by omega
      have hze : zs = colL n c k := ext_getD (by rw [hZ.out.1, colL_length]) (fun i hi => by
        have hi' : i < n := by rw [← hZ.out.1]; exact hi
        rw [colL_get hi']
        have h9 := hZ.out.2 (n - 1 - i) (by omega)
        rw [show n - 1 - (n - 1 - i) = i by omega] at h9
        exact h9)
      have HOc : Hid (wr.ownsRow w.heap.size 3 1 (.slice (some ⟨w.heap.size, 0, none⟩) n n) n ((colL n c k).map (Value.int .i64))) := by rw [← hze]; exact hO.out
      have hxn : ¬ 0 ≤ x := by omega
      clear hO hZ hq hze hx
      go_wp2
      go_ret
      exact ⟨_, rfl, HOc.out, hbm⟩

/-- A colouring's number. -/
def numC (c : Nat) : List Nat → Nat → Nat
  | [], a => a
  | x :: l, a => numC c l (a * c + x)

theorem numC_snoc (c : Nat) : ∀ (l : List Nat) (x a : Nat), numC c (l ++ [x]) a = numC c l a * c + x
  | [], _, _ => rfl
  | y :: l, x, a => numC_snoc c l x (a * c + y)

theorem numC_lt {c : Nat} : ∀ (l : List Nat), (∀ x, x ∈ l → x < c) → numC c l 0 < c ^ l.length := by
  have key : ∀ (l : List Nat) (a : Nat), (∀ x, x ∈ l → x < c) → numC c l a < (a + 1) * c ^ l.length := by
    intro l
    induction l with
    | nil => intro a _; simp [numC]
    | cons x l ih =>
      intro a h
      have h1 := ih (a * c + x) (fun y hy => h y (List.mem_cons_of_mem _ hy))
      have h2 := h x List.mem_cons_self
      refine Nat.lt_of_lt_of_le h1 ?_
      rw [List.length_cons, Nat.pow_succ, Nat.mul_comm (c ^ l.length) c, ← Nat.mul_assoc]
      refine Nat.mul_le_mul_right _ ?_
      rw [Nat.succ_mul]
      omega
  intro l h
  have := key l 0 h
  simpa using this

end Go.Proofs.YtahffpgadoiijaaGreat

/- The walk of groupRows where the group has more rows than are told. -/
namespace Go.Proofs.YtahffpgadoiijaaGreat
open Go.RowKit

/-- What a law of a group knows. -/
structure GLaw (w : World) (v vg vr : Value) (n : Nat) (gss : List (List Int)) (xs : List Int) : Prop where
  grp : GroupAt w v n (gss.map pad)
  gens : IntsAll w vg gss
  rows : RowsN n gss
  row : Ints w vr xs
  one : 1 ≤ n
  twelve : n ≤ 12
  eight : gss.length ≤ 8

theorem GLaw.later {w w' : World} {v vg vr : Value} {n : Nat} {gss : List (List Int)} {xs : List Int} (h : GLaw w v vg vr n gss xs) (hb : Below w.heap.size w w') : GLaw w' v vg vr n gss xs :=
  ⟨h.grp.below hb (Nat.le_refl _), h.gens.below hb, h.rows, h.row.below hb, h.one, h.twelve, h.eight⟩

/-- Rows that came in and one more. -/
theorem gens_more {w w' : World} {u v' : Value} {vs : List Value} {gss : List (List Int)} {xs : List Int} (hl : vs.length = gss.length) (he : ∀ j, j < gss.length → Ints w (vs.getD j undef) (gss.getD j [])) (hx : Ints w u xs) (hb : Below w.heap.size w w') (hv : Vals w' v' (vs ++ [u])) : IntsAll w' v' (gss ++ [xs]) := by
  refine ⟨vs ++ [u], hv, by simp [hl], fun j hj => ?_⟩
  refine (ints_join hl he (vs := [u]) (xb := [xs]) (fun j hj => ?_) j hj).below hb
  have : j = 0 := by simp at hj; omega
  subst this
  exact hx

end Go.Proofs.YtahffpgadoiijaaGreat

/- Plain: which rows leave a bell where it is. Rows that came in, one by one. -/
namespace Go.Proofs.YtahffpgadoiijaaGreat
open Go.RowKit

theorem IntsAll.rowI {w : World} {p : Option Addr} {N c : Nat} {rows : List (List Int)} (h : IntsAll w (.slice p N c) rows) (h0 : 0 < rows.length) : ∃ g off, p = some ⟨g, off, none⟩ ∧ N = rows.length ∧ rows.length ≤ c ∧ c ≤ 9223372036854775807 ∧ g < w.heap.size ∧
    ∀ i r, rows[i]? = some r → ∃ u, w.cell? ⟨g, off + i, none⟩ = some u ∧ Ints w u r := by
  obtain ⟨vs, hv, hl, he⟩ := h
  rcases hv with ⟨e, _⟩ | ⟨g, off, cap, h1, h2, h3, h4, h5, h6⟩
  · rw [e] at hl; simp at hl; omega
  · injection h1 with e1 e2 e3
    refine ⟨g, off, e1, by omega, by omega, by omega, h5, fun i r hr => ?_⟩
    have hi := (List.getElem?_eq_some_iff.1 hr).1
    have hI := he i hi
    have er : rows.getD i [] = r := by rw [List.getD, hr]; rfl
    rw [er] at hI
    exact ⟨_, h6 i (by omega), hI⟩

/-- The rows that have a bell in its own place. -/
def stayL (bell : Nat) (L : List (List Int)) : List (List Int) := L.filter (fun r => decide (r.getD bell 0 = (bell : Int)))

theorem stayL_cut {n bell : Nat} (h12 : n ≤ 12) (hb : bell < n) (S : List Pm) : stayL bell (S.map (cut n)) = (S.filter (fun x => decide (x.act bell = bell))).map (cut n) := by
  unfold stayL
  rw [List.filter_map]
  congr 1
  refine List.filter_congr (fun x _ => ?_)
  show decide ((cut n x).getD bell 0 = (bell : Int)) = _
  rw [cut_get x h12 hb]
  by_cases e : x.act bell = bell
  · rw [decide_eq_true e, decide_eq_true (by omega)]
  · rw [decide_eq_false e, decide_eq_false (by omega)]

/-- Those among the first i, in memory. -/
structure StayR (w wr : World) (u : Value) (vs : List Value) (bell i : Nat) (R : List (List Int)) : Prop where
  row : wr.ownsRow w.heap.size 22 1 u vs.length vs
  len : vs.length = (stayL bell (R.take i)).length
  all : ∀ j, j < (stayL bell (R.take i)).length → Ints w (vs.getD j undef) ((stayL bell (R.take i)).getD j [])
  below : Below w.heap.size w wr

theorem StayR.start (w : World) (bell : Nat) (R : List (List Int)) : StayR w w (.slice none 0 0) [] bell 0 R :=
  ⟨World.ownsRow_nil _ _ _ _, by simp [stayL], fun j hj => by simp [stayL] at hj, Below.refl _ _⟩

theorem stayL_yes {bell i : Nat} {R : List (List Int)} {r : List Int} (hr : R[i]? = some r) (h : r.getD bell 0 = (bell : Int)) : stayL bell (R.take (i + 1)) = stayL bell (R.take i) ++ [r] := by
  unfold stayL
  rw [List.take_add_one, hr, List.filter_append]
  show _ ++ List.filter _ [r] = _
  rw [List.filter_cons, if_pos (decide_eq_true h)]
  rfl

theorem stayL_no {bell i : Nat} {R : List (List Int)} {r : List Int} (hr : R[i]? = some r) (h : ¬ r.getD bell 0 = (bell : Int)) : stayL bell (R.take (i + 1)) = stayL bell (R.take i) := by
  unfold stayL
  rw [List.take_add_one, hr, List.filter_append]
  show _ ++ List.filter _ [r] = _
  rw [List.filter_cons, if_neg (by rw [decide_eq_true_iff]; exact h)]
  simp

theorem StayR.same {w wr : World} {u : Value} {vs : List Value} {bell i : Nat} {R : List (List Int)} {r : List Int} (h : StayR w wr u vs bell i R) (hr : R[i]? = some r) (hn : ¬ r.getD bell 0 = (bell : Int)) : StayR w wr u vs bell (i + 1) R := by
  have e := stayL_no hr hn
  refine ⟨h.row, by rw [e]; exact h.len, by rw [e]; exact h.all, h.below⟩

theorem StayR.more {w wr w' : World} {u u' v : Value} {vs : List Value} {bell i : Nat} {R : List (List Int)} {r : List Int} {o : Obj} (h : StayR w wr u vs bell i R) (hr : R[i]? = some r) (hn : r.getD bell 0 = (bell : Int)) (hv : Ints w v r)
    (hown : w'.ownsRow w.heap.size 22 1 u' (vs.length + 1) (vs ++ [v])) (hg : (wr.alloc o).grownBy w' u.ownBlock) : StayR w w' u' (vs ++ [v]) bell (i + 1) R := by
  have e := stayL_yes hr hn
  refine ⟨by rw [List.length_append]; exact hown, by rw [e, List.length_append, List.length_append, h.len]; rfl, ?_, ?_⟩
  · rw [e]
    refine ints_join h.len h.all (fun j hj => ?_)
    have : j = 0 := by simp at hj; omega
    subst this
    exact hv
  · exact (h.below.alloc h.below.size _).grown hg (by have := h.below.size; simp; omega) (fun g hg' => (h.row.lt g hg').1)

theorem StayR.done {w wr : World} {u : Value} {vs : List Value} {bell : Nat} {R : List (List Int)} (h : StayR w wr u vs bell R.length R) : IntsAll wr u (stayL bell R) := by
  have h1 := h.len
  have h2 := h.all
  rw [List.take_length] at h1 h2
  exact ⟨vs, Vals.own h.row, h1, fun j hj => (h2 j hj).below h.below⟩

theorem stayL_length (bell : Nat) (L : List (List Int)) : (stayL bell L).length ≤ L.length := List.length_filter_le _ _

/-- What a search that has gone through all has found. -/
structure Found (n : Nat) (gss : List (List Int)) (S : List (Pm × List Int)) : Prop where
  run : Run (letters 0 gss) S.length S
  nodup : (S.map (·.1)).Nodup
  mem : ∀ x, x ∈ S.map (·.1) ↔ Gen (fun y => y ∈ gss.map pad) x
  fix : ∀ x, x ∈ S.map (·.1) → Fixes (fun b => n ≤ b) x
  pos : 1 ≤ S.length

theorem gens_fix {n : Nat} {gss : List (List Int)} (h12 : n ≤ 12) (hr : RowsN n gss) {x : Pm} (hx : Gen (fun y => y ∈ gss.map pad) x) : Fixes (fun b => n ≤ b) x :=
  hx.least (fixes_sub _) (fun s hs => by obtain ⟨y, hy, rfl⟩ := List.mem_map.1 hs; exact pad_fixes h12 (hr y hy).2 (hr y hy).1)

theorem Found.of {n : Nat} {gss : List (List Int)} {S : List (Pm × List Int)} (h12 : n ≤ 12) (hr : RowsN n gss) (h : Run (letters 0 gss) S.length S) : Found n gss S := by
  have hm : ∀ x, x ∈ S.map (·.1) ↔ Gen (fun y => y ∈ gss.map pad) x := fun x => (h.all (Nat.le_refl _) x).trans (letters_gen 0 gss x)
  exact ⟨h, h.ok.nodup, hm, fun x hx => gens_fix h12 hr ((hm x).1 hx), List.length_pos_of_mem h.ok.first⟩

theorem Found.size {n : Nat} {gss : List (List Int)} {S : List (Pm × List Int)} (h12 : n ≤ 12) (h : Found n gss S) : S.length = sz (Gen (fun y => y ∈ gss.map pad)) n := by
  have := sz_is (Gen.sub _) h12 (fun x hx => h.fix x ((h.mem x).2 hx)) h.nodup h.mem
  rwa [List.length_map] at this

theorem found_few {n : Nat} {gss : List (List Int)} {S : List (Pm × List Int)} (h12 : n ≤ 12) (hr : RowsN n gss) (h : RunOk (letters 0 gss) S) : S.length ≤ sz (Gen (fun y => y ∈ gss.map pad)) n := by
  classical
  obtain ⟨L, l1, l2, l3⟩ := sz_list (Gen.sub (fun y => y ∈ gss.map pad)) h12 (fun x hx => gens_fix h12 hr hx)
  rw [← l3]
  have := nodup_len (S.map (·.1)) L h.nodup (fun x hx => by
    obtain ⟨e, he, rfl⟩ := List.mem_map.1 hx
    exact (l2 _).2 ((letters_gen 0 gss _).1 (h.gen e he)))
  rwa [List.length_map] at this

theorem Found.rows {n : Nat} {gss : List (List Int)} {S : List (Pm × List Int)} (h12 : n ≤ 12) (h : Found n gss S) : ∀ r, r ∈ S.map (fun e => cut n e.1) → r.length = n ∧ ∀ j, j < n → ∃ m : Nat, m < n ∧ r.getD j 0 = (m : Int) := by
  intro r hr
  obtain ⟨e, he, rfl⟩ := List.mem_map.1 hr
  have hf := h.fix e.1 (List.mem_map_of_mem he)
  exact ⟨cut_length h12 _, fun j hj => ⟨e.1.act j, fix_lt hf hj, cut_get e.1 h12 hj⟩⟩

theorem Found.cuts (n : Nat) (S : List (Pm × List Int)) : S.map (fun e => cut n e.1) = (S.map (·.1)).map (cut n) := by rw [List.map_map]; rfl

/-- The answer's orbits are the group's. -/
theorem Found.orbits {n : Nat} {gss : List (List Int)} {S : List (Pm × List Int)} (h12 : n ≤ 12) (h : Found n gss S) : rorbsTo (S.map (fun e => cut n e.1)) n n = orbsTo (gss.map pad) n n := by
  refine rorbs_eq h12 (fun r => ?_)
  rw [Found.cuts, List.mem_map]
  exact ⟨fun ⟨x, h1, h2⟩ => ⟨x, (h.mem x).1 h1, h2.symm⟩, fun ⟨x, h1, h2⟩ => ⟨x, (h.mem x).2 h1, h2.symm⟩⟩

/-- Where a row is found. -/
theorem Found.at {n : Nat} {gss : List (List Int)} {S : List (Pm × List Int)} {xs : List Int} (h12 : n ≤ 12) (h : Found n gss S) (hx : isRow xs) (hl : xs.length = n) (hg : Gen (fun y => y ∈ gss.map pad) (pad xs)) : ∃ (k : Nat) (e : Pm × List Int), S[k]? = some e ∧ e.1 = pad xs ∧ ∀ (i : Nat) (d : Pm × List Int), S[i]? = some d → (cut n d.1 = xs ↔ i = k) := by
  obtain ⟨e, he, e1⟩ := List.mem_map.1 ((h.mem _).2 hg)
  obtain ⟨k, hk, ek⟩ := List.getElem_of_mem he
  refine ⟨k, e, by rw [List.getElem?_eq_getElem hk, ek], e1, fun i d hd => ?_⟩
  constructor
  · intro hc
    have hdm := List.mem_of_getElem? hd
    have h1 : d.1 = pad xs := by rw [← hc, pad_cut h12 (h.fix d.1 (List.mem_map_of_mem hdm))]
    have hi := (List.getElem?_eq_some_iff.1 hd).1
    have hd2 := (List.getElem?_eq_some_iff.1 hd).2
    have hn := h.nodup
    have h2 : (S.map (·.1))[i]'(by rw [List.length_map]; exact hi) = (S.map (·.1))[k]'(by rw [List.length_map]; exact hk) := by
      rw [List.getElem_map, List.getElem_map, hd2, ek, h1, e1]
    exact (List.getElem_inj hn).1 h2
  · intro e3
    subst e3
    rw [List.getElem?_eq_getElem hk, ek] at hd
    rw [← Option.some.inj hd, e1, cut_pad h12 hl hx]

theorem Found.not {n : Nat} {gss : List (List Int)} {S : List (Pm × List Int)} {xs : List Int} (h12 : n ≤ 12) (h : Found n gss S) (hg : ¬ Gen (fun y => y ∈ gss.map pad) (pad xs)) : ∀ (i : Nat) (d : Pm × List Int), S[i]? = some d → ¬ cut n d.1 = xs := fun i d hd hc => by
  have hm := List.mem_map_of_mem (f := fun e : Pm × List Int => e.1) (List.mem_of_getElem? hd)
  refine hg ?_
  rw [← hc, pad_cut h12 (h.fix _ hm)]
  exact (h.mem _).1 hm

end Go.Proofs.YtahffpgadoiijaaGreat
