/- Joined: KMp, RefA, RefB, RefC, RefD, AppM, LLp, XtA, XtB. -/
import Derived.Test.YtfnmkbcdchnnnaaJ2
import Derived.DeepKeys5
import Derived.Test.YtfnmkbcdchnnnaaJ1
import Derived.Deep.RegionLaw
import Derived.Deep.RegionWith
import Derived.Test.YtfnmkbcdchnnnaaJ0
import Derived.Laws.OwnMore
/- Maps keyed by arrays of twelve integers, whatever their elements: what they hold, as a function of the list. -/
namespace Go.Proofs.Ytfnmkbcdchnnnaa
open Go.RowKit Go.Maps

/-- An array of integers, as a value. -/
def kv (q : IntKind) (zs : List Int) : Value := .agg (zs.map (Value.int q)).toArray

theorem mapM_some {α β : Type} (f : α → Option β) : ∀ l : List α, (∀ x, x ∈ l → ∃ y, f x = some y) → ∃ ys, l.mapM f = some ys
  | [], _ => ⟨[], rfl⟩
  | x :: l, h => by
    obtain ⟨y, hy⟩ := h x (by simp)
    obtain ⟨ys, hys⟩ := mapM_some f l (fun z hz => h z (by simp [hz]))
    exact ⟨y :: ys, by rw [List.mapM_cons, hy, hys]; rfl⟩

theorem pos_succ (n : Nat) (h : 0 < n) : ∃ d, n = d + 1 := ⟨n - 1, by omega⟩

/-- What a type of arrays of twelve integers must be. -/
structure KeyT (K E : TypeId) (q : IntKind) : Prop where
  arr : Try.prog.underlying K = some (.array 12 E)
  int : Try.prog.underlying E = some (.int q)
  cK : Try.prog.cellsOf K = 12
  cE : Try.prog.cellsOf E = 1
  ok : Try.prog.keyType K = true
  low : K < Try.prog.types.size
  keyed : Keyed Try.prog K

def OkK (q : IntKind) (zs : List Int) : Prop := zs.length = 12 ∧ ∀ z, z ∈ zs → (Lit.int q z).wf = true

theorem KeyT.mk' {K E : TypeId} {q : IntKind} (h : KeyT K E q) {zs : List Int} (hz : OkK q zs) : ∃ l, keyOf Try.prog K (kv q zs) = some l := by
  obtain ⟨hl, hw⟩ := hz
  unfold keyOf
  rw [h.arr]
  simp only
  have hf : (kv q zs).formed Try.prog K = true := by
    unfold kv Value.formed
    rw [h.arr]
    simp [h.cK, hl]
  rw [h.ok, hf]
  simp only [Bool.and_self, if_true]
  have hkl : ∃ ls, Try.prog.keyLits (Try.prog.types.size + 1) K (kv q zs).cells.toList = some ls := by
    have hcs : (kv q zs).cells.toList = zs.map (Value.int q) := by simp [kv, Value.cells]
    rw [hcs]
    unfold Program.keyLits
    rw [h.arr]
    simp only
    rw [if_pos (by simp [h.cK, hl])]
    obtain ⟨ys, hys⟩ := mapM_some (fun i => Try.prog.keyLits Try.prog.types.size E (((zs.map (Value.int q)).drop (i * Try.prog.cellsOf E)).take (Try.prog.cellsOf E))) (List.range 12) (fun i hi => by
      have hi' : i < zs.length := by rw [hl]; simpa using hi
      refine ⟨[.int q zs[i]], ?_⟩
      rw [h.cE, Nat.mul_one]
      have e : ((zs.map (Value.int q)).drop i).take 1 = [.int q zs[i]] := by
        rw [List.drop_eq_getElem_cons (by simpa using hi')]
        simp
      rw [e]
      obtain ⟨d, hd⟩ : ∃ d, Try.prog.types.size = d + 1 := pos_succ _ (Nat.lt_of_le_of_lt (Nat.zero_le _) h.low)
      rw [hd]
      unfold Program.keyLits
      rw [h.int]
      simp [hw zs[i] (List.getElem_mem hi')])
    exact ⟨ys.flatten, by rw [hys]; rfl⟩
  obtain ⟨ls, hls⟩ := hkl
  exact ⟨_, by rw [hls]; rfl⟩

theorem kv_inj {q : IntKind} {xs ys : List Int} (h : kv q xs = kv q ys) : xs = ys := by
  unfold kv at h
  have h1 : (xs.map (Value.int q)).toArray = (ys.map (Value.int q)).toArray := by injection h
  have h2 : xs.map (Value.int q) = ys.map (Value.int q) := by simpa using congrArg Array.toList h1
  exact (List.map_inj_right (fun a b e => by injection e)).1 h2

/-- Block b is a map of at most n entries, which holds what f says. -/
def KMap (K : TypeId) (q : IntKind) (w : World) (b n : Nat) (f : List Int → Option Value) : Prop :=
  ∃ D : DataW Value, w.ownsMap Try.prog K heldElem b n D ∧ ∀ zs, OkK q zs → ∀ l, keyOf Try.prog K (kv q zs) = some l → Maps.has D l = (f zs).isSome ∧ ∀ v, f zs = some v → ∀ z, D.atKey l z = .held v

section
variable {K E : TypeId} {q : IntKind} {w w' : World} {b n : Nat} {f : List Int → Option Value}

theorem KMap.lt (h : KMap K q w b n f) : b < w.heap.size := by obtain ⟨D, h1, _⟩ := h; exact h1.lt

theorem KMap.of_block (h : KMap K q w b n f) (hb : w'.heap[b]? = w.heap[b]?) : KMap K q w' b n f := by
  obtain ⟨D, ⟨es, c, h1, h2⟩, h3⟩ := h; exact ⟨D, ⟨es, c, hb.trans h1, h2⟩, h3⟩

theorem KMap.alloc (h : KMap K q w b n f) (o : Obj) : KMap K q (w.alloc o) b n f := h.of_block (Below.heap_alloc w o b h.lt)

theorem KMap.below {B : Nat} (h : KMap K q w b n f) (hb : Below B w w') (hB : b < B) : KMap K q w' b n f := h.of_block (hb.block b hB)

theorem KMap.made (K : TypeId) (q : IntKind) (w : World) : KMap K q (w.alloc (.map #[] 0)) w.heap.size 0 (fun _ => none) :=
  ⟨.map [], World.ownsMap_made _ _ _ _, fun zs _ l _ => ⟨rfl, fun v h => by cases h⟩⟩

/-- 'v, ok := m[a]'. -/
theorem KMap.look_ok (hK : KeyT K E q) (h : KMap K q w b n f) {t e : TypeId} (ht : Try.prog.underlying t = some (.map K e)) {z : Value} (hz : (zeroValue e).run Try.prog w = .ok z w) {zs : List Int} (hzs : OkK q zs) :
    (Instr.lookup t (.map (some b)) (kv q zs) true).run Try.prog w = .ok (.tuple #[(f zs).getD z, .bool (f zs).isSome]) w := by
  obtain ⟨D, hD, hf⟩ := h
  obtain ⟨l, hl⟩ := hK.mk' hzs
  obtain ⟨v, ps, hrun, hv⟩ := hD.look_ok hK.keyed ht hz (zd := .held z) (zp := []) rfl hl
  have hv' : DataW.held v = D.atKey l (.held z) := (Prod.mk.inj (Option.some.inj hv)).1
  have hfz := hf zs hzs l hl
  rw [hrun, hfz.1]
  cases hfa : f zs with
  | none =>
    have hh := hfz.1
    rw [hfa] at hh
    rw [atKey_of_not_has hh] at hv'
    rw [DataW.held.inj hv']; rfl
  | some u =>
    rw [hfz.2 u hfa] at hv'
    rw [DataW.held.inj hv']; rfl

def kupd (f : List Int → Option Value) (a : List Int) (v : Value) : List Int → Option Value := fun x => if x = a then some v else f x

/-- 'm[a] = v'. -/
theorem KMap.put (hK : KeyT K E q) (h : KMap K q w b n f) {t e : TypeId} (ht : Try.prog.underlying t = some (.map K e)) (hn : n < maxLen) {a : List Int} (ha : OkK q a) (v : Value) :
    ∃ w', (Instr.mapUpdate t (.map (some b)) (kv q a) v).run Try.prog w = .ok () w' ∧ KMap K q w' b (n + 1) (kupd f a v) ∧ w.grownBy w' (some b) := by
  obtain ⟨D, hD, hf⟩ := h
  obtain ⟨la, hla⟩ := hK.mk' ha
  obtain ⟨w', hrun, hD', hg⟩ := hD.update (val := v) (d := .held v) (ps := []) hK.keyed ht hn hla rfl
  have hkey : WideAt.IsKeyLit la := hK.keyed.key hla
  refine ⟨w', hrun, ⟨_, hD', fun x hx l hl => ?_⟩, hg⟩
  unfold kupd
  by_cases e : x = a
  · subst e
    rw [if_pos rfl]
    have : l = la := by rw [hl] at hla; exact Option.some.inj hla
    subst this
    exact ⟨has_put_same hD.isMap hkey _, fun u hu z => by rw [← Option.some.inj hu]; exact atKey_put_same hD.isMap hkey _ _⟩
  · have hne : l ≠ la := fun h => e (kv_inj (hK.keyed.inj hl (by rw [h]; exact hla)))
    rw [if_neg e]
    exact ⟨by rw [has_put_other hne]; exact (hf x hx l hl).1, fun u hu z => by rw [atKey_put_other hne]; exact (hf x hx l hl).2 u hu z⟩
end

end Go.Proofs.Ytfnmkbcdchnnnaa

/- Contracts of the answer's functions: RowMay, Undo, By. -/
namespace Go.Proofs.Ytfnmkbcdchnnnaa
open Go.RowKit

/-- How often b is in the list. -/
def occ (b : Int) (xs : List Int) : Nat := (xs.filter (fun y => y == b)).length

theorem occ_le (b : Int) (xs : List Int) : occ b xs ≤ xs.length := List.length_filter_le _ _

theorem occ_snoc (b y : Int) (xs : List Int) : occ b (xs ++ [y]) = occ b xs + if y = b then 1 else 0 := by
  unfold occ
  rw [List.filter_append, List.length_append]
  by_cases h : y = b <;> simp [h]

theorem perm_of_sub {α : Type} [DecidableEq α] : ∀ (l m : List α), l.Nodup → (∀ x ∈ l, x ∈ m) → l.length = m.length → l.Perm m := by
  intro l
  induction l with
  | nil => intro m _ _ hl; rw [List.length_eq_zero_iff.1 hl.symm]
  | cons a l ih =>
    intro m hn hs hl
    have ha : a ∈ m := hs a List.mem_cons_self
    have hn' := List.nodup_cons.1 hn
    have h1 := ih (m.erase a) hn'.2 (fun x hx => (List.mem_erase_of_ne (fun e => hn'.1 (by rw [← e]; exact hx))).2 (hs x (List.mem_cons_of_mem _ hx))) (by rw [List.length_erase_of_mem ha]; simp at hl; omega)
    exact (h1.cons a).trans (List.perm_cons_erase ha).symm

theorem occ_mem {b : Int} {xs : List Int} (h : occ b xs = 1) : b ∈ xs := by
  unfold occ at h
  have h1 : 0 < (xs.filter (fun y => y == b)).length := by omega
  obtain ⟨y, hy⟩ := List.exists_mem_of_length_pos h1
  have h2 := List.mem_filter.1 hy
  have e : y = b := by simpa using h2.2
  rw [← e]; exact h2.1

theorem row_of_occ {xs : List Int} (h : ∀ b, b < xs.length → occ (b : Int) xs = 1) : isRow xs := by
  have hp := perm_of_sub (rnd xs.length) xs (isRow_rnd _).2 (fun x hx => by
    obtain ⟨i, hi, rfl⟩ := List.mem_map.1 hx
    exact occ_mem (h i (List.mem_range.1 hi))) (rnd_length _)
  exact isRow_perm hp.symm (isRow_rnd _)

theorem occ_of_row {xs : List Int} (h : isRow xs) {b : Nat} (hb : b < xs.length) : occ (b : Int) xs = 1 := by
  obtain ⟨j, hj, e⟩ := isRow_onto h hb
  have hm : (b : Int) ∈ xs := by
    rw [← e, show xs.getD j 0 = xs[j] from by simp [List.getD, List.getElem?_eq_getElem hj]]
    exact List.getElem_mem hj
  have key : ∀ (l : List Int), l.Nodup → (b : Int) ∈ l → occ (b : Int) l = 1 := by
    intro l
    induction l with
    | nil => intro _ hm; cases hm
    | cons x l ih =>
      intro hn hm
      have hn' := List.nodup_cons.1 hn
      unfold occ
      by_cases e : x = (b : Int)
      · subst e
        rw [List.filter_cons_of_pos (by simp), List.filter_eq_nil_iff.2 (fun y hy => by
          intro h2
          have e2 : y = (b : Int) := by simpa using h2
          exact hn'.1 (e2 ▸ hy))]
        rfl
      · rw [List.filter_cons_of_neg (by simpa using e)]
        rcases List.mem_cons.1 hm with h2 | h2
        · exact absurd h2.symm e
        · exact ih hn'.2 h2
  exact key xs h.2 hm

set_option maxRecDepth 20000 in
set_option maxHeartbeats 1000000 in
theorem rowMay_any (v : Value) (xs : List Int) (w : World) (h : Ints w v xs) :
    Calls Try.prog 32 #[v] w fun e w' => e = .returned (.int .i64 (chk xs)) ∧ w = w' := by
  by_cases hc12 : 1 ≤ xs.length ∧ xs.length ≤ 12
  · obtain ⟨hn1, hn2⟩ := hc12
    rcases h with ⟨rfl, p, c, rfl⟩ | ⟨b, off, cap, rfl, h0, hc, hm, hb, hcell⟩
    · simp at hn1
    · go_enter Try.func32, Try.ntmps32
      go_wp2
      go_loop [3] (fun sb => ∃ k : Nat, k ≤ xs.length ∧ sb = .int .i64 k ∧ Hid (∀ j, j < k → occ (j : Int) xs = 1)) (fun sb => xs.length - (intOf sb).toNat)
      case atStart => exact ⟨0, by omega, rfl, fun j hj => by omega⟩
      case round =>
        obtain ⟨k, hk, rfl, hg⟩ := hrel
        by_cases hlt : k < xs.length
        · go_wp2
          go_loop [4, 5] (fun sn si => ∃ i : Nat, i ≤ xs.length ∧ si = .int .i64 i ∧ sn = .int .i64 (occ (k : Int) (xs.take i))) (fun _ si => xs.length - (intOf si).toNat)
          case atStart => exact ⟨0, by omega, rfl, rfl⟩
          case round =>
            obtain ⟨i, hi, rfl, rfl⟩ := hrel
            have hol := occ_le (k : Int) (xs.take i)
            have hol2 : (xs.take i).length ≤ i := List.length_take_le _ _
            by_cases hit : i < xs.length
            · obtain ⟨y, hy, hcy⟩ := cellAt hcell hit
              have HS : Hid (occ (k : Int) (xs.take (i + 1)) = occ (k : Int) (xs.take i) + if y = (k : Int) then 1 else 0) := by show _ = _; rw [take_snoc xs i hit, hy.out]; exact occ_snoc _ _ _
              clear hcell
              by_cases hyk : y = (k : Int)
              · have ht : (y == (k : Int)) = true := by simpa using hyk
                have HYK := hide hyk
                clear hyk
                go_wp2
                go_round
                case rel => exact ⟨i + 1, by omega, by go_num, by rw [HS.out, if_pos HYK.out]; go_num⟩
                case measure => simp [intOf]; omega
              · have ht : (y == (k : Int)) = false := by simpa using hyk
                have HYK := hide hyk
                clear hyk
                go_wp2
                go_round
                case rel => exact ⟨i + 1, by omega, by go_num, by rw [HS.out, if_neg HYK.out]; go_num⟩
                case measure => simp [intOf]; omega
            · have e : xs.take i = xs := List.take_of_length_le (by omega)
              rw [e] at hol ⊢
              clear hcell e
              by_cases ho : occ (k : Int) xs = 1
              · have ht : ((occ (k : Int) xs : Int) != 1) = false := by rw [bne_eq_false_iff_eq]; omega
                have HG : Hid (∀ j, j < k + 1 → occ (j : Int) xs = 1) := by
                  intro j hj
                  by_cases e : j = k
                  · subst e; exact ho
                  · exact hg.out j (by omega)
                clear ho
                go_wp2
                go_round
                case rel => exact ⟨k + 1, by omega, by go_num, HG⟩
                case measure => simp [intOf]; omega
              · have ht : ((occ (k : Int) xs : Int) != 1) = true := by rw [bne_iff_ne]; omega
                have HB := hide (chk_row hn1 hn2 (fun hr => ho (occ_of_row hr hlt)))
                clear ho
                go_wp2
                go_ret
                exact ⟨ret_int HB.out.symm, rfl⟩
        · have HB := hide (chk_ok hn1 hn2 (row_of_occ (fun j hj => hg.out j (by omega))))
          clear hcell
          go_wp2
          go_ret
          exact ⟨ret_int HB.out.symm, rfl⟩
  · obtain ⟨p, c, rfl⟩ := h.form
    have HC := hide (chk_count hc12)
    by_cases h1 : ((xs.length : Nat) : Int) < 1
    · clear hc12 h
      go_enter Try.func32, Try.ntmps32
      go_wp2
      go_ret
      exact ⟨ret_int HC.out.symm, rfl⟩
    · have h2 : 12 < ((xs.length : Nat) : Int) := by omega
      have h3 : decide (12 < ((xs.length : Nat) : Int)) = true := by simp; omega
      clear hc12 h
      go_enter Try.func32, Try.ntmps32
      go_wp2
      go_ret
      exact ⟨ret_int HC.out.symm, rfl⟩

theorem by_take_snoc (a b : List Int) (k m : Nat) (hk : k < b.length) (hm : b[k]?.getD 0 = (m : Int)) : by_ a (b.take (k + 1)) = by_ a (b.take k) ++ [a[m]?.getD 0] := by
  rw [take_snoc b k hk, hm]
  simp [by_, List.getD]

end Go.Proofs.Ytfnmkbcdchnnnaa

/- Contracts of the answer's functions: BellOf, SignOf, Text, ReadRow. -/
namespace Go.Proofs.Ytfnmkbcdchnnnaa
open Go.RowKit
set_option maxRecDepth 20000

theorem bl_none {b : UInt8} (h : ¬ bl b < 12) {m : Nat} (hm : m < 12) : sg m ≠ b.toNat := fun e => h (by rw [bl_of hm e]; exact hm)

set_option maxRecDepth 20000 in
set_option maxHeartbeats 1000000 in
theorem bellOf_yes (c : UInt8) (h : bl c < 12) (w : World) :
    Calls Try.prog 49 #[.int .u8 (c.toNat : Int)] w fun e w' => e = .returned (.int .i64 ((bl c : Nat) : Int)) ∧ w = w' := by
  have hs := bl_sg h
  generalize hm : bl c = m at *
  rw [← hs]
  have HS : Hid (∀ k, k < m → sg k ≠ sg m) := fun k hk e => by have := sg_inj (by omega) h e; omega
  clear hs hm
  go_enter Try.func49, Try.ntmps49
  go_wp2
  go_loop [4] (fun i => ∃ k : Nat, k ≤ m ∧ i = .int .i64 k) (fun i => 12 - (intOf i).toNat)
  case atStart => exact ⟨0, by omega, rfl⟩
  case round =>
    obtain ⟨k, hk, rfl⟩ := hrel
    have hix := index_sign k (by omega)
    by_cases e : k = m
    · subst e
      have ht : (((sg k : Nat) : Int) == ((sg k : Nat) : Int)) = true := by simp
      go_wp2
      go_ret
      exact ⟨rfl, rfl⟩
    · have hne := HS.out k (by omega)
      have ht : (((sg k : Nat) : Int) == ((sg m : Nat) : Int)) = false := by rw [beq_eq_false_iff_ne]; omega
      have hlt : k < m := by omega
      clear e hne
      go_wp2
      go_round
      case rel => exact ⟨k + 1, by omega, by go_num⟩
      case measure => simp [intOf]; omega

set_option maxRecDepth 20000 in
set_option maxHeartbeats 1000000 in
theorem bellOf_no (c : UInt8) (h : ¬ bl c < 12) (w : World) :
    Calls Try.prog 49 #[.int .u8 (c.toNat : Int)] w fun e w' => e = .returned (.int .i64 (-1)) ∧ w = w' := by
  have HN := hide (fun m (hm : m < 12) => bl_none h hm)
  clear h
  generalize c.toNat = d at *
  go_enter Try.func49, Try.ntmps49
  go_wp2
  go_loop [4] (fun i => ∃ k : Nat, k ≤ 12 ∧ i = .int .i64 k) (fun i => 12 - (intOf i).toNat)
  case atStart => exact ⟨0, by omega, rfl⟩
  case round =>
    obtain ⟨k, hk, rfl⟩ := hrel
    by_cases hlt : k < 12
    · have hix := index_sign k hlt
      have ht : (((sg k : Nat) : Int) == (d : Int)) = false := by rw [beq_eq_false_iff_ne]; have := HN.out k hlt; omega
      go_wp2
      go_round
      case rel => exact ⟨k + 1, by omega, by go_num⟩
      case measure => simp [intOf]; omega
    · go_wp2
      go_ret
      exact ⟨rfl, rfl⟩

theorem slice_sign (m : Nat) (hm : m < 12) (w : World) : (Instr.slice 9 (.string { data := #[49, 50, 51, 52, 53, 54, 55, 56, 57, 48, 69, 84] }) (some (.int .i64 (m : Int))) (some (.int .i64 ((m : Int) + 1))) none).run Try.prog w = .ok (.string (strOfNums [((sg m : Nat) : Int)])) w := by
  match m, hm with
  | 0, _ | 1, _ | 2, _ | 3, _ | 4, _ | 5, _ | 6, _ | 7, _ | 8, _ | 9, _ | 10, _ | 11, _ => rfl

set_option maxRecDepth 20000 in
set_option maxHeartbeats 1000000 in
theorem signOf_ok (m : Nat) (hm : m < 12) (w : World) :
    Calls Try.prog 28 #[.int .i64 (m : Int)] w fun e w' => e = .returned (.string (strOfNums [((sg m : Nat) : Int)])) ∧ w = w' := by
  have hsl := slice_sign m hm
  go_enter Try.func28, Try.ntmps28
  go_wp2
  go_ret
  exact ⟨rfl, rfl⟩

theorem str_append (xs ys : List Int) : strOfNums xs ++ strOfNums ys = strOfNums (xs ++ ys) := by
  apply ByteArray.ext
  rw [ByteArray.data_append]
  simp [strOfNums]

/-- A byte of a text, as the index gives it. -/
theorem index_byte (s : ByteArray) (k : Nat) (hk : k < s.size) (w : World) : (Instr.index 9 (.string s) (.int .i64 (k : Int))).run Try.prog w = .ok (.int .u8 (((s[k]'hk).toNat : Nat) : Int)) w := by
  rw [run_index_string w 9 _ .i64 (k : Int) Try.underlying9, dif_pos ⟨by omega, by omega⟩]
  rfl

end Go.Proofs.Ytfnmkbcdchnnnaa

/- Contracts of the answer's functions: Rank, At. -/
namespace Go.Proofs.Ytfnmkbcdchnnnaa
open Go.RowKit
set_option maxRecDepth 20000

theorem cnt_append (x : Int) (l m : List Int) : cnt x (l ++ m) = cnt x l + cnt x m := by
  unfold cnt; rw [List.filter_append, List.length_append]

theorem cnt_rnd {n m : Nat} (h : m ≤ n) : cnt (m : Int) (rnd n) = m := by
  induction n with
  | zero => have : m = 0 := by omega
            subst this; rfl
  | succ n ih =>
    rw [rnd_snoc, cnt_append]
    by_cases e : m ≤ n
    · rw [ih e, show cnt (m : Int) [(n : Int)] = 0 from by unfold cnt; rw [List.filter_eq_nil_iff.2 (fun y hy => by have := List.mem_singleton.1 hy; subst this; simp; omega)]; rfl]; rfl
    · have e2 : m = n + 1 := by omega
      subst e2
      have h1 : cnt ((n + 1 : Nat) : Int) (rnd n) = n := by
        unfold cnt
        rw [List.filter_eq_self.2 (fun y hy => by
          obtain ⟨i, hi, rfl⟩ := List.mem_map.1 hy
          have := List.mem_range.1 hi
          simp; omega), rnd_length]
      have h2 : cnt ((n + 1 : Nat) : Int) [(n : Int)] = 1 := by
        unfold cnt
        rw [List.filter_eq_self.2 (fun y hy => by have := List.mem_singleton.1 hy; subst this; simp; omega)]; rfl
      rw [h1, h2]

theorem row_perm_rnd {a : List Int} (h : isRow a) : a.Perm (rnd a.length) :=
  perm_of_sub a (rnd a.length) h.2 (fun x hx => by have := h.1 x hx; exact List.mem_map.2 ⟨x.toNat, List.mem_range.2 (by omega), by omega⟩) (rnd_length _).symm

/-- Of a row: the lower ones ahead of a place, and behind it. -/
theorem cnt_split {a : List Int} (h : isRow a) {i m : Nat} (hi : i < a.length) (hm : a[i]?.getD 0 = (m : Int)) : cnt (m : Int) (a.take i) + cnt (m : Int) (a.drop (i + 1)) = m := by
  have hml : m < a.length := by
    have := h.at hi
    rw [show a.getD i 0 = (m : Int) from hm] at this
    omega
  have h1 : cnt (m : Int) a = m := by rw [cnt_perm (row_perm_rnd h), cnt_rnd (by omega)]
  have e : a = a.take i ++ ((m : Int) :: a.drop (i + 1)) := by
    have e2 : a[i] = (m : Int) := by rw [← hm]; simp [List.getElem?_eq_getElem hi]
    rw [← e2, ← List.drop_eq_getElem_cons hi, List.take_append_drop]
  rw [e, cnt_append] at h1
  have h2 : cnt (m : Int) ((m : Int) :: a.drop (i + 1)) = cnt (m : Int) (a.drop (i + 1)) := by
    unfold cnt; rw [List.filter_cons_of_neg (by simp)]
  rw [h2] at h1
  exact h1

theorem rankR_drop {a : List Int} {i m : Nat} (hi : i < a.length) (hm : a[i]?.getD 0 = (m : Int)) : rankR (a.drop i) = cnt (m : Int) (a.drop (i + 1)) * fct (a.length - 1 - i) + rankR (a.drop (i + 1)) := by
  have e2 : a[i] = (m : Int) := by rw [← hm]; simp [List.getElem?_eq_getElem hi]
  rw [List.drop_eq_getElem_cons hi, e2]
  show cnt (m : Int) (a.drop (i + 1)) * fct (a.drop (i + 1)).length + rankR (a.drop (i + 1)) = _
  rw [List.length_drop, show a.length - (i + 1) = a.length - 1 - i from by omega]

theorem rankR_le (a : List Int) (h : a.length ≤ 12) : rankR a ≤ 479001600 := by
  rw [← rkTo_all]; exact rkTo_le a a.length (Nat.le_refl _) h

/-- 'append' to a row of the call's own, as one step of a region that draws. -/
theorem step_append_own {P : Program} {ops : Array Oper} {o : Oper} {a : Act} {w : World} {K : Act → World → Prop} {Q : Exit → Act → World → Prop} {E : Prop} (hg : o.guard = none) (s x : Operand) (t : TypeId)
    (ho : o.op = .call { callee := .builtin .append, args := #[s, x], argTypes := #[t, t] })
    (base : Nat) (e : TypeId) (i : TypeInfo) (z : Value) (size bytes : Nat) (ht : P.underlying t = some (.slice e)) (hi : P.info? e = some i) (hz : i.zero = some z)
    (hsize : i.size = size) (hby : i.bytes = bytes) (hzs : z.cells.size = size) (hsz : 0 < size)
    (v : Value) (n : Nat) (xs : List Value) (hs : a.eval s = v) (hown : w.ownsRow base e size v n xs)
    (ad : Addr) (m c : Nat) (news : List Value) (hx : a.eval x = .slice (some ad) m c) (hl : news.length = m * size) (hnews : ∀ j u, news[j]? = some u → w.cell? (ad.add j) = some u) (h1 : ∀ u ∈ news, u.oneCell' = true)
    (h63 : n + m ≤ maxLen) (hbytes : (n + m) * bytes ≤ 140737488355328) (hbase : base ≤ w.heap.size)
    (h : ∀ v' w', w'.ownsRow base e size v' (n + m) (xs ++ news) → w.grownBy w' v.ownBlock → K (a.put o.dst v') w') :
    if Region.wanted o (yielded ops a.tmps) = true then Oper.wp P o a w K Q else E := by
  have hw : Region.wanted o (yielded ops a.tmps) = true := by simp [Region.wanted, hg]
  rw [if_pos hw]
  exact wp_append_own w s x t ho base e i z size bytes ht hi hz hsize hby hzs hsz v n xs hs hown ad m c news hx hl hnews h1 h63 hbytes hbase (fun v' w' h2 h3 _ => h v' w' h2 h3)

theorem own_at {w : World} {base e g n cap : Nat} {xs : List Value} (h : w.ownsRow base e 1 (.slice (some ⟨g, 0, none⟩) n cap) n xs) (w4 : World) (hw : w4.heap[g]? = w.heap[g]?) {j : Nat} {u : Value} (hu : xs[j]? = some u) : w4.cell? ⟨g, j, none⟩ = some u := by
  have h1 := h.cells (g := g) rfl j u hu
  rw [Addr.add_lit, Nat.zero_add] at h1
  rw [World.cell?_of_block (w := w) (a := ⟨g, j, none⟩) hw]
  exact h1

theorem own_ne {u v : Option Nat} {B : Nat} (hu : ∀ k, u = some k → k < B) (hv : ∀ k, v = some k → B ≤ k) : u = none ∨ u ≠ v := by
  cases u with
  | none => exact Or.inl rfl
  | some k =>
    refine Or.inr (fun e => ?_)
    have h1 := hu k rfl
    have h2 := hv k e.symm
    omega

theorem first_at {w : World} {base g n cap q : Nat} {L : List Int} (h : w.ownsRow base 3 1 (.slice (some ⟨g, 0, none⟩) n cap) n (L.map (Value.int .i64))) (w4 : World) (hw : w4.heap[g]? = w.heap[g]?) :
    ∀ j u, ((L.take q).map (Value.int .i64))[j]? = some u → w4.cell? ((⟨g, 0, none⟩ : Addr).add j) = some u := by
  intro j u hu
  rw [Addr.add_lit, Nat.zero_add]
  refine own_at h w4 hw ?_
  rw [List.map_take, List.getElem?_take] at hu
  split at hu
  · exact hu
  · cases hu

theorem rest_at {w : World} {base g n cap q : Nat} {L : List Int} (h : w.ownsRow base 3 1 (.slice (some ⟨g, 0, none⟩) n cap) n (L.map (Value.int .i64))) (hl : L.length = n) (hc : n ≤ cap) :
    ∃ A : Addr, (if cap = q + 1 then some (⟨g, 0, none⟩ : Addr) else some ⟨g, q + 1, none⟩) = some A ∧ Hid (∀ j u, ((L.drop (q + 1)).map (Value.int .i64))[j]? = some u → ∀ w4 : World, w4.heap[g]? = w.heap[g]? → w4.cell? (A.add j) = some u) := by
  by_cases e : cap = q + 1
  · refine ⟨⟨g, 0, none⟩, by simp [e], fun j u hu w4 _ => ?_⟩
    rw [List.drop_eq_nil_of_le (by omega)] at hu
    simp at hu
  · refine ⟨⟨g, q + 1, none⟩, by simp [e], fun j u hu w4 hw => ?_⟩
    rw [Addr.add_lit]
    refine own_at h w4 hw ?_
    rw [List.map_drop, List.getElem?_drop] at hu
    exact hu

set_option maxRecDepth 20000 in
set_option maxHeartbeats 4000000 in
theorem rat_own (n k : Nat) (w : World) (h2 : n ≤ 12) (hk : k < fct n) :
    Calls Try.prog 15 #[.int .i64 n, .int .i64 k] w fun e w' => ∃ v, e = .returned v ∧ w'.ownsRow w.heap.size 3 1 v n ((atl n (rnd n) k).map (Value.int .i64)) ∧ Below w.heap.size w w' := by
  obtain ⟨i0, hi, hz0, hz1, hz2⟩ := info_parts Try.info3
  have HR := hide (rrounds_ok n w (by omega))
  have hfn := fct_le h2
  go_enter Try.func15, Try.ntmps15
  go_wp2_with fail
  refine HR.out.mono ?_
  rintro e w1 ⟨v1, rfl, hown1, hb1⟩
  clear HR
  go_wp2
  go_loopw [1, 5, 6] (fun sk so sl wr => ∃ (m kk B : Nat) (L xs : List Int), m ≤ n ∧ kk < fct m ∧ sk = .int .i64 (kk : Int) ∧
      wr.ownsRow B 3 1 sl m (L.map (Value.int .i64)) ∧ wr.ownsRow w.heap.size 3 1 so (n - m) (xs.map (Value.int .i64)) ∧ (∀ g, so.ownBlock = some g → g < B) ∧ w.heap.size ≤ B ∧ B ≤ wr.heap.size ∧
      Hid (xs ++ atl m L kk = atl n (rnd n) k) ∧ Below w.heap.size w wr) (fun _ _ sl _ => sliceLen sl)
  case atStart => exact ⟨n, k, w.heap.size, rnd n, [], Nat.le_refl _, hk, rfl, hown1, by rw [Nat.sub_self]; exact World.ownsRow_nil _ _ _ _, (fun g h => by cases h), Nat.le_refl _, hb1.size, rfl, hb1⟩
  case round =>
    obtain ⟨m, kk, B, L, xs, hmn, hkk, rfl, hl, hr, hob, hwB, hB, hat, hbw⟩ := hrel
    have hbs := hbw.size
    have hsl := hide (owns_len hl)
    cases m with
    | zero =>
      obtain ⟨p, cap, hv⟩ := owns_slice hl
      have e0 : L = [] := by have := hl.1; simpa using this
      rw [hv]
      clear hl hsl
      go_wp2
      go_ret
      refine ⟨_, rfl, ?_, hbw⟩
      have := hr
      rw [← hat.out]
      simpa [atl] using this
    | succ m =>
      obtain ⟨g, cap, hv, hg1, hg2, hgc, hcm⟩ := owns_form hl (by omega)
      rw [hv] at hl hsl ⊢
      have hLl : L.length = m + 1 := by have := hl.1; simpa using this
      have hG := fct_pos m
      have hFG : fct (m + 1) = (m + 1) * fct m := rfl
      have hGb := fct_le (n := m) (by omega)
      have hdl : kk / fct m < m + 1 := by rw [Nat.div_lt_iff_lt_mul hG, ← hFG]; exact hkk
      have hml : kk % fct m < fct m := Nat.mod_lt _ hG
      have hkb : kk ≤ 479001600 := by have := fct_le (n := m + 1) (by omega); omega
      have hq2 : (kk : Int) / ((fct m : Nat) : Int) = ((kk / fct m : Nat) : Int) := (Int.natCast_ediv kk (fct m)).symm
      have hr2 : (kk : Int) % ((fct m : Nat) : Int) = ((kk % fct m : Nat) : Int) := (Int.natCast_emod kk (fct m)).symm
      have hstep : Hid (xs ++ [L.getD (kk / fct m) 0] ++ atl m (L.eraseIdx (kk / fct m)) (kk % fct m) = atl n (rnd n) k) := by
        show _ = _
        rw [← hat.out, List.append_assoc]; rfl
      have HF := hide (factorial_any m wr (by omega))
      generalize kk / fct m = q at *
      generalize kk % fct m = r at *
      clear hFG hat hkk
      generalize hGe : fct m = G at *
      have HGe := hide hGe
      clear hGe hv
      obtain ⟨y, hy, hcy, hfy⟩ := owns_cellAt hl hdl
      rw [show L.getD q 0 = y from hy.out] at hstep
      go_wp2_with fail
      refine HF.out.mono ?_
      rintro e w2 ⟨rfl, rfl⟩
      clear HF
      go_wp2_with (at_builtin; refine wpList_append_own _ rfl _ _ 24 rfl w.heap.size 3 i0 (.int .i64 0) 1 8 Try.underlying24 hi hz0 hz1 hz2 rfl (by decide) _ _ _ rfl (hr.alloc _) ⟨wr.heap.size, 0, none⟩ 1 1 [.int .i64 y] rfl rfl ?c1 ?c2 ?c3 ?c4 ?c5 ?_)
      case c1 => exact cell_one_new _ _ _
      case c2 => intro u hu; simp at hu; subst hu; rfl
      case c3 => unfold maxLen; omega
      case c4 => omega
      case c5 => simp; omega
      · intro v3 w3 hown3 hgrow3 _
        have hl3 := (hl.alloc (.cells #[.int .i64 y] 3)).kept hgrow3 (Or.inr (by intro e; have := hob g e.symm; omega))
        have hb3 : Below w.heap.size w w3 := (hbw.alloc hbw.size _).grown hgrow3 (by simp; omega) (fun g hg => (hr.lt g hg).1)
        have hlt3 := hown3.lt
        have hgs3 := (hl3.lt g rfl).2
        have hic : (q : Int) ≤ (cap : Int) := by omega
        have hq0 : (0 : Int) ≤ (q : Int) := by omega
        have hwr : IntKind.i64.wrap ((q : Int) + 1) = (q : Int) + 1 := by rw [IntKind.wrap_i64]; omega
        have hp0 : (0 : Int) ≤ (q : Int) + 1 := by omega
        have hp1 : (q : Int) + 1 ≤ ((m : Int) + 1) := by omega
        have hp2 : ((q : Int) + 1).toNat = q + 1 := by omega
        obtain ⟨A, hA, hcA⟩ := rest_at (q := q) hl3 hLl hgc
        have HE : Hid ((w3.alloc (.cells #[] 3)).drew.ownsRow w3.heap.size 3 1 (.slice (some ⟨w3.heap.size, 0, none⟩) 0 0) 0 []) := World.ownsRow_made w3 #[] 0 (Nat.le_refl _) (by decide) (by simp)
        have HN1 := hide (first_at (q := q) hl3 (w3.alloc (.cells #[] 3)).drew (Below.heap_alloc w3 _ g hgs3))
        have HL1 : Hid (((L.take q).map (Value.int .i64)).length = q * 1) := by show _ = _; rw [List.length_map, List.length_take]; omega
        have HL2 : Hid (((L.drop (q + 1)).map (Value.int .i64)).length = (m - q) * 1) := by show _ = _; rw [List.length_map, List.length_drop]; omega
        have HO1 := hide (ints_oneCell .i64 (L.take q))
        have HO2 := hide (ints_oneCell .i64 (L.drop (q + 1)))
        have HM1 : Hid (0 + q ≤ maxLen) := by unfold Hid maxLen; omega
        have HM2 : Hid (0 + q + (m - q) ≤ maxLen) := by unfold Hid maxLen; omega
        have HY1 : Hid ((0 + q) * 8 ≤ 140737488355328) := by unfold Hid; omega
        have HY2 : Hid ((0 + q + (m - q)) * 8 ≤ 140737488355328) := by unfold Hid; omega
        have HS1 : Hid (w3.heap.size ≤ (w3.alloc (.cells #[] 3)).drew.heap.size) := by show w3.heap.size ≤ (w3.alloc _).heap.size; simp
        go_wp2_with fail
        go_region_law ((first
          | (refine step_append_own rfl (.tmp 31) (.tmp 34) 24 rfl w3.heap.size 3 i0 (.int .i64 0) 1 8 Try.underlying24 hi hz0 hz1 hz2 rfl (by decide) (.slice (some ⟨w3.heap.size, 0, none⟩) 0 0) 0 [] rfl HE.out ⟨g, 0, none⟩ q cap ((L.take q).map (Value.int .i64)) rfl HL1.out HN1.out HO1.out HM1.out HY1.out HS1.out ?_; intro v4 w4 hown4 hgrow4)
          | (refine step_append_own rfl (.tmp 35) (.tmp 39) 24 rfl w3.heap.size 3 i0 (.int .i64 0) 1 8 Try.underlying24 hi hz0 hz1 hz2 rfl (by decide) v4 (0 + q) _ rfl hown4 A (m - q) (cap - (q + 1)) ((L.drop (q + 1)).map (Value.int .i64)) rfl HL2.out (fun j u hu => hcA.out j u hu w4 (by rw [hgrow4.block g (by show g < (w3.alloc _).heap.size; simp; omega) (by intro e; have e' : g = w3.heap.size := Option.some.inj e; omega)]; exact Below.heap_alloc w3 _ g hgs3)) HO2.out HM2.out HY2.out (Nat.le_trans HS1.out hgrow4.size) ?_; intro v5 w5 hown5 hgrow5)))
        have hr5 := (((hown3.alloc (.cells #[] 3)).drew).kept hgrow4 (own_ne (fun k hk => (hlt3 k hk).2) (fun k hk => by have e' : w3.heap.size = k := Option.some.inj hk; omega))).kept hgrow5 (own_ne (fun k hk => (hlt3 k hk).2) (fun k hk => (hown4.lt k hk).1))
        have hb5 : Below w.heap.size w w5 := ((((hb3.alloc hb3.size (.cells #[] 3)).drew).grown hgrow4 (Nat.le_trans hb3.size HS1.out) (fun k hk => by have e' : w3.heap.size = k := Option.some.inj hk; have := hb3.size; omega))).grown hgrow5 (Nat.le_trans hb3.size (Nat.le_trans HS1.out hgrow4.size)) (fun k hk => by have := (hown4.lt k hk).1; have := hb3.size; omega)
        have hs5 : w3.heap.size ≤ w5.heap.size := Nat.le_trans HS1.out (Nat.le_trans hgrow4.size hgrow5.size)
        have hl5 : w5.ownsRow w3.heap.size 3 1 v5 m ((L.eraseIdx q).map (Value.int .i64)) := by
          have h5 := hown5
          rw [List.nil_append, ← List.map_append, ← List.eraseIdx_eq_take_drop_succ, show 0 + q + (m - q) = m from by omega] at h5
          exact h5
        rw [show n - (m + 1) + 1 = n - m from by omega] at hr5
        have hsl5 := hide (owns_len hl5)
        have HL5 := hide hl5
        have HR5 := hide hr5
        clear hl5 hr5 hown5 hown4 hown3 hgrow4 hgrow5 hgrow3 HN1 HE hcA HL1 HL2 HO1 HO2 HM1 HM2 HY1 HY2 HS1 hl3
        go_wp2
        go_roundw
        case rel =>
          have hfin : ∃ (m' kk' B' : Nat) (L' xs' : List Int), m' ≤ n ∧ kk' < fct m' ∧ Value.int .i64 (r : Int) = .int .i64 (kk' : Int) ∧
              w5.ownsRow B' 3 1 v5 m' (L'.map (Value.int .i64)) ∧ w5.ownsRow w.heap.size 3 1 v3 (n - m') (xs'.map (Value.int .i64)) ∧ (∀ g, v3.ownBlock = some g → g < B') ∧ w.heap.size ≤ B' ∧ B' ≤ w5.heap.size ∧
              Hid (xs' ++ atl m' L' kk' = atl n (rnd n) k) ∧ Below w.heap.size w w5 :=
            ⟨m, r, w3.heap.size, _, xs ++ [y], by omega, by rw [HGe.out]; exact hml, rfl, HL5.out, by rw [List.map_append]; exact HR5.out, fun k hk => (hlt3 k hk).2, hb3.size, hs5, hstep, hb5⟩
          first
            | exact hfin
            | ((repeat apply Exists.intro); exact ⟨hfin, rfl⟩)
        case measure =>
          show sliceLen v5 < m + 1
          rw [hsl5.out]; omega

theorem rat_ok (n k : Nat) (w : World) (h2 : n ≤ 12) (hk : k < fct n) :
    Calls Try.prog 15 #[.int .i64 n, .int .i64 k] w fun e w' => ∃ v, e = .returned v ∧ Ints w' v (atl n (rnd n) k) ∧ Below w.heap.size w w' := by
  refine (rat_own n k w h2 hk).mono ?_
  rintro e w' ⟨v, rfl, ho, hb⟩
  exact ⟨v, rfl, Ints.own ho, hb⟩

end Go.Proofs.Ytfnmkbcdchnnnaa

/- Contracts of the answer's functions: SameAll, Cycles. -/
namespace Go.Proofs.Ytfnmkbcdchnnnaa
open Go.RowKit
set_option maxRecDepth 20000

/-- The slice value v holds these values. -/
def Vals (w : World) (v : Value) (vs : List Value) : Prop :=
  (vs = [] ∧ ∃ p c, v = .slice p 0 c) ∨
  ∃ b off cap, v = .slice (some ⟨b, off, none⟩) vs.length cap ∧ 0 < vs.length ∧ vs.length ≤ cap ∧ cap ≤ 9223372036854775807 ∧ b < w.heap.size ∧
    ∀ j, j < vs.length → w.cell? ⟨b, off + j, none⟩ = some (vs.getD j undef)

/-- The slice value v reads as a list of lists. -/
def IntsAll (w : World) (v : Value) (xss : List (List Int)) : Prop :=
  ∃ vs, Vals w v vs ∧ vs.length = xss.length ∧ ∀ j, j < xss.length → Ints w (vs.getD j undef) (xss.getD j [])

theorem Vals.below {w w' : World} {v : Value} {vs : List Value} (h : Vals w v vs) (hb : Below w.heap.size w w') : Vals w' v vs := by
  rcases h with h | ⟨b, off, cap, h1, h2, h3, h4, h5, h6⟩
  · exact Or.inl h
  · refine Or.inr ⟨b, off, cap, h1, h2, h3, h4, Nat.lt_of_lt_of_le h5 hb.size, fun j hj => ?_⟩
    rw [hb.cell (p := ⟨b, off + j, none⟩) h5]
    exact h6 j hj

theorem IntsAll.below {w w' : World} {v : Value} {xss : List (List Int)} (h : IntsAll w v xss) (hb : Below w.heap.size w w') : IntsAll w' v xss := by
  obtain ⟨vs, h1, h2, h3⟩ := h
  exact ⟨vs, h1.below hb, h2, fun j hj => (h3 j hj).below hb⟩

theorem Vals.form {w : World} {v : Value} {vs : List Value} (h : Vals w v vs) : ∃ p cap, v = .slice p vs.length cap := by
  rcases h with ⟨rfl, p, c, rfl⟩ | ⟨b, off, cap, h1, _⟩
  · exact ⟨p, c, rfl⟩
  · exact ⟨_, cap, h1⟩

theorem Vals.own {w : World} {base e : Nat} {v : Value} {vs : List Value} (h : w.ownsRow base e 1 v vs.length vs) : Vals w v vs := by
  rcases h.2 with ⟨rfl, h0⟩ | ⟨g, cap, cur, hv, _, hh, hn, hm, hs, ht⟩
  · exact Or.inl ⟨List.length_eq_zero_iff.1 h0, none, 0, rfl⟩
  · rcases Nat.eq_zero_or_pos vs.length with h0 | h0
    · exact Or.inl ⟨List.length_eq_zero_iff.1 h0, _, cap, by rw [hv, h0]⟩
    · refine Or.inr ⟨g, 0, cap, hv, h0, hn, by unfold maxLen at hm; omega, (Array.getElem?_eq_some_iff.1 hh).1, fun j hj => ?_⟩
      rw [Nat.zero_add]
      rw [hv] at h
      exact owns_val h hj

theorem IntsAll.own {w : World} {base e : Nat} {v : Value} {vs : List Value} {xss : List (List Int)} (h : w.ownsRow base e 1 v vs.length vs) (ha : OwnAll w base vs xss) : IntsAll w v xss :=
  ⟨vs, Vals.own h, OwnAll.length ha, fun j hj => Ints.own (ownAll_at ha (by rw [OwnAll.length ha]; exact hj))⟩

theorem takes_eq_snoc {xs ys : List (List Int)} {k : Nat} (h : xs.take k = ys.take k) (hx : k < xs.length) (hy : k < ys.length) (e : xs.getD k [] = ys.getD k []) : xs.take (k + 1) = ys.take (k + 1) := by
  rw [List.take_succ_eq_append_getElem hx, List.take_succ_eq_append_getElem hy, h]
  simp only [List.getD, List.getElem?_eq_getElem hx, List.getElem?_eq_getElem hy, Option.getD_some] at e
  rw [e]

theorem elAt {w : World} {b off k : Nat} {vs : List Value} (hcell : ∀ j, j < vs.length → w.cell? ⟨b, off + j, none⟩ = some (vs.getD j undef)) (h : k < vs.length) {X : List Int} (hi : Ints w (vs.getD k undef) X) :
    ∃ p c, w.cell? ⟨b, off + k, none⟩ = some (.slice p X.length c) ∧ Hid (Ints w (.slice p X.length c) X) := by
  obtain ⟨p, c, e⟩ := hi.form
  refine ⟨p, c, by rw [hcell k h, e], ?_⟩
  rw [← e]; exact hi

end Go.Proofs.Ytfnmkbcdchnnnaa

/- append of owned slices, nil or not; slices held against nil. -/
namespace Go.Proofs.Ytfnmkbcdchnnnaa
open Go.RowKit

/-- 'append(s, nil...)': s itself, where s is no nil slice. -/
theorem run_append_nothing {P : Program} (w : World) (t ty e : TypeId) (i : TypeInfo) (ht : P.underlying t = some (.slice e)) (hi : P.info? e = some i) (a : Addr) (n cap : Nat) (hn : n ≤ cap) :
    (Builtin.append_ #[t, t] ty #[.slice (some a) n cap, .slice none 0 0]).run P w = .ok (.slice (some a) n cap) w := by
  simp [Builtin.append_, run_underlying ht, sizeOf, typeInfo, hi, Builtin.lenOf, Builtin.firstCells, loadCells, hn, storeCells]

theorem wpList_append_nothing {P : Program} (w : World) {ops : Array Oper} {rest : List Oper} {o : Oper} {a : Act} {Q : Exit → Act → World → Prop} (hgd : o.guard = none) (s x : Operand) (t : TypeId)
    (ho : o.op = .call { callee := .builtin .append, args := #[s, x], argTypes := #[t, t] })
    (e : TypeId) (i : TypeInfo) (ht : P.underlying t = some (.slice e)) (hi : P.info? e = some i)
    (ad : Addr) (n cap : Nat) (hn : n ≤ cap) (hs : a.eval s = .slice (some ad) n cap) (hx : a.eval x = .slice none 0 0)
    (h : wpList P ops Q rest (a.put o.dst (.slice (some ad) n cap)) w) : wpList P ops Q (o :: rest) a w := by
  refine wpList_plain hgd fun K hK => ?_
  have hr := run_append_nothing (P := P) w t o.type e i ht hi ad n cap hn
  unfold Oper.wp execOp
  simp only [ho, resolve, invoke, builtin, Sem.run_bind, Sem.run_pure, Result.andThen_ok, List.map_toArray, List.map_cons, List.map_nil, hs, hx, hr]
  exact hK _ _ h

theorem run_append_nil_nil {P : Program} (w : World) (t ty e : TypeId) (i : TypeInfo) (ht : P.underlying t = some (.slice e)) (hi : P.info? e = some i) :
    (Builtin.append_ #[t, t] ty #[.slice none 0 0, .slice none 0 0]).run P w = .ok (.slice none 0 0) w := by
  simp [Builtin.append_, run_underlying ht, sizeOf, typeInfo, hi, Builtin.lenOf, Builtin.firstCells]

/-- 'append(a, b...)', both owned, nil or not. -/
theorem wpList_append_more {P : Program} {w : World} {ops : Array Oper} {rest : List Oper} {o : Oper} {a : Act} {Q : Exit → Act → World → Prop} (hgd : o.guard = none) (s x : Operand) (t : TypeId)
    (ho : o.op = .call { callee := .builtin .append, args := #[s, x], argTypes := #[t, t] })
    (base base' : Nat) (e : TypeId) (i : TypeInfo) (z : Value) (bytes : Nat) (ht : P.underlying t = some (.slice e)) (hi : P.info? e = some i) (hz : i.zero = some z)
    (hsize : i.size = 1) (hby : i.bytes = bytes) (hzs : z.cells.size = 1)
    (v : Value) (n : Nat) (xs : List Value) (hs : a.eval s = v) (hown : w.ownsRow base e 1 v n xs)
    (u : Value) (m : Nat) (news : List Value) (hx : a.eval x = u) (hsrc : w.ownsRow base' e 1 u m news) (h1 : ∀ u ∈ news, u.oneCell' = true)
    (h63 : n + m ≤ maxLen) (hbytes : (n + m) * bytes ≤ 140737488355328) (hbase : base ≤ w.heap.size)
    (h : ∀ v' w', w'.ownsRow base e 1 v' (n + m) (xs ++ news) → w.grownBy w' v.ownBlock → wpList P ops Q rest (a.put o.dst v') w') :
    wpList P ops Q (o :: rest) a w := by
  rcases hsrc.2 with ⟨rfl, rfl⟩ | ⟨g', cap, cur, rfl, hbg, hg, hnc, hcm, hcs, htake⟩
  · have hn : news = [] := List.length_eq_zero_iff.1 (by have := hsrc.1; omega)
    subst hn
    rw [Nat.add_zero, List.append_nil] at h
    have hr : w.grownBy w v.ownBlock := ⟨rfl, rfl, rfl, Nat.le_refl _, fun _ _ _ => rfl⟩
    rcases hown.2 with ⟨rfl, rfl⟩ | ⟨g2, cap2, cur2, rfl, _, _, hnc2, _⟩
    · refine wpList_plain hgd fun K hK => ?_
      have hrun := run_append_nil_nil (P := P) w t o.type e i ht hi
      unfold Oper.wp execOp
      simp only [ho, resolve, invoke, builtin, Sem.run_bind, Sem.run_pure, Result.andThen_ok, List.map_toArray, List.map_cons, List.map_nil, hs, hx, hrun]
      exact hK _ _ (h _ _ hown hr)
    · exact wpList_append_nothing w hgd s x t ho e i ht hi _ n cap2 hnc2 hs hx (h _ _ hown hr)
  · refine wpList_append_own w hgd s x t ho base e i z 1 bytes ht hi hz hsize hby hzs (by decide) v n xs hs hown ⟨g', 0, none⟩ m cap news hx (by rw [hsrc.1]) (hsrc.cells (g := g') rfl) h1 h63 hbytes hbase ?_
    intro v' w' h2 h3 _
    exact h v' w' h2 h3

theorem OwnAll.join {w : World} {base : Nat} {vs : List Value} {ys : List (List Int)} (h2 : OwnAll w base vs ys) : ∀ {us : List Value} {xs : List (List Int)}, OwnAll w base us xs → OwnAll w base (us ++ vs) (xs ++ ys)
  | [], [], _ => h2
  | _ :: _, _ :: _, ⟨h1, h3⟩ => ⟨h1, OwnAll.join h2 h3⟩

theorem OwnAll.low {w : World} {base base' : Nat} (hb : base' ≤ base) : ∀ {us : List Value} {xs : List (List Int)}, OwnAll w base us xs → OwnAll w base' us xs
  | [], [], _ => trivial
  | _ :: _, _ :: _, ⟨h1, h2⟩ => ⟨owns_base h1 hb, OwnAll.low hb h2⟩

theorem OwnAll.cells {w : World} {base : Nat} : ∀ {us : List Value} {xs : List (List Int)}, OwnAll w base us xs → ∀ u, u ∈ us → u.oneCell' = true
  | [], [], _, u, hu => by cases hu
  | _ :: _, _ :: _, ⟨h1, h2⟩, u, hu => by
    rcases List.mem_cons.1 hu with rfl | hu
    · rcases h1.2 with ⟨rfl, _⟩ | ⟨_, _, _, rfl, _⟩
      · rfl
      · rfl
    · exact OwnAll.cells h2 u hu

theorem run_nil_eq (w : World) : (binOp BinOp.eql 24 (.slice none 0 0) (.slice none 0 0)).run Try.prog w = .ok (.bool true) w := by kernel_rfl
theorem run_nil_ne (w : World) : (binOp BinOp.neq 24 (.slice none 0 0) (.slice none 0 0)).run Try.prog w = .ok (.bool false) w := by kernel_rfl
theorem run_some_eq (a : Addr) (n c : Nat) (w : World) : (binOp BinOp.eql 24 (.slice (some a) n c) (.slice none 0 0)).run Try.prog w = .ok (.bool false) w := by kernel_rfl
theorem run_some_ne (a : Addr) (n c : Nat) (w : World) : (binOp BinOp.neq 24 (.slice (some a) n c) (.slice none 0 0)).run Try.prog w = .ok (.bool true) w := by kernel_rfl

end Go.Proofs.Ytfnmkbcdchnnnaa

/- Lists of lists that a call makes, one list behind the other. -/
namespace Go.Proofs.Ytfnmkbcdchnnnaa
open Go.RowKit

/-- A list of lists that the call owns, all its lists too. -/
structure LL (w : World) (base : Nat) (v : Value) (vs : List Value) (xss : List (List Int)) : Prop where
  row : w.ownsRow base 24 1 v vs.length vs
  all : OwnAll w base vs xss

theorem LL.nil (w : World) (base : Nat) : LL w base (.slice none 0 0) [] [] := ⟨World.ownsRow_nil _ _ _ _, trivial⟩

theorem LL.len {w : World} {base : Nat} {v : Value} {vs : List Value} {xss : List (List Int)} (h : LL w base v vs xss) : vs.length = xss.length := OwnAll.length h.all

theorem LL.ints {w : World} {base : Nat} {v : Value} {vs : List Value} {xss : List (List Int)} (h : LL w base v vs xss) : IntsAll w v xss := IntsAll.own h.row h.all

theorem LL.below {w w' : World} {base : Nat} {v : Value} {vs : List Value} {xss : List (List Int)} (h : LL w base v vs xss) (hb : Below w.heap.size w w') : LL w' base v vs xss :=
  ⟨owns_below h.row hb (Nat.le_refl _), h.all.mono (fun _ _ _ h' => owns_below h' hb (Nat.le_refl _))⟩

theorem LL.low {w : World} {base base' : Nat} {v : Value} {vs : List Value} {xss : List (List Int)} (h : LL w base v vs xss) (hb : base' ≤ base) : LL w base' v vs xss := by
  refine ⟨owns_base h.row hb, ?_⟩
  have ha := h.all
  clear h
  induction vs generalizing xss with
  | nil => cases xss with
    | nil => trivial
    | cons x xs => exact ha.elim
  | cons u us ih => cases xss with
    | nil => exact ha.elim
    | cons x xs => exact ⟨owns_base ha.1 hb, ih ha.2⟩

theorem LL.at {w : World} {base : Nat} {v : Value} {vs : List Value} {xss : List (List Int)} (h : LL w base v vs xss) {k : Nat} (hk : k < xss.length) : w.ownsRow base 3 1 (vs.getD k undef) (xss.getD k []).length ((xss.getD k []).map (Value.int .i64)) :=
  ownAll_at h.all (by rw [h.len]; exact hk)

theorem LL.push {w w4 : World} {base : Nat} {v v' u : Value} {vs : List Value} {xss : List (List Int)} {X : List Int} {o : Obj} (h : LL w base v vs xss) (hu : w.ownsRow base 3 1 u X.length (X.map (Value.int .i64)))
    (hown : w4.ownsRow base 24 1 v' (vs.length + 1) (vs ++ [u])) (hg : (w.alloc o).grownBy w4 v.ownBlock) : LL w4 base v' (vs ++ [u]) (xss ++ [X]) :=
  ⟨by rw [List.length_append]; exact hown, OwnAll.snoc (owns_kept_ty (hu.alloc o) (h.row.alloc o) hg) (h.all.mono (fun _ _ _ h' => owns_kept_ty (h'.alloc o) (h.row.alloc o) hg))⟩

theorem LL.kept {w w4 : World} {base n : Nat} {v u : Value} {vs ys : List Value} {xss : List (List Int)} {o : Obj} (h : LL w base v vs xss) (hu : w.ownsRow base 3 1 u n ys) (hg : (w.alloc o).grownBy w4 v.ownBlock) : w4.ownsRow base 3 1 u n ys :=
  owns_kept_ty (hu.alloc o) (h.row.alloc o) hg

theorem LL.step {w0 w w4 : World} {base B : Nat} {v : Value} {vs : List Value} {xss : List (List Int)} {o : Obj} (h : LL w base v vs xss) (hB : Below B w0 w) (hb : B ≤ base) (hs : B ≤ w.heap.size) (hg : (w.alloc o).grownBy w4 v.ownBlock) : Below B w0 w4 :=
  (hB.alloc hs _).grown hg (by simp; omega) (fun g hg' => Nat.le_trans hb (h.row.lt g hg').1)

/-- The list of one list. -/
theorem LL.one {w : World} {base : Nat} {u : Value} {X : List Int} (hu : w.ownsRow base 3 1 u X.length (X.map (Value.int .i64))) (hb : base ≤ w.heap.size) : LL (w.alloc (.cells #[u] 24)) base (.slice (some ⟨w.heap.size, 0, none⟩) 1 1) [u] [X] :=
  ⟨World.ownsRow_lit w #[u] 1 hb (by unfold maxLen; omega) rfl, ⟨hu.alloc _, trivial⟩⟩

end Go.Proofs.Ytfnmkbcdchnnnaa

/- Plain: ways through all rows, one after another, in the order of lists; how many unlike numbers there are below a bound. -/
namespace Go.Proofs.Ytfnmkbcdchnnnaa
open Go.RowKit

/-- A way that goes on from a number, which has met these: each number once, and then 0. -/
def Good (nx : Nat → Nat → Nat) (K all : Nat) : List Nat → Nat → List Nat → Prop
  | _, _, [] => False
  | ks, at_, k :: t => k < K ∧ ((t = [] ∧ nx k at_ = 0 ∧ ks.length = all) ∨ (nx k at_ ∉ ks ∧ Good nx K all (nx k at_ :: ks) (nx k at_) t))

/-- The order of lists. -/
def Ltl : List Nat → List Nat → Prop
  | [], [] => False
  | [], _ :: _ => True
  | _ :: _, [] => False
  | a :: x, b :: y => a < b ∨ (a = b ∧ Ltl x y)

theorem nodup_le : ∀ (n : Nat) (l : List Nat), l.Nodup → (∀ x, x ∈ l → x < n) → l.length ≤ n
  | 0, l, _, h => by
    cases l with
    | nil => simp
    | cons x t => exact absurd (h x (by simp)) (by omega)
  | n + 1, l, hn, h => by
    by_cases hm : n ∈ l
    · have h1 := nodup_le n (l.erase n) (hn.erase n) (fun x hx => by
        have hx2 := (List.Nodup.mem_erase_iff hn).1 hx
        have := h x hx2.2
        have := hx2.1
        omega)
      have h2 := List.length_erase_of_mem hm
      have h3 : 0 < l.length := List.length_pos_of_mem hm
      omega
    · have h1 := nodup_le n l hn (fun x hx => by
        have := h x hx
        have : x ≠ n := fun e => hm (e ▸ hx)
        omega)
      omega

/-- The numbers that are tried stand for all: each once, in order. -/
structure Tried (nx : Nat → Nat → Nat) (K : Nat) (tr : List Nat) : Prop where
  low : ∀ k, k ∈ tr → k < K
  sorted : tr.Pairwise (· < ·)
  all : ∀ k, k < K → ∃ k', k' ∈ tr ∧ k' ≤ k ∧ ∀ a, nx k' a = nx k a

theorem Good.same {nx : Nat → Nat → Nat} {K all : Nat} {ks : List Nat} {a k k' : Nat} {t : List Nat} (h : Good nx K all ks a (k :: t)) (hk : k' < K) (e : nx k' a = nx k a) : Good nx K all ks a (k' :: t) := by
  unfold Good at h ⊢
  rw [e]
  exact ⟨hk, h.2⟩

theorem sorted_before {tr : List Nat} (h : tr.Pairwise (· < ·)) {i : Nat} (hi : i < tr.length) {k : Nat} (hk : k ∈ tr) (hlt : k < tr.getD i 0) : ∃ j, j < i ∧ tr.getD j 0 = k := by
  obtain ⟨j, hj, e⟩ := List.getElem_of_mem hk
  have ei : tr.getD i 0 = tr[i] := by simp [List.getD, hi]
  refine ⟨j, ?_, by simp [List.getD, hj, e]⟩
  rcases Nat.lt_trichotomy j i with h1 | h1 | h1
  · exact h1
  · subst h1; omega
  · have := List.pairwise_iff_getElem.1 h i j hi hj h1
    omega

/-- What is found first is the least. -/
theorem least_found {nx : Nat → Nat → Nat} {K all : Nat} {tr ks : List Nat} {a i : Nat} {q : List Nat} (hT : Tried nx K tr) (hi : i < tr.length) (hno : ∀ j, j < i → ∀ t, ¬ Good nx K all ks a (tr.getD j 0 :: t))
    (hq : ∀ t, Good nx K all ks a (tr.getD i 0 :: t) → ¬ Ltl t q) : ∀ t, Good nx K all ks a t → ¬ Ltl t (tr.getD i 0 :: q) := by
  intro t ht hl
  cases t with
  | nil => exact ht
  | cons k t =>
    have hk : k < K := by unfold Good at ht; exact ht.1
    rcases (show k < tr.getD i 0 ∨ (k = tr.getD i 0 ∧ Ltl t q) from hl) with h | ⟨rfl, h⟩
    · obtain ⟨k', hm, hle, he⟩ := hT.all k hk
      obtain ⟨j, hj, e⟩ := sorted_before hT.sorted hi hm (by omega)
      refine hno j hj t ?_
      rw [e]
      exact ht.same (hT.low k' hm) (he a)
    · exact hq t ht h

theorem none_found {nx : Nat → Nat → Nat} {K all : Nat} {tr ks : List Nat} {a : Nat} (hT : Tried nx K tr) (hno : ∀ j, j < tr.length → ∀ t, ¬ Good nx K all ks a (tr.getD j 0 :: t)) : ∀ t, ¬ Good nx K all ks a t := by
  intro t ht
  cases t with
  | nil => exact ht
  | cons k t =>
    have hk : k < K := by unfold Good at ht; exact ht.1
    obtain ⟨k', hm, hle, he⟩ := hT.all k hk
    obtain ⟨j, hj, e⟩ := List.getElem_of_mem hm
    refine hno j hj t ?_
    rw [show tr.getD j 0 = k' from by simp [List.getD, hj, e]]
    exact ht.same (hT.low k' hm) (he a)

/-- A step that is barred. -/
theorem good_barred {nx : Nat → Nat → Nat} {K all : Nat} {ks : List Nat} {a k : Nat} (h1 : nx k a ∈ ks) (h2 : ¬ (nx k a = 0 ∧ ks.length = all)) : ∀ t, ¬ Good nx K all ks a (k :: t) := by
  intro t ht
  unfold Good at ht
  rcases ht.2 with ⟨_, h3, h4⟩ | ⟨h3, _⟩
  · exact h2 ⟨h3, h4⟩
  · exact h3 h1

/-- Home. -/
theorem good_home {nx : Nat → Nat → Nat} {K all : Nat} {ks : List Nat} {a k : Nat} (hk : k < K) (h1 : nx k a = 0) (h2 : ks.length = all) : Good nx K all ks a [k] ∧ ∀ t, Good nx K all ks a (k :: t) → ¬ Ltl t [] := by
  refine ⟨⟨hk, Or.inl ⟨rfl, h1, h2⟩⟩, fun t _ hl => ?_⟩
  cases t with
  | nil => exact hl
  | cons _ _ => exact hl

theorem good_on {nx : Nat → Nat → Nat} {K all : Nat} {ks : List Nat} {a k : Nat} (h2 : ¬ (nx k a = 0 ∧ ks.length = all)) (t : List Nat) : Good nx K all ks a (k :: t) → Good nx K all (nx k a :: ks) (nx k a) t := by
  intro ht
  unfold Good at ht
  rcases ht.2 with ⟨_, h3, h4⟩ | ⟨_, h3⟩
  · exact absurd ⟨h3, h4⟩ h2
  · exact h3

def nI (l : List Nat) : List Int := l.map (fun (k : Nat) => (k : Int))

theorem nI_len (l : List Nat) : (nI l).length = l.length := by simp [nI]

theorem nI_get (l : List Nat) {i : Nat} (h : i < l.length) : (nI l).getD i 0 = ((l.getD i 0 : Nat) : Int) := by simp [nI, List.getD, h]

end Go.Proofs.Ytfnmkbcdchnnnaa

/- Maps that are sets of numbers: look, len, put, take out; what lies under a walk. -/
namespace Go.Proofs.Ytfnmkbcdchnnnaa
open Go.RowKit Go.Maps Go.ChangeMaps
open Go.WideElems (rg)

/-- Block b is a map[int]int whose keys are these numbers, each once. -/
def ISet (w : World) (b : Nat) (ks : List Nat) : Prop :=
  ks.Nodup ∧ ∃ D : DataW Value, w.ownsMap Try.prog 3 heldElem b ks.length D ∧ Maps.size D = ks.length ∧ ∀ a : Nat, Maps.has D (.int .i64 (a : Int)) = decide (a ∈ ks)

theorem ISet.lt {w : World} {b : Nat} {ks : List Nat} (h : ISet w b ks) : b < w.heap.size := by
  obtain ⟨_, D, h1, _⟩ := h; exact h1.lt

theorem ISet.of_block {w w' : World} {b : Nat} {ks : List Nat} (h : ISet w b ks) (hb : w'.heap[b]? = w.heap[b]?) : ISet w' b ks := by
  obtain ⟨hn, D, ⟨es, c, h1, h2⟩, h3⟩ := h; exact ⟨hn, D, ⟨es, c, hb.trans h1, h2⟩, h3⟩

theorem int_lit_ne {x a : Nat} (e : x ≠ a) : (Lit.int .i64 (x : Int)) ≠ Lit.int .i64 (a : Int) := fun h => e (by have := (Lit.int.inj h).2; omega)

/-! at the operation -/
section
variable {ops : Array Oper} {rest : List Oper} {o : Oper} {a : Act} {w : World} {Q : Exit → Act → World → Prop}

end

/-- Below block number B all is as it was, but for two blocks. -/
structure Frm (B sb mb : Nat) (w w' : World) : Prop where
  os : w'.os = w.os
  tape : w'.tape = w.tape
  output : w'.output = w.output
  size : w.heap.size ≤ w'.heap.size
  block : ∀ b, b < B → b ≠ sb → b ≠ mb → w'.heap[b]? = w.heap[b]?

theorem Frm.refl (B sb mb : Nat) (w : World) : Frm B sb mb w w := ⟨rfl, rfl, rfl, Nat.le_refl _, fun _ _ _ _ => rfl⟩

theorem Frm.trans {B sb mb : Nat} {a b c : World} (h : Frm B sb mb a b) (k : Frm B sb mb b c) : Frm B sb mb a c :=
  ⟨k.os.trans h.os, k.tape.trans h.tape, k.output.trans h.output, Nat.le_trans h.size k.size, fun x h1 h2 h3 => (k.block x h1 h2 h3).trans (h.block x h1 h2 h3)⟩

theorem Frm.of_below {B sb mb X : Nat} {w w' : World} (h : Below X w w') (hX : B ≤ X) : Frm B sb mb w w' := ⟨h.os, h.tape, h.output, h.size, fun x h1 _ _ => h.block x (by omega)⟩

theorem Frm.below {B sb mb X : Nat} {w w' : World} (h : Frm B sb mb w w') (hX : X ≤ B) (h1 : X ≤ sb) (h2 : X ≤ mb) : Below X w w' := ⟨h.os, h.tape, h.output, h.size, fun x hx => h.block x (by omega) (by omega) (by omega)⟩

theorem Frm.set {B sb mb : Nat} {w w' : World} (h : Frm B sb mb w w') (j : Nat) (u : Value) : Frm B sb mb w (w'.setCell ⟨sb, j, none⟩ u) :=
  h.trans ⟨rfl, rfl, rfl, by simp [World.setCell], fun x _ h2 _ => Below.heap_setCell _ _ _ _ h2⟩

theorem Frm.turned {B sb mb : Nat} {w w' w'' : World} (h : Frm B sb mb w w') (ht : w'.mapTurned w'' mb) : Frm B sb mb w w'' := by
  obtain ⟨es, c, es', c', h1, rfl⟩ := ht
  refine h.trans ⟨rfl, rfl, rfl, by simp [setBlock], fun x _ _ h3 => ?_⟩
  simp [setBlock, Ne.symm h3]

theorem turned_block {w w' : World} {mb x : Nat} (ht : w.mapTurned w' mb) (hx : x ≠ mb) : w'.heap[x]? = w.heap[x]? := by
  obtain ⟨es, c, es', c', h1, rfl⟩ := ht
  simp [setBlock, Ne.symm hx]

theorem turned_size {w w' : World} {mb : Nat} (ht : w.mapTurned w' mb) : w'.heap.size = w.heap.size := by
  obtain ⟨es, c, es', c', h1, rfl⟩ := ht
  simp [setBlock]

theorem owns_block {w w' : World} {base e n : Nat} {v : Value} {xs : List Value} (h : w.ownsRow base e 1 v n xs) (hb : ∀ g, v.ownBlock = some g → w'.heap[g]? = w.heap[g]?) : w'.ownsRow base e 1 v n xs := by
  obtain ⟨h1, h2⟩ := h
  refine ⟨h1, ?_⟩
  rcases h2 with h2 | ⟨g, cap, cur, hv, hg, hh, r⟩
  · exact Or.inl h2
  · exact Or.inr ⟨g, cap, cur, hv, hg, (hb g (by rw [hv]; rfl)).trans hh, r⟩

theorem cells4 {w1 : World} {B : Nat} {a b c d : Value} {t : TypeId} (h : w1.heap[B]? = some (.cells #[a, b, c, d] t)) :
    w1.cell? ⟨B, 0, none⟩ = some a ∧ w1.cell? ⟨B, 1, none⟩ = some b ∧ w1.cell? ⟨B, 2, none⟩ = some c ∧ w1.cell? ⟨B, 3, none⟩ = some d ∧ w1.frozen? ⟨B, 0, none⟩ = false ∧ w1.frozen? ⟨B, 3, none⟩ = false := by
  simp [World.cell?, World.frozen?, h]

theorem set4 {w1 : World} {B : Nat} {a b c d : Value} {t : TypeId} (h : w1.heap[B]? = some (.cells #[a, b, c, d] t)) (u : Value) : (w1.setCell ⟨B, 3, none⟩ u).heap[B]? = some (.cells #[a, b, c, u] t) := by
  simp [World.setCell, Array.getElem?_modify, h]

end Go.Proofs.Ytfnmkbcdchnnnaa
