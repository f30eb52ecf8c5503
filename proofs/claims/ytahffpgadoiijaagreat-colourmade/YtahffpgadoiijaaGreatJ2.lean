/- Joined: KMp, KMw, Bfs, GeW, GeX, Szs, GeA, AppK, Rep, Has. -/
import Derived.Test.YtahffpgadoiijaaGreatJ1
import Derived.DeepKeys5
import Derived.Laws.StructEq
import Derived.Test.YtahffpgadoiijaaGreatJ0
import Derived.Maps.AppendAt
import Derived.Deep.RegionLaw
import Derived.Deep.RegionWith
import Derived.Deep.RegionHeld3
/- Maps keyed by arrays of twelve integers, whatever their elements: what they hold, as a function of the list. -/
namespace Go.Proofs.YtahffpgadoiijaaGreat
open Go.RowKit Go.Maps

/-- An array of integers, as a value. -/
def kv (q : IntKind) (zs : List Int) : Value := .agg (zs.map (Value.int q)).toArray

theorem mapM_some {α β : Type} (f : α → Option β) : ∀ l : List α, (∀ x, x ∈ l → ∃ y, f x = some y) → ∃ ys, l.mapM f = some ys
  | [], _ => ⟨[], rfl⟩
  | x :: l, h => by
    obtain ⟨y, hy⟩ := h x (by simp)
    obtain ⟨ys, hys⟩ := mapM_some f l (fun z hz => h z (by simp [hz]))
    exact ⟨y :: ys, by rw [List.mapM_cons, hy, hys]; rfl⟩

theorem pos_succ (n : Nat) (h : 0 < n) : ∃ d, n = d + 1 := ⟨n - 1, by omega⟩

/-- What a type of arrays of twelve integers must be. -/
structure KeyT (K E : TypeId) (q : IntKind) : Prop where
  arr : Tryz.prog.underlying K = some (.array 12 E)
  int : Tryz.prog.underlying E = some (.int q)
  cK : Tryz.prog.cellsOf K = 12
  cE : Tryz.prog.cellsOf E = 1
  ok : Tryz.prog.keyType K = true
  low : K < Tryz.prog.types.size
  keyed : Keyed Tryz.prog K

def OkK (q : IntKind) (zs : List Int) : Prop := zs.length = 12 ∧ ∀ z, z ∈ zs → (Lit.int q z).wf = true

theorem KeyT.mk' {K E : TypeId} {q : IntKind} (h : KeyT K E q) {zs : List Int} (hz : OkK q zs) : ∃ l, keyOf Tryz.prog K (kv q zs) = some l := by
  obtain ⟨hl, hw⟩ := hz
  unfold keyOf
  rw [h.arr]
  simp only
  have hf : (kv q zs).formed Tryz.prog K = true := by
    unfold kv Value.formed
    rw [h.arr]
    simp [h.cK, hl]
  rw [h.ok, hf]
  simp only [Bool.and_self, if_true]
  have hkl : ∃ ls, Tryz.prog.keyLits (Tryz.prog.types.size + 1) K (kv q zs).cells.toList = some ls := by
    have hcs : (kv q zs).cells.toList = zs.map (Value.int q) := by simp [kv, Value.cells]
    rw [hcs]
    unfold Program.keyLits
    rw [h.arr]
    simp only
    rw [if_pos (by simp [h.cK, hl])]
    obtain ⟨ys, hys⟩ := mapM_some (fun i => Tryz.prog.keyLits Tryz.prog.types.size E (((zs.map (Value.int q)).drop (i * Tryz.prog.cellsOf E)).take (Tryz.prog.cellsOf E))) (List.range 12) (fun i hi => by
      have hi' : i < zs.length := by rw [hl]; simpa using hi
      refine ⟨[.int q zs[i]], ?_⟩
      rw [h.cE, Nat.mul_one]
      have e : ((zs.map (Value.int q)).drop i).take 1 = [.int q zs[i]] := by
        rw [List.drop_eq_getElem_cons (by simpa using hi')]
        simp
      rw [e]
      obtain ⟨d, hd⟩ : ∃ d, Tryz.prog.types.size = d + 1 := pos_succ _ (Nat.lt_of_le_of_lt (Nat.zero_le _) h.low)
      rw [hd]
      unfold Program.keyLits
      rw [h.int]
      simp [hw zs[i] (List.getElem_mem hi')])
    exact ⟨ys.flatten, by rw [hys]; rfl⟩
  obtain ⟨ls, hls⟩ := hkl
  exact ⟨_, by rw [hls]; rfl⟩

theorem kv_inj {q : IntKind} {xs ys : List Int} (h : kv q xs = kv q ys) : xs = ys := by
  unfold kv at h
  have h1 : (xs.map (Value.int q)).toArray = (ys.map (Value.int q)).toArray := by injection h
  have h2 : xs.map (Value.int q) = ys.map (Value.int q) := by simpa using congrArg Array.toList h1
  exact (List.map_inj_right (fun a b e => by injection e)).1 h2

/-- Block b is a map of at most n entries, which holds what f says. -/
def KMap (K : TypeId) (q : IntKind) (w : World) (b n : Nat) (f : List Int → Option Value) : Prop :=
  ∃ D : DataW Value, w.ownsMap Tryz.prog K heldElem b n D ∧ ∀ zs, OkK q zs → ∀ l, keyOf Tryz.prog K (kv q zs) = some l → Maps.has D l = (f zs).isSome ∧ ∀ v, f zs = some v → ∀ z, D.atKey l z = .held v

section
variable {K E : TypeId} {q : IntKind} {w w' : World} {b n : Nat} {f : List Int → Option Value}

theorem KMap.lt (h : KMap K q w b n f) : b < w.heap.size := by obtain ⟨D, h1, _⟩ := h; exact h1.lt

theorem KMap.of_block (h : KMap K q w b n f) (hb : w'.heap[b]? = w.heap[b]?) : KMap K q w' b n f := by
  obtain ⟨D, ⟨es, c, h1, h2⟩, h3⟩ := h; exact ⟨D, ⟨es, c, hb.trans h1, h2⟩, h3⟩

theorem KMap.alloc (h : KMap K q w b n f) (o : Obj) : KMap K q (w.alloc o) b n f := h.of_block (Below.heap_alloc w o b h.lt)

theorem KMap.below {B : Nat} (h : KMap K q w b n f) (hb : Below B w w') (hB : b < B) : KMap K q w' b n f := h.of_block (hb.block b hB)

theorem KMap.made (K : TypeId) (q : IntKind) (w : World) : KMap K q (w.alloc (.map #[] 0)) w.heap.size 0 (fun _ => none) :=
  ⟨.map [], World.ownsMap_made _ _ _ _, fun zs _ l _ => ⟨rfl, fun v h => by cases h⟩⟩

/-- 'v, ok := m[a]'. -/
theorem KMap.look_ok (hK : KeyT K E q) (h : KMap K q w b n f) {t e : TypeId} (ht : Tryz.prog.underlying t = some (.map K e)) {z : Value} (hz : (zeroValue e).run Tryz.prog w = .ok z w) {zs : List Int} (hzs : OkK q zs) :
    (Instr.lookup t (.map (some b)) (kv q zs) true).run Tryz.prog w = .ok (.tuple #[(f zs).getD z, .bool (f zs).isSome]) w := by
  obtain ⟨D, hD, hf⟩ := h
  obtain ⟨l, hl⟩ := hK.mk' hzs
  obtain ⟨v, ps, hrun, hv⟩ := hD.look_ok hK.keyed ht hz (zd := .held z) (zp := []) rfl hl
  have hv' : DataW.held v = D.atKey l (.held z) := (Prod.mk.inj (Option.some.inj hv)).1
  have hfz := hf zs hzs l hl
  rw [hrun, hfz.1]
  cases hfa : f zs with
  | none =>
    have hh := hfz.1
    rw [hfa] at hh
    rw [atKey_of_not_has hh] at hv'
    rw [DataW.held.inj hv']; rfl
  | some u =>
    rw [hfz.2 u hfa] at hv'
    rw [DataW.held.inj hv']; rfl

def kupd (f : List Int → Option Value) (a : List Int) (v : Value) : List Int → Option Value := fun x => if x = a then some v else f x

/-- 'm[a] = v'. -/
theorem KMap.put (hK : KeyT K E q) (h : KMap K q w b n f) {t e : TypeId} (ht : Tryz.prog.underlying t = some (.map K e)) (hn : n < maxLen) {a : List Int} (ha : OkK q a) (v : Value) :
    ∃ w', (Instr.mapUpdate t (.map (some b)) (kv q a) v).run Tryz.prog w = .ok () w' ∧ KMap K q w' b (n + 1) (kupd f a v) ∧ w.grownBy w' (some b) := by
  obtain ⟨D, hD, hf⟩ := h
  obtain ⟨la, hla⟩ := hK.mk' ha
  obtain ⟨w', hrun, hD', hg⟩ := hD.update (val := v) (d := .held v) (ps := []) hK.keyed ht hn hla rfl
  have hkey : WideAt.IsKeyLit la := hK.keyed.key hla
  refine ⟨w', hrun, ⟨_, hD', fun x hx l hl => ?_⟩, hg⟩
  unfold kupd
  by_cases e : x = a
  · subst e
    rw [if_pos rfl]
    have : l = la := by rw [hl] at hla; exact Option.some.inj hla
    subst this
    exact ⟨has_put_same hD.isMap hkey _, fun u hu z => by rw [← Option.some.inj hu]; exact atKey_put_same hD.isMap hkey _ _⟩
  · have hne : l ≠ la := fun h => e (kv_inj (hK.keyed.inj hl (by rw [h]; exact hla)))
    rw [if_neg e]
    exact ⟨by rw [has_put_other hne]; exact (hf x hx l hl).1, fun u hu z => by rw [atKey_put_other hne]; exact (hf x hx l hl).2 u hu z⟩
end

end Go.Proofs.YtahffpgadoiijaaGreat

/- Maps keyed by arrays: steps (out of TrC, SaB, SaF). -/
namespace Go.Proofs.YtahffpgadoiijaaGreat
open Go.RowKit Go.Maps

section
variable {ops : Array Oper} {rest : List Oper} {o : Oper} {a : Act} {w : World} {Q : Exit → Act → World → Prop} {K E : TypeId} {q : IntKind} {b n : Nat} {f : List Int → Option Value}

theorem wpList_klook (hg : o.guard = none) (m x : Operand) (t : TypeId) (hop : o.op = Op.lookup t m x true) (e : TypeId) (ht : Tryz.prog.underlying t = some (.map K e)) {z : Value} (hz : (zeroValue e).run Tryz.prog w = .ok z w)
    (hK : KeyT K E q) (h : KMap K q w b n f) (zs : List Int) (hzs : OkK q zs) (hm : a.eval m = .map (some b)) (hx : a.eval x = kv q zs)
    (hC : wpList Tryz.prog ops Q rest (a.put o.dst (.tuple #[(f zs).getD z, .bool (f zs).isSome])) w) : wpList Tryz.prog ops Q (o :: rest) a w := by
  refine wpList_plain hg fun K' hK' => ?_
  have hrun := h.look_ok hK ht hz hzs
  unfold Oper.wp
  simp [execOp, hop, hm, hx, hrun, Result.andThen]
  exact hK' _ _ hC

theorem wpList_kput (hg : o.guard = none) (m x v : Operand) (t : TypeId) (hop : o.op = Op.mapUpdate t m x v) (e : TypeId) (ht : Tryz.prog.underlying t = some (.map K e))
    (hK : KeyT K E q) (h : KMap K q w b n f) (hn : n < maxLen) (zs : List Int) (hzs : OkK q zs) (val : Value) (hm : a.eval m = .map (some b)) (hx : a.eval x = kv q zs) (hv : a.eval v = val)
    (hC : ∀ w', KMap K q w' b (n + 1) (kupd f zs val) → w.grownBy w' (some b) → wpList Tryz.prog ops Q rest (a.put o.dst undef) w') : wpList Tryz.prog ops Q (o :: rest) a w := by
  refine wpList_plain hg fun K' hK' => ?_
  obtain ⟨w', hrun, r1, r2⟩ := h.put hK ht hn hzs val
  unfold Oper.wp
  simp [execOp, hop, hm, hx, hv, hrun, Result.andThen]
  exact hK' _ _ (hC w' r1 r2)

theorem wpList_kinsert (hg : o.guard = none) (m x v : Operand) (t : TypeId) (hop : o.op = Op.insert t m x v) (e : TypeId) (ht : Tryz.prog.underlying t = some (.map K e))
    (hK : KeyT K E q) (h : KMap K q w b n f) (hn : n < maxLen) (zs : List Int) (hzs : OkK q zs) (val : Value) (hm : a.eval m = .map (some b)) (hx : a.eval x = kv q zs) (hv : a.eval v = val)
    (hC : ∀ w', KMap K q w' b (n + 1) (kupd f zs val) → w.grownBy w' (some b) → wpList Tryz.prog ops Q rest (a.put o.dst undef) w') : wpList Tryz.prog ops Q (o :: rest) a w := by
  refine wpList_plain hg fun K' hK' => ?_
  obtain ⟨w', hrun, r1, r2⟩ := h.put hK ht hn hzs val
  unfold Oper.wp
  simp [execOp, hop, hm, hx, hv, hrun, Result.andThen]
  exact hK' _ _ (hC w' r1 r2)
end

theorem KMap.kept {K : TypeId} {q : IntKind} {w w' : World} {b n g : Nat} {f : List Int → Option Value} (h : KMap K q w b n f) (hg : w.grownBy w' (some g)) (hne : b ≠ g) : KMap K q w' b n f := h.of_block (hg.block b h.lt (fun e => hne (Option.some.inj e)))

theorem wf_i8_small (m : Nat) (h : m < 12) : (Lit.int .i8 (m : Int)).wf = true := by
  obtain rfl | rfl | rfl | rfl | rfl | rfl | rfl | rfl | rfl | rfl | rfl | rfl : m = 0 ∨ m = 1 ∨ m = 2 ∨ m = 3 ∨ m = 4 ∨ m = 5 ∨ m = 6 ∨ m = 7 ∨ m = 8 ∨ m = 9 ∨ m = 10 ∨ m = 11 := by omega
  all_goals decide

theorem okK_pm (x : Pm) : OkK .i8 x.l := ⟨x.len, fun z hz => by
  have := isRow_lt12 x.row (by rw [x.len]; exact Nat.le_refl _) z hz
  obtain ⟨m, rfl⟩ := Int.eq_ofNat_of_zero_le this.1
  exact wf_i8_small m (by simpa using this.2)⟩

theorem KeyT.lits {K E : TypeId} {q : IntKind} (h : KeyT K E q) {zs : List Int} (hz : OkK q zs) : (kv q zs).formed Tryz.prog K = true ∧ ∃ ls, Tryz.prog.keyLits (Tryz.prog.types.size + 1) K (kv q zs).cells.toList = some ls := by
  obtain ⟨hl, hw⟩ := hz
  have hf : (kv q zs).formed Tryz.prog K = true := by
    unfold kv Value.formed
    rw [h.arr]
    simp [h.cK, hl]
  refine ⟨hf, ?_⟩
  have hcs : (kv q zs).cells.toList = zs.map (Value.int q) := by simp [kv, Value.cells]
  rw [hcs]
  unfold Program.keyLits
  rw [h.arr]
  simp only
  rw [if_pos (by simp [h.cK, hl])]
  obtain ⟨ys, hys⟩ := mapM_some (fun i => Tryz.prog.keyLits Tryz.prog.types.size E (((zs.map (Value.int q)).drop (i * Tryz.prog.cellsOf E)).take (Tryz.prog.cellsOf E))) (List.range 12) (fun i hi => by
    have hi' : i < zs.length := by rw [hl]; simpa using hi
    refine ⟨[.int q zs[i]], ?_⟩
    rw [h.cE, Nat.mul_one]
    have e : ((zs.map (Value.int q)).drop i).take 1 = [.int q zs[i]] := by
      rw [List.drop_eq_getElem_cons (by simpa using hi')]
      simp
    rw [e]
    obtain ⟨d, hd⟩ : ∃ d, Tryz.prog.types.size = d + 1 := pos_succ _ (Nat.lt_of_le_of_lt (Nat.zero_le _) h.low)
    rw [hd]
    unfold Program.keyLits
    rw [h.int]
    simp [hw zs[i] (List.getElem_mem hi')])
  exact ⟨ys.flatten, by rw [hys]; rfl⟩

theorem KeyT.same {K E : TypeId} {q : IntKind} (h : KeyT K E q) {zs zs' : List Int} (hz : OkK q zs) (hz' : OkK q zs') (e : Tryz.prog.keyLits (Tryz.prog.types.size + 1) K (kv q zs).cells.toList = Tryz.prog.keyLits (Tryz.prog.types.size + 1) K (kv q zs').cells.toList) :
    keyOf Tryz.prog K (kv q zs) = keyOf Tryz.prog K (kv q zs') := by
  unfold keyOf
  rw [h.arr]
  simp only
  rw [(h.lits hz).1, (h.lits hz').1, e]

end Go.Proofs.YtahffpgadoiijaaGreat

/- Plain: rows found one behind the other from rounds on, each with the word that led there first. -/
namespace Go.Proofs.YtahffpgadoiijaaGreat

open Classical in
/-- One letter tried on an entry. -/
noncomputable def tryL (e : Pm × List Int) (S : List (Pm × List Int)) (l : Int × Pm) : List (Pm × List Int) :=
  if e.1 * l.2 ∈ S.map (·.1) then S else S ++ [(e.1 * l.2, e.2 ++ [l.1])]

/-- .. and the first j letters. -/
noncomputable def tryTo (L : List (Int × Pm)) (e : Pm × List Int) (S : List (Pm × List Int)) (j : Nat) : List (Pm × List Int) := (L.take j).foldl (tryL e) S

theorem tryTo_succ {L : List (Int × Pm)} {e : Pm × List Int} {S : List (Pm × List Int)} {j : Nat} {l : Int × Pm} (h : L[j]? = some l) : tryTo L e S (j + 1) = tryL e (tryTo L e S j) l := by
  unfold tryTo
  rw [List.take_add_one, h, List.foldl_append]
  rfl

theorem tryL_old {e : Pm × List Int} {S : List (Pm × List Int)} {l : Int × Pm} (h : e.1 * l.2 ∈ S.map (·.1)) : tryL e S l = S := by unfold tryL; rw [if_pos h]
theorem tryL_new {e : Pm × List Int} {S : List (Pm × List Int)} {l : Int × Pm} (h : ¬ e.1 * l.2 ∈ S.map (·.1)) : tryL e S l = S ++ [(e.1 * l.2, e.2 ++ [l.1])] := by unfold tryL; rw [if_neg h]

theorem tryL_more (e : Pm × List Int) (S : List (Pm × List Int)) (l : Int × Pm) : ∃ more, tryL e S l = S ++ more := by
  by_cases h : e.1 * l.2 ∈ S.map (·.1)
  · exact ⟨[], by rw [tryL_old h, List.append_nil]⟩
  · exact ⟨_, tryL_new h⟩

theorem tryL_there (e : Pm × List Int) (S : List (Pm × List Int)) (l : Int × Pm) : e.1 * l.2 ∈ (tryL e S l).map (·.1) := by
  by_cases h : e.1 * l.2 ∈ S.map (·.1)
  · rw [tryL_old h]; exact h
  · rw [tryL_new h]; simp

theorem tryTo_more (L : List (Int × Pm)) (e : Pm × List Int) (S : List (Pm × List Int)) (j : Nat) : ∃ more, tryTo L e S j = S ++ more := by
  unfold tryTo
  generalize L.take j = M
  induction M generalizing S with
  | nil => exact ⟨[], by simp⟩
  | cons l M ih =>
    obtain ⟨m1, h1⟩ := tryL_more e S l
    obtain ⟨m2, h2⟩ := ih (tryL e S l)
    exact ⟨m1 ++ m2, by rw [List.foldl_cons, h2, h1, List.append_assoc]⟩

theorem tryTo_there {L : List (Int × Pm)} (e : Pm × List Int) (S : List (Pm × List Int)) {l : Int × Pm} (hl : l ∈ L) : e.1 * l.2 ∈ (tryTo L e S L.length).map (·.1) := by
  unfold tryTo
  rw [List.take_length]
  induction L generalizing S with
  | nil => cases hl
  | cons x L ih =>
    rw [List.foldl_cons]
    rcases List.mem_cons.1 hl with rfl | hl
    · obtain ⟨more, h⟩ := tryTo_more L e (tryL e S l) L.length
      unfold tryTo at h
      rw [List.take_length] at h
      rw [h, List.map_append]
      exact List.mem_append_left _ (tryL_there e S l)
    · exact ih (tryL e S x) hl

/-- Entries 0 to i - 1 are gone through. -/
inductive Run (L : List (Int × Pm)) : Nat → List (Pm × List Int) → Prop
  | start : Run L 0 [(1, [])]
  | step {i : Nat} {S : List (Pm × List Int)} {e : Pm × List Int} : Run L i S → S[i]? = some e → Run L (i + 1) (tryTo L e S L.length)

theorem Run.det {L : List (Int × Pm)} {i : Nat} {S T : List (Pm × List Int)} (h : Run L i S) (k : Run L i T) : S = T := by
  induction h generalizing T with
  | start => cases k; rfl
  | step _ he ih =>
    cases k with
    | step k' he' =>
      have := ih k'
      subst this
      rw [he] at he'
      rw [Option.some.inj he']

theorem Run.le {L : List (Int × Pm)} {i : Nat} {S : List (Pm × List Int)} (h : Run L i S) : i ≤ S.length := by
  cases h with
  | start => exact Nat.zero_le _
  | step h he =>
    obtain ⟨more, e⟩ := tryTo_more L _ _ L.length
    rw [e, List.length_append]
    have := (List.getElem?_eq_some_iff.1 he).1
    omega

theorem Run.pre {L : List (Int × Pm)} {j : Nat} {T : List (Pm × List Int)} (h : Run L j T) : ∀ i, i ≤ j → ∃ S, Run L i S ∧ ∃ more, T = S ++ more := by
  induction h with
  | start => intro i hi; have : i = 0 := by omega
             subst this; exact ⟨_, Run.start, [], by simp⟩
  | @step j S e0 h he ih =>
    intro i hi
    by_cases e : i ≤ j
    · obtain ⟨S', hS, m1, h1⟩ := ih i e
      obtain ⟨m2, h2⟩ := tryTo_more L e0 S L.length
      exact ⟨S', hS, m1 ++ m2, by rw [h2, h1, List.append_assoc]⟩
    · have e2 : i = j + 1 := by omega
      subst e2
      exact ⟨_, Run.step h he, [], by simp⟩

/-- Whoever has gone through all has found the same. -/
theorem Run.unique {L : List (Int × Pm)} {i j : Nat} {S T : List (Pm × List Int)} (h : Run L i S) (k : Run L j T) (hi : S.length ≤ i) (hj : T.length ≤ j) : S = T := by
  have key : ∀ {i j : Nat} {S T : List (Pm × List Int)}, Run L i S → Run L j T → S.length ≤ i → i ≤ j → i = j := fun {i j S T} h k hi hij => by
    rcases Nat.lt_or_ge i j with hlt | hge
    · obtain ⟨S', h', _⟩ := k.pre (i + 1) hlt
      cases h' with
      | step h'' he =>
        rw [h.det h''] at hi
        have := (List.getElem?_eq_some_iff.1 he).1
        omega
    · omega
  rcases Nat.le_total i j with hij | hij
  · have := key h k hi hij
    subst this; exact h.det k
  · have := key k h hj hij
    subst this; exact h.det k

structure RunOk (L : List (Int × Pm)) (S : List (Pm × List Int)) : Prop where
  nodup : (S.map (·.1)).Nodup
  gen : ∀ e, e ∈ S → Gen (fun x => ∃ l, l ∈ L ∧ l.2 = x) e.1
  first : (1, []) ∈ S

theorem Gen.right {T : Pm → Prop} {x y : Pm} (hx : Gen T x) (hy : T y) : Gen T (x * y) := Gen.mul' hx (Gen.of hy)

theorem RunOk.tryL {L : List (Int × Pm)} {S : List (Pm × List Int)} (h : RunOk L S) {e : Pm × List Int} (he : Gen (fun x => ∃ l, l ∈ L ∧ l.2 = x) e.1) {l : Int × Pm} (hl : l ∈ L) : RunOk L (tryL e S l) := by
  by_cases hc : e.1 * l.2 ∈ S.map (·.1)
  · rw [tryL_old hc]; exact h
  · rw [tryL_new hc]
    refine ⟨?_, ?_, List.mem_append_left _ h.first⟩
    · rw [List.map_append, List.nodup_append]
      refine ⟨h.nodup, by simp, fun a ha b hb e' => hc ?_⟩
      have : b = e.1 * l.2 := by simpa using hb
      rw [← this, ← e']; exact ha
    · intro x hx
      rcases List.mem_append.1 hx with hx | hx
      · exact h.gen x hx
      · rw [List.mem_singleton.1 hx]; exact Gen.right he ⟨l, hl, rfl⟩

theorem RunOk.tryTo {L : List (Int × Pm)} {S : List (Pm × List Int)} (h : RunOk L S) {e : Pm × List Int} (he : Gen (fun x => ∃ l, l ∈ L ∧ l.2 = x) e.1) (j : Nat) : RunOk L (tryTo L e S j) := by
  have key : ∀ (M : List (Int × Pm)) (S : List (Pm × List Int)), (∀ l, l ∈ M → l ∈ L) → RunOk L S → RunOk L (M.foldl (Proofs.YtahffpgadoiijaaGreat.tryL e) S) := by
    intro M
    induction M with
    | nil => intro S _ h; exact h
    | cons l M ih => intro S hM h; exact ih _ (fun x hx => hM x (by simp [hx])) (h.tryL he (hM l (by simp)))
  exact key _ S (fun l hl => List.mem_of_mem_take hl) h

theorem Run.ok {L : List (Int × Pm)} {i : Nat} {S : List (Pm × List Int)} (h : Run L i S) : RunOk L S := by
  induction h with
  | start => exact ⟨by simp, fun e he => by rw [List.mem_singleton.1 he]; exact Gen.one, by simp⟩
  | step h he ih => exact ih.tryTo (ih.gen _ (List.mem_of_getElem? he)) _

theorem Run.done {L : List (Int × Pm)} {i : Nat} {S : List (Pm × List Int)} (h : Run L i S) : ∀ k e, k < i → S[k]? = some e → ∀ l, l ∈ L → e.1 * l.2 ∈ S.map (·.1) := by
  induction h with
  | start => intro k e hk; omega
  | @step i S e0 h he ih =>
    intro k e hk hke l hl
    obtain ⟨more, hm⟩ := tryTo_more L e0 S L.length
    by_cases hki : k = i
    · subst hki
      have : e = e0 := by
        rw [hm, List.getElem?_append_left (List.getElem?_eq_some_iff.1 he).1, he] at hke
        exact (Option.some.inj hke).symm
      subst this
      exact tryTo_there e S hl
    · have hkS : k < S.length := by have := (List.getElem?_eq_some_iff.1 he).1; omega
      rw [hm, List.getElem?_append_left hkS] at hke
      rw [hm, List.map_append]
      exact List.mem_append_left _ (ih k e (by omega) hke l hl)

/-- Whoever has gone through all has found all. -/
theorem Run.all {L : List (Int × Pm)} {i : Nat} {S : List (Pm × List Int)} (h : Run L i S) (hi : S.length ≤ i) (x : Pm) : x ∈ S.map (·.1) ↔ Gen (fun x => ∃ l, l ∈ L ∧ l.2 = x) x := by
  constructor
  · intro hx
    obtain ⟨e, he, rfl⟩ := List.mem_map.1 hx
    exact h.ok.gen e he
  · intro hx
    have closed : ∀ y, y ∈ S.map (·.1) → ∀ l, l ∈ L → y * l.2 ∈ S.map (·.1) := fun y hy l hl => by
      obtain ⟨e, he, rfl⟩ := List.mem_map.1 hy
      obtain ⟨k, hk, rfl⟩ := List.getElem_of_mem he
      exact h.done k _ (by omega) (List.getElem?_eq_getElem hk) l hl
    have right : ∀ z, Gen (fun x => ∃ l, l ∈ L ∧ l.2 = x) z → ∀ y, y ∈ S.map (·.1) → y * z ∈ S.map (·.1) := by
      intro z hz
      induction hz with
      | one => intro y hy; rw [Pm.mul_one]; exact hy
      | mul hs _ ih =>
        intro y hy
        obtain ⟨l, hl, rfl⟩ := hs
        rw [← Pm.mul_assoc]
        exact ih _ (closed y hy l hl)
    have := right x hx 1 (List.mem_map.2 ⟨_, h.ok.first, rfl⟩)
    rwa [Pm.one_mul] at this

end Go.Proofs.YtahffpgadoiijaaGreat

/- Plain: how each row was come to first, and its word from that. -/
namespace Go.Proofs.YtahffpgadoiijaaGreat

/-- The letters of a group: each generator, and what undoes it. -/
noncomputable def glet : Nat → List Pm → List (Int × Pm)
  | _, [] => []
  | k, x :: t => ((k : Int) + 1, x) :: (-(k : Int) - 1, x⁻¹) :: glet (k + 1) t

theorem glet_length (k : Nat) (gs : List Pm) : (glet k gs).length = 2 * gs.length := by
  induction gs generalizing k with
  | nil => rfl
  | cons x t ih => rw [glet, List.length_cons, List.length_cons, ih, List.length_cons]; omega

theorem glet_even {k j : Nat} {gs : List Pm} {x : Pm} (h : gs[j]? = some x) : (glet k gs)[2 * j]? = some (((k + j : Nat) : Int) + 1, x) := by
  induction gs generalizing k j with
  | nil => simp at h
  | cons y t ih =>
    cases j with
    | zero => simp at h; subst h; simp [glet]
    | succ j =>
      rw [List.getElem?_cons_succ] at h
      rw [show 2 * (j + 1) = 2 * j + 1 + 1 by omega, glet, List.getElem?_cons_succ, List.getElem?_cons_succ, ih h]
      rw [show k + 1 + j = k + (j + 1) by omega]

theorem glet_odd {k j : Nat} {gs : List Pm} {x : Pm} (h : gs[j]? = some x) : (glet k gs)[2 * j + 1]? = some (-((k + j : Nat) : Int) - 1, x⁻¹) := by
  induction gs generalizing k j with
  | nil => simp at h
  | cons y t ih =>
    cases j with
    | zero => simp at h; subst h; simp [glet]
    | succ j =>
      rw [List.getElem?_cons_succ] at h
      rw [show 2 * (j + 1) + 1 = (2 * j + 1) + 1 + 1 by omega, glet, List.getElem?_cons_succ, List.getElem?_cons_succ, ih h]
      rw [show k + 1 + j = k + (j + 1) by omega]

/-- How each row was come to: by which row, and by which letter. -/
structure Came {V : Type} (sv : Pm → Int → V) (S : List (Pm × List Int)) (f : List Int → Option V) : Prop where
  some : ∀ x : Pm, (f x.l).isSome = true ↔ x ∈ S.map (·.1)
  back : ∀ e, e ∈ S → e.1 ≠ 1 → ∃ y wd l, (y, wd) ∈ S ∧ e.2 = wd ++ [l] ∧ f e.1.l = Option.some (sv y l)

theorem Pm.l_inj {x y : Pm} (h : x.l = y.l) : x = y := by
  cases x; cases y
  simp only at h
  subst h
  rfl

theorem Came.start {V : Type} {sv : Pm → Int → V} (v0 : V) : Came sv [(1, [])] (fun x => if x = (1 : Pm).l then Option.some v0 else none) := by
  refine ⟨fun x => ?_, fun e he h => ?_⟩
  · by_cases h : x.l = (1 : Pm).l
    · have := Pm.l_inj h
      subst this
      simp
    · rw [if_neg h]
      constructor
      · intro h'; cases h'
      · intro h'
        have h'' : x = 1 := by simpa using h'
        exact absurd (by rw [h'']) h
  · rw [List.mem_singleton.1 he] at h
    exact absurd rfl h

theorem Came.grow {V : Type} {sv : Pm → Int → V} {S : List (Pm × List Int)} {f f' : List Int → Option V} (h : Came sv S f) {e : Pm × List Int} {l : Int × Pm} (he : e ∈ S) (hn : ¬ e.1 * l.2 ∈ S.map (·.1))
    (hf : f' = fun x => if x = (e.1 * l.2).l then Option.some (sv e.1 l.1) else f x) : Came sv (S ++ [(e.1 * l.2, e.2 ++ [l.1])]) f' := by
  subst hf
  refine ⟨fun x => ?_, fun d hd h1 => ?_⟩
  · by_cases hx : x.l = (e.1 * l.2).l
    · have := Pm.l_inj hx
      subst this
      simp
    · rw [if_neg hx, h.some x, List.map_append, List.mem_append]
      constructor
      · exact Or.inl
      · rintro (h' | h')
        · exact h'
        · have h'' : x = e.1 * l.2 := by simpa using h'
          exact absurd (by rw [h'']) hx
  · rcases List.mem_append.1 hd with hd | hd
    · obtain ⟨y, wd, l', h2, h3, h4⟩ := h.back d hd h1
      refine ⟨y, wd, l', List.mem_append_left _ h2, h3, ?_⟩
      have hne : d.1.l ≠ (e.1 * l.2).l := fun e' => hn (by rw [← Pm.l_inj e']; exact List.mem_map.2 ⟨d, hd, rfl⟩)
      rw [if_neg hne]
      exact h4
    · rw [List.mem_singleton.1 hd]
      exact ⟨e.1, e.2, l.1, List.mem_append_left _ he, rfl, by rw [if_pos rfl]⟩

theorem pair_eq {S : List (Pm × List Int)} (hn : (S.map (·.1)).Nodup) {x : Pm} {a b : List Int} (ha : (x, a) ∈ S) (hb : (x, b) ∈ S) : a = b := by
  induction S with
  | nil => cases ha
  | cons e S ih =>
    rw [List.map_cons, List.nodup_cons] at hn
    rcases List.mem_cons.1 ha with h1 | h1
    · rcases List.mem_cons.1 hb with h2 | h2
      · rw [← h1] at h2; exact (Prod.mk.inj h2).2.symm
      · exact absurd (List.mem_map.2 ⟨_, h2, rfl⟩) (by rw [← h1] at hn; exact hn.1)
    · rcases List.mem_cons.1 hb with h2 | h2
      · exact absurd (List.mem_map.2 ⟨_, h1, rfl⟩) (by rw [← h2] at hn; exact hn.1)
      · exact ih hn.2 h1 h2

end Go.Proofs.YtahffpgadoiijaaGreat

/- A group's packed rows as keys of a map, and held against each other. -/
namespace Go.Proofs.YtahffpgadoiijaaGreat
open Go.RowKit Go.Maps Go.ChangeMaps
open Go.WideElems (rg)

theorem laidG : laidOutB Tryz.prog = true := by kernel_rfl

theorem gkeyT : KeyT 78 76 .i8 where
  arr := Tryz.underlying78
  int := Tryz.underlying76
  cK := by kernel_rfl
  cE := by kernel_rfl
  ok := by kernel_rfl
  low := of_decide_eq_true (by kernel_rfl)
  keyed := Keyed.of_law (deep_law_gate laidG (of_decide_eq_true (by kernel_rfl)) (of_decide_eq_true (by kernel_rfl)) (by kernel_rfl) (by rw [Tryz.underlying78]))

theorem gpeq (x y : Pm) (w : World) : ∃ r : Bool, (binOp .eql 78 (.agg (i8s x.l)) (.agg (i8s y.l))).run Tryz.prog w = .ok (.bool r) w ∧ (r = true ↔ x = y) := by
  obtain ⟨f1, l1, h1⟩ := gkeyT.lits (okK_pm x)
  obtain ⟨f2, l2, h2⟩ := gkeyT.lits (okK_pm y)
  obtain ⟨r, hr, hiff⟩ := run_equalIn_deep (P := Tryz.prog) 9997 3 78 (by kernel_rfl) w _ _ _ _ l1 l2 f1 f2 h1 h2
  refine ⟨r, ?_, hiff.trans ⟨fun e => ?_, fun e => ?_⟩⟩
  · rw [run_eql_struct]
    have hr' : (Op.equalIn 10000 78 (.agg (i8s x.l)) (.agg (i8s y.l))).run Tryz.prog w = .ok r w := hr
    rw [hr']
    rfl
  · obtain ⟨lx, hx⟩ : ∃ l, keyOf Tryz.prog 78 (pv x) = some l := gkeyT.mk' (okK_pm x)
    have hk := gkeyT.same (okK_pm x) (okK_pm y) (by rw [h1, h2, e])
    exact Pm.eq_of_l (kv_inj (gkeyT.keyed.inj hx (hk ▸ hx)))
  · subst e
    rw [h1] at h2
    exact Option.some.inj h2

/-- How a row was come to, as it lies. -/
def sv (y : Pm) (l : Int) : Value := .agg ((y.l.map (Value.int .i8)).toArray.push (.int .i64 l))

end Go.Proofs.YtahffpgadoiijaaGreat

/- Plain: a group's size as the product of how many bells come to each place while those ahead stay. -/
namespace Go.Proofs.YtahffpgadoiijaaGreat

/-- Those that leave the first k bells. -/
def Low (G : Pm → Prop) (k : Nat) (x : Pm) : Prop := G x ∧ ∀ b, b < k → x.act b = b

/-- Which bells they bring to the k-th place. -/
def Orb (G : Pm → Prop) (k b : Nat) : Prop := ∃ x, Low G k x ∧ x.act k = b

open Classical in
noncomputable def orbL (G : Pm → Prop) (k : Nat) : List Nat := (List.range 12).filter (fun b => decide (Orb G k b))

noncomputable def oc (G : Pm → Prop) (k : Nat) : Nat := (orbL G k).length

noncomputable def sz (G : Pm → Prop) : Nat → Nat
  | 0 => 1
  | n + 1 => sz G n * oc G n

theorem mem_orbL {G : Pm → Prop} {k b : Nat} (hk : k < 12) : b ∈ orbL G k ↔ Orb G k b := by
  unfold orbL
  rw [List.mem_filter, List.mem_range, @decide_eq_true_iff _ (Classical.propDecidable _)]
  exact ⟨fun h => h.2, fun h => ⟨by obtain ⟨x, _, e⟩ := h; rw [← e]; exact x.act_lt hk, h⟩⟩

theorem orbL_nodup (G : Pm → Prop) (k : Nat) : (orbL G k).Nodup := List.Nodup.sublist List.filter_sublist List.nodup_range

theorem oc_of {G : Pm → Prop} {k : Nat} (hk : k < 12) {l : List Nat} (hn : l.Nodup) (h : ∀ b, b ∈ l ↔ Orb G k b) : l.length = oc G k :=
  Nat.le_antisymm (nodup_len l (orbL G k) hn (fun b hb => (mem_orbL hk).2 ((h b).1 hb))) (nodup_len (orbL G k) l (orbL_nodup G k) (fun b hb => (h b).2 ((mem_orbL hk).1 hb)))

theorem low_sub {G : Pm → Prop} (hG : Sub G) (k : Nat) : Sub (Low G k) :=
  ⟨⟨hG.one, fun b _ => Pm.act_one b⟩, fun hx hy => ⟨hG.mul hx.1 hy.1, fun b hb => by rw [Pm.act_mul, hy.2 b hb, hx.2 b hb]⟩, fun {x} hx => ⟨hG.inv hx.1, fun b hb => by have h := hx.2 b hb; rw [← h, Pm.inv_act, h]⟩⟩

theorem oc_pos {G : Pm → Prop} (hG : Sub G) {k : Nat} (hk : k < 12) : 1 ≤ oc G k := by
  have : k ∈ orbL G k := (mem_orbL hk).2 ⟨1, (low_sub hG k).one, Pm.act_one k⟩
  exact List.length_pos_of_mem this

theorem orb_mono {G H : Pm → Prop} (h : ∀ x, G x → H x) {k b : Nat} (ho : Orb G k b) : Orb H k b := by
  obtain ⟨x, hx, e⟩ := ho
  exact ⟨x, ⟨h x hx.1, hx.2⟩, e⟩

theorem oc_mono {G H : Pm → Prop} (h : ∀ x, G x → H x) {k : Nat} (hk : k < 12) : oc G k ≤ oc H k :=
  nodup_len _ _ (orbL_nodup G k) (fun _ hb => (mem_orbL hk).2 (orb_mono h ((mem_orbL hk).1 hb)))

theorem sz_pos {G : Pm → Prop} (hG : Sub G) {n : Nat} (hn : n ≤ 12) : 1 ≤ sz G n := by
  induction n with
  | zero => exact Nat.le_refl _
  | succ n ih => exact Nat.mul_pos (ih (by omega)) (oc_pos hG (by omega))

theorem sz_mono {G H : Pm → Prop} (h : ∀ x, G x → H x) {n : Nat} (hn : n ≤ 12) : sz G n ≤ sz H n := by
  induction n with
  | zero => exact Nat.le_refl _
  | succ n ih => exact Nat.mul_le_mul (ih (by omega)) (oc_mono h (by omega))

theorem sz_congr {G H : Pm → Prop} (h : ∀ x, G x ↔ H x) (n : Nat) : sz G n = sz H n := by
  have : G = H := funext (fun x => propext (h x))
  rw [this]

theorem oc_eq {G H : Pm → Prop} (hG : Sub G) (h : ∀ x, G x → H x) {n : Nat} (hn : n ≤ 12) (he : sz G n = sz H n) : ∀ k, k < n → oc G k = oc H k := by
  induction n with
  | zero => intro k hk; omega
  | succ n ih =>
    have h1 := sz_mono h (n := n) (by omega)
    have h2 := oc_mono h (k := n) (by omega)
    have p1 := sz_pos hG (n := n) (by omega)
    have p2 := oc_pos hG (k := n) (by omega)
    have he' : sz G n * oc G n = sz H n * oc H n := he
    have e1 : sz G n = sz H n := by
      rcases Nat.lt_or_ge (sz G n) (sz H n) with hlt | hge
      · have h3 : sz G n * oc G n < sz H n * oc G n := Nat.mul_lt_mul_of_pos_right hlt p2
        have h4 : sz H n * oc G n ≤ sz H n * oc H n := Nat.mul_le_mul_left _ h2
        omega
      · omega
    have e2 : oc G n = oc H n := by
      rw [e1] at he' p1
      exact Nat.eq_of_mul_eq_mul_left p1 he'
    intro k hk
    by_cases e : k = n
    · rw [e]; exact e2
    · exact ih (by omega) e1 k (by omega)

/-- A part of a group that is as great is the group. -/
theorem sz_all {G H : Pm → Prop} (hG : Sub G) (hH : Sub H) (h : ∀ x, G x → H x) {n : Nat} (hn : n ≤ 12) (hf : ∀ x, H x → Fixes (fun b => n ≤ b) x) (he : sz G n = sz H n) : ∀ x, H x → G x := by
  have hoc := oc_eq hG h hn he
  have key : ∀ d k, k + d = n → ∀ x, Low H k x → G x := by
    intro d
    induction d with
    | zero =>
      intro k hk x hx
      have : x = 1 := Pm.ext' (fun b _ => by
        rw [Pm.act_one]
        rcases Nat.lt_or_ge b n with hb | hb
        · exact hx.2 b (by omega)
        · exact hf x hx.1 b hb)
      rw [this]; exact hG.one
    | succ d ih =>
      intro k hk x hx
      have hk12 : k < 12 := by omega
      have hin : x.act k ∈ orbL H k := (mem_orbL hk12).2 ⟨x, hx, rfl⟩
      have hsub : ∀ b, b ∈ orbL H k → b ∈ orbL G k := by
        have hp := perm_of_sub (orbL G k) (orbL H k) (orbL_nodup G k) (fun b hb => (mem_orbL hk12).2 (orb_mono h ((mem_orbL hk12).1 hb))) (hoc k (by omega))
        exact fun b hb => hp.mem_iff.2 hb
      obtain ⟨u, hu, eu⟩ := (mem_orbL hk12).1 (hsub _ hin)
      have hlow : Low H (k + 1) (u⁻¹ * x) := by
        have h1 := (low_sub hH k).mul ((low_sub hH k).inv ⟨h u hu.1, hu.2⟩) hx
        refine ⟨h1.1, fun b hb => ?_⟩
        rcases Nat.lt_or_ge b k with hbk | hbk
        · exact h1.2 b hbk
        · have : b = k := by omega
          subst this
          rw [Pm.act_mul, ← eu, Pm.inv_act]
      have := hG.mul hu.1 (ih (k + 1) (by omega) _ hlow)
      rwa [Pm.mul_inv_cancel] at this
  exact fun x hx => key n 0 (by omega) x ⟨hx, fun b hb => by omega⟩

/-! the chain's own size -/

theorem low_plus {G : Pm → Prop} {k : Nat} {x : Pm} : Low G (k + 1) x ↔ Low G k x ∧ x.act k = k :=
  ⟨fun h => ⟨⟨h.1, fun b hb => h.2 b (by omega)⟩, h.2 k (by omega)⟩, fun h => ⟨h.1.1, fun b hb => by
    rcases Nat.lt_or_ge b k with h1 | h1
    · exact h.1.2 b h1
    · have : b = k := by omega
      subst this; exact h.2⟩⟩

/-- Of a whole chain: those that leave the first base are those of the rest; the table has just the bells that come there. -/
theorem whole_low {F : Nat → Prop} {l : Lk} {c : List Lk} (h : Whole F (l :: c)) (x : Pm) : Prd c x ↔ Prd (l :: c) x ∧ x.act l.base = l.base := by
  constructor
  · intro hx
    exact ⟨⟨_, h.1.first, x, hx, by rw [Pm.one_mul]⟩, (fixes_plus.1 (prd_fix h.2.1 hx)).2⟩
  · rintro ⟨⟨e, he, y, hy, rfl⟩, hb⟩
    have hy2 := (fixes_plus.1 (prd_fix h.2.1 hy)).2
    rw [Pm.act_mul, hy2, h.1.brings e he] at hb
    have e1 : e.2 = 1 := tab_eq h.1.nodup (b := l.base) (by rw [← hb]; exact he) h.1.first
    rw [e1, Pm.one_mul]; exact hy

theorem whole_orb {F : Nat → Prop} {l : Lk} {c : List Lk} (h : Whole F (l :: c)) (b : Nat) : b ∈ l.tab.map (·.1) ↔ ∃ x, Prd (l :: c) x ∧ x.act l.base = b := by
  constructor
  · intro hb
    obtain ⟨e, he, rfl⟩ := List.mem_map.1 hb
    exact ⟨e.2, ⟨e, he, 1, (prd_sub h.2.1).one, by rw [Pm.mul_one]⟩, h.1.brings e he⟩
  · rintro ⟨x, ⟨e, he, y, hy, rfl⟩, rfl⟩
    have hy2 := (fixes_plus.1 (prd_fix h.2.1 hy)).2
    rw [Pm.act_mul, hy2, h.1.brings e he]
    exact List.mem_map.2 ⟨e, he, rfl⟩

def tabs : List Lk → Nat
  | [] => 1
  | l :: c => l.tab.length * tabs c

theorem sz_tabs {G : Pm → Prop} : ∀ (c : List Lk) (k : Nat) (F : Nat → Prop), Whole F c → c.map (·.base) = (List.range c.length).map (fun i => k + i) → k + c.length ≤ 12 → (∀ x, Prd c x ↔ Low G k x) → sz G (k + c.length) = sz G k * tabs c
  | [], k, F, _, _, _, _ => by show sz G k = sz G k * 1; rw [Nat.mul_one]
  | l :: c, k, F, hw, hb, h12, hG => by
    have hb0 : l.base = k := by
      have := congrArg (fun m => m[0]?) hb
      simpa using this
    have hb1 : c.map (·.base) = (List.range c.length).map (fun i => (k + 1) + i) := by
      have := congrArg List.tail hb
      rw [List.map_cons, List.tail_cons, List.length_cons, List.range_succ_eq_map, List.map_cons, List.tail_cons, List.map_map] at this
      rw [this]
      apply List.map_congr_left
      intro i _
      show k + (i + 1) = k + 1 + i
      omega
    have hlen : (l :: c).length = c.length + 1 := rfl
    have hk : k < 12 := by rw [hlen] at h12; omega
    have hlow : ∀ x, Prd c x ↔ Low G (k + 1) x := fun x => by
      rw [whole_low hw x, hG x, low_plus, hb0]
    have hoc : l.tab.length = oc G k := by
      have := oc_of (G := G) hk hw.1.nodup (fun b => by
        rw [whole_orb hw b, hb0]
        exact ⟨fun ⟨x, hx, e⟩ => ⟨x, (hG x).1 hx, e⟩, fun ⟨x, hx, e⟩ => ⟨x, (hG x).2 hx, e⟩⟩)
      rwa [List.length_map] at this
    have ih := sz_tabs c (k + 1) _ hw.2.1 hb1 (by rw [hlen] at h12; omega) hlow
    rw [hlen, show k + (c.length + 1) = k + 1 + c.length from by omega, ih]
    show sz G k * oc G k * tabs c = sz G k * (l.tab.length * tabs c)
    rw [hoc, Nat.mul_assoc]

end Go.Proofs.YtahffpgadoiijaaGreat

/- Plain: all rows of a chain. -/
namespace Go.Proofs.YtahffpgadoiijaaGreat

/-- All rows of a chain, as the code lays them. -/
def allC : List Lk → List Pm
  | [] => [1]
  | l :: c => l.tab.flatMap (fun e => (allC c).map (fun p => e.2 * p))

theorem mem_allC : ∀ (c : List Lk) (x : Pm), x ∈ allC c ↔ Prd c x
  | [], x => by simp [allC, Prd]
  | l :: c, x => by
    simp only [allC, Prd, List.mem_flatMap, List.mem_map]
    constructor
    · rintro ⟨e, he, p, hp, rfl⟩
      exact ⟨e, he, p, (mem_allC c p).1 hp, rfl⟩
    · rintro ⟨e, he, p, hp, rfl⟩
      exact ⟨e, he, p, (mem_allC c p).2 hp, rfl⟩

theorem flat_len {α β : Type} (f : α → List β) (m : Nat) : ∀ (l : List α), (∀ e, e ∈ l → (f e).length = m) → (l.flatMap f).length = l.length * m
  | [], _ => by simp
  | e :: l, h => by
    rw [List.flatMap_cons, List.length_append, h e (by simp), flat_len f m l (fun x hx => h x (by simp [hx])), List.length_cons, Nat.succ_mul, Nat.add_comm]

theorem allC_len : ∀ (c : List Lk), (allC c).length = tabs c
  | [] => rfl
  | l :: c => by
    show (l.tab.flatMap _).length = l.tab.length * tabs c
    rw [flat_len _ (tabs c) l.tab (fun e _ => by rw [List.length_map, allC_len c])]

theorem nodup_flat {α : Type} (B : Nat × Pm → List Pm) (k : Pm → α) (key : Nat × Pm → α) : ∀ (l : List (Nat × Pm)), (l.map key).Nodup → (∀ e, e ∈ l → (B e).Nodup) → (∀ e, e ∈ l → ∀ x, x ∈ B e → k x = key e) → (l.flatMap B).Nodup
  | [], _, _, _ => by simp
  | e :: l, h, h1, h2 => by
    rw [List.flatMap_cons, List.nodup_append]
    rw [List.map_cons, List.nodup_cons] at h
    refine ⟨h1 e (by simp), nodup_flat B k key l h.2 (fun x hx => h1 x (by simp [hx])) (fun x hx => h2 x (by simp [hx])), fun a ha b hb hab => ?_⟩
    subst hab
    obtain ⟨e', he', hm⟩ := List.mem_flatMap.1 hb
    exact h.1 (List.mem_map.2 ⟨e', he', by rw [← h2 e' (by simp [he']) a hm, h2 e (by simp) a ha]⟩)

theorem nodup_mulL (e : Pm) : ∀ (l : List Pm), l.Nodup → (l.map (fun p => e * p)).Nodup
  | [], _ => by simp
  | a :: l, h => by
    rw [List.nodup_cons] at h
    rw [List.map_cons, List.nodup_cons]
    refine ⟨fun hm => ?_, nodup_mulL e l h.2⟩
    obtain ⟨b, hb, hab⟩ := List.mem_map.1 hm
    exact h.1 (Pm.mul_cancel hab ▸ hb)

theorem allC_nodup {F : Nat → Prop} : ∀ (c : List Lk), Whole F c → (allC c).Nodup
  | [], _ => by simp [allC]
  | l :: c, h => by
    refine nodup_flat _ (fun x => x.act l.base) (·.1) l.tab h.1.nodup (fun e _ => nodup_mulL _ _ (allC_nodup c h.2.1)) (fun e he x hx => ?_)
    obtain ⟨p, hp, rfl⟩ := List.mem_map.1 hx
    have hf := prd_fix h.2.1 ((mem_allC c p).1 hp)
    rw [Pm.act_mul, hf l.base (Or.inr rfl), h.1.brings e he]

end Go.Proofs.YtahffpgadoiijaaGreat

/- append, and where the new slice lies. -/
namespace Go.Proofs.YtahffpgadoiijaaGreat
open Go.RowKit

theorem run_append_keep {P : Program} (w : World) (base : Nat) (t ty e : TypeId) (i : TypeInfo) (z : Value) (size bytes : Nat) (ht : P.underlying t = some (.slice e)) (hi : P.info? e = some i) (hz : i.zero = some z)
    (hsize : i.size = size) (hby : i.bytes = bytes) (hzs : z.cells.size = size) (hsz : 0 < size)
    (v : Value) (n : Nat) (xs : List Value) (hown : w.ownsRow base e size v n xs)
    (a : Addr) (m c : Nat) (news : List Value) (hl : news.length = m * size) (hnews : ∀ j u, news[j]? = some u → w.cell? (a.add j) = some u) (h1 : ∀ u ∈ news, u.oneCell' = true)
    (h63 : n + m ≤ maxLen) (hbytes : (n + m) * bytes ≤ 140737488355328) (hbase : base ≤ w.heap.size) :
    ∃ v' w', (Builtin.append_ #[t, t] ty #[v, .slice (some a) m c]).run P w = .ok v' w' ∧ w'.ownsRow base e size v' (n + m) (xs ++ news) ∧ w.grownBy w' v.ownBlock ∧
      (v'.ownBlock = v.ownBlock ∨ (v'.ownBlock = some w.heap.size ∧ w.grownBy w' none)) := by
  obtain ⟨v', w', hr, h2, h3, _, h5⟩ := run_append_own_at (P := P) w base t ty e i z size bytes ht hi hz hsize hby hzs hsz v n xs hown a m c news hl hnews h1 h63 hbytes hbase
  refine ⟨v', w', hr, h2, h3, ?_⟩
  subst hsize
  subst hby
  rcases hown.2 with ⟨rfl, rfl⟩ | ⟨g, cap, cur, rfl, hbg, hg, hnc, hcm, hcs, htake⟩
  · exact h5.imp id (fun h => ⟨h, h3⟩)
  · by_cases hroom : n + m ≤ cap
    · have hfit : n * i.size + news.length ≤ cur.size := by rw [hl, hcs, ← Nat.add_mul]; exact Nat.mul_le_mul_right _ hroom
      have hr' := run_append_room (P := P) w t ty e i ht hi g n cap cur hg a m c news hl hnews h1 hroom hfit
      rw [hr] at hr'
      obtain ⟨e1, _⟩ := Result.ok.inj hr'
      left; rw [e1]; rfl
    · have holds : ∀ j u, xs[j]? = some u → w.cell? ((⟨g, 0, none⟩ : Addr).add j) = some u := hown.cells (g := g) rfl
      have hsmall : n + m ≤ 9223372036854775807 := by simp only [maxLen] at h63; omega
      have hr' := run_append_grow (P := P) w t ty e i z ht hi hz ⟨g, 0, none⟩ n cap xs hown.1 holds a m c news hl hnews (by omega) (by omega) (growslice_fits (by omega) hbytes)
      rw [hr] at hr'
      obtain ⟨e1, e2⟩ := Result.ok.inj hr'
      right
      rw [e1, e2]
      exact ⟨rfl, ⟨rfl, rfl, rfl, by simp, fun k hk _ => Below.heap_alloc w.drew _ k hk⟩⟩

theorem wpList_append_keep {P : Program} (w : World) {ops : Array Oper} {rest : List Oper} {o : Oper} {a : Act} {Q : Exit → Act → World → Prop} (hgd : o.guard = none) (s x : Operand) (t : TypeId)
    (ho : o.op = .call { callee := .builtin .append, args := #[s, x], argTypes := #[t, t] })
    (base : Nat) (e : TypeId) (i : TypeInfo) (z : Value) (size bytes : Nat) (ht : P.underlying t = some (.slice e)) (hi : P.info? e = some i) (hz : i.zero = some z)
    (hsize : i.size = size) (hby : i.bytes = bytes) (hzs : z.cells.size = size) (hsz : 0 < size)
    (v : Value) (n : Nat) (xs : List Value) (hs : a.eval s = v) (hown : w.ownsRow base e size v n xs)
    (ad : Addr) (m c : Nat) (news : List Value) (hx : a.eval x = .slice (some ad) m c) (hl : news.length = m * size) (hnews : ∀ j u, news[j]? = some u → w.cell? (ad.add j) = some u) (h1 : ∀ u ∈ news, u.oneCell' = true)
    (h63 : n + m ≤ maxLen) (hbytes : (n + m) * bytes ≤ 140737488355328) (hbase : base ≤ w.heap.size)
    (h : ∀ v' w', w'.ownsRow base e size v' (n + m) (xs ++ news) → w.grownBy w' v.ownBlock → (v'.ownBlock = v.ownBlock ∨ (v'.ownBlock = some w.heap.size ∧ w.grownBy w' none)) → wpList P ops Q rest (a.put o.dst v') w') :
    wpList P ops Q (o :: rest) a w := by
  refine wpList_plain hgd fun K hK => ?_
  obtain ⟨v', w', hr, h2, h3, h4⟩ := run_append_keep (P := P) w base t o.type e i z size bytes ht hi hz hsize hby hzs hsz v n xs hown ad m c news hl hnews h1 h63 hbytes hbase
  unfold Oper.wp execOp
  simp only [ho, resolve, invoke, builtin, Sem.run_bind, Sem.run_pure, Result.andThen_ok, List.map_toArray, List.map_cons, List.map_nil, hs, hx, hr]
  exact hK _ _ (h v' w' h2 h3 h4)

/-- .. as one step of a region that draws. -/
theorem step_append_keep {P : Program} {ops : Array Oper} {o : Oper} {a : Act} {w : World} {K : Act → World → Prop} {Q : Exit → Act → World → Prop} {E : Prop} (hg : o.guard = none) (s x : Operand) (t : TypeId)
    (ho : o.op = .call { callee := .builtin .append, args := #[s, x], argTypes := #[t, t] })
    (base : Nat) (e : TypeId) (i : TypeInfo) (z : Value) (size bytes : Nat) (ht : P.underlying t = some (.slice e)) (hi : P.info? e = some i) (hz : i.zero = some z)
    (hsize : i.size = size) (hby : i.bytes = bytes) (hzs : z.cells.size = size) (hsz : 0 < size)
    (v : Value) (n : Nat) (xs : List Value) (hs : a.eval s = v) (hown : w.ownsRow base e size v n xs)
    (ad : Addr) (m c : Nat) (news : List Value) (hx : a.eval x = .slice (some ad) m c) (hl : news.length = m * size) (hnews : ∀ j u, news[j]? = some u → w.cell? (ad.add j) = some u) (h1 : ∀ u ∈ news, u.oneCell' = true)
    (h63 : n + m ≤ maxLen) (hbytes : (n + m) * bytes ≤ 140737488355328) (hbase : base ≤ w.heap.size)
    (h : ∀ v' w', w'.ownsRow base e size v' (n + m) (xs ++ news) → w.grownBy w' v.ownBlock → (v'.ownBlock = v.ownBlock ∨ (v'.ownBlock = some w.heap.size ∧ w.grownBy w' none)) → K (a.put o.dst v') w') :
    if Region.wanted o (yielded ops a.tmps) = true then Oper.wp P o a w K Q else E := by
  have hw : Region.wanted o (yielded ops a.tmps) = true := by simp [Region.wanted, hg]
  rw [if_pos hw]
  obtain ⟨v', w', hr, h2, h3, h4⟩ := run_append_keep (P := P) w base t o.type e i z size bytes ht hi hz hsize hby hzs hsz v n xs hown ad m c news hl hnews h1 h63 hbytes hbase
  unfold Oper.wp execOp
  simp only [ho, resolve, invoke, builtin, Sem.run_bind, Sem.run_pure, Result.andThen_ok, List.map_toArray, List.map_cons, List.map_nil, hs, hx, hr]
  exact h v' w' h2 h3 h4

end Go.Proofs.YtahffpgadoiijaaGreat

/- A chain of links in memory: what lies where, what each step leaves as it was. -/
namespace Go.Proofs.YtahffpgadoiijaaGreat
open Go.RowKit

/-! frames, cell by cell -/

structure Keep (S : Nat → Nat → Prop) (w w' : World) : Prop where
  os : w'.os = w.os
  tape : w'.tape = w.tape
  output : w'.output = w.output
  size : w.heap.size ≤ w'.heap.size
  block : ∀ b, b < w.heap.size → (∀ x, ¬ S b x) → w'.heap[b]? = w.heap[b]?
  cell : ∀ b x, b < w.heap.size → ¬ S b x → w'.cell? ⟨b, x, none⟩ = w.cell? ⟨b, x, none⟩

theorem Keep.refl (S : Nat → Nat → Prop) (w : World) : Keep S w w := ⟨rfl, rfl, rfl, Nat.le_refl _, fun _ _ _ => rfl, fun _ _ _ _ => rfl⟩

theorem Keep.trans {S S1 : Nat → Nat → Prop} {w w1 w2 : World} (h : Keep S w w1) (h1 : Keep S1 w1 w2) (hs : ∀ b x, b < w.heap.size → S1 b x → S b x) : Keep S w w2 :=
  ⟨h1.os.trans h.os, h1.tape.trans h.tape, h1.output.trans h.output, Nat.le_trans h.size h1.size,
    fun b hb hn => (h1.block b (Nat.lt_of_lt_of_le hb h.size) (fun x hx => hn x (hs b x hb hx))).trans (h.block b hb hn),
    fun b x hb hn => (h1.cell b x (Nat.lt_of_lt_of_le hb h.size) (fun hx => hn (hs b x hb hx))).trans (h.cell b x hb hn)⟩

theorem Keep.mono {S S' : Nat → Nat → Prop} {w w' : World} (h : Keep S w w') (hs : ∀ b x, S b x → S' b x) : Keep S' w w' :=
  ⟨h.os, h.tape, h.output, h.size, fun b hb hn => h.block b hb (fun x hx => hn x (hs b x hx)), fun b x hb hn => h.cell b x hb (fun hx => hn (hs b x hx))⟩

theorem Keep.of_below {S : Nat → Nat → Prop} {w w' : World} {B : Nat} (h : Below B w w') (hB : w.heap.size ≤ B) : Keep S w w' :=
  ⟨h.os, h.tape, h.output, h.size, fun b hb _ => h.block b (by omega), fun b x hb _ => h.cell (p := ⟨b, x, none⟩) (by show b < B; omega)⟩

theorem Keep.toBelow {S : Nat → Nat → Prop} {w w' : World} {B : Nat} (h : Keep S w w') (hB : B ≤ w.heap.size) (hs : ∀ b x, b < B → ¬ S b x) : Below B w w' :=
  ⟨h.os, h.tape, h.output, h.size, fun b hb => h.block b (by omega) (fun x => hs b x hb)⟩

/-! what lies where -/

structure St where
  m : Nat
  vb : Value
  vg : Value

structure Raw where
  base : Nat
  n : Nat
  f : Int → Option Value
  bs : List Value
  gs : List Pm

def gcells : List Pm → List Value
  | [] => []
  | x :: t => x.l.map (Value.int .i8) ++ gcells t

theorem gcells_length : ∀ gs : List Pm, (gcells gs).length = gs.length * 12
  | [] => rfl
  | x :: t => by simp [gcells, gcells_length t, x.len]; omega

theorem gcells_snoc (gs : List Pm) (p : Pm) : gcells (gs ++ [p]) = gcells gs ++ p.l.map (Value.int .i8) := by
  induction gs with
  | nil => simp [gcells]
  | cons x t ih => simp [gcells, ih]

structure LinkAt (w : World) (B g j : Nat) (r : Raw) (s : St) : Prop where
  c0 : w.cell? ⟨g, 4 * j, none⟩ = some (.int .i64 ((r.base : Nat) : Int))
  c1 : w.cell? ⟨g, 4 * j + 1, none⟩ = some (.map (some s.m))
  c2 : w.cell? ⟨g, 4 * j + 2, none⟩ = some s.vb
  c3 : w.cell? ⟨g, 4 * j + 3, none⟩ = some s.vg
  mp : IMap w s.m r.n r.f
  mB : B ≤ s.m
  bells : w.ownsRow B 3 1 s.vb r.bs.length r.bs
  gens : w.ownsRow B 78 12 s.vg r.gs.length (gcells r.gs)

def updS (st : Nat → St) (k : Nat) (s : St) : Nat → St := fun j => if j = k then s else st j

structure ChainAt (w : World) (B g : Nat) (R : List Raw) (st : Nat → St) : Prop where
  obj : ∃ cs, w.heap[g]? = some (.cells cs 99) ∧ cs.size = 4 * R.length
  gB : B ≤ g
  link : ∀ j r, R[j]? = some r → LinkAt w B g j r (st j)
  mdis : ∀ i j, i < R.length → j < R.length → i ≠ j → (st i).m ≠ (st j).m
  bdis : ∀ i j, i < R.length → j < R.length → i ≠ j → ∀ b, (st i).vb.ownBlock = some b → (st j).vb.ownBlock ≠ some b
  gdis : ∀ i j, i < R.length → j < R.length → i ≠ j → ∀ b, (st i).vg.ownBlock = some b → (st j).vg.ownBlock ≠ some b

theorem owns_obj {w : World} {base e size n : Nat} {v : Value} {xs : List Value} (h : w.ownsRow base e size v n xs) {b : Nat} (hb : v.ownBlock = some b) : ∃ cur, w.heap[b]? = some (.cells cur e) := by
  rcases h.2 with ⟨rfl, _⟩ | ⟨g, cap, cur, rfl, _, hh, _⟩
  · cases hb
  · have : g = b := by simpa [Value.ownBlock] using hb
    subst this; exact ⟨cur, hh⟩

theorem owns_of_block {w w' : World} {base e size n : Nat} {v : Value} {xs : List Value} (h : w.ownsRow base e size v n xs) (hb : ∀ b, v.ownBlock = some b → w'.heap[b]? = w.heap[b]?) : w'.ownsRow base e size v n xs := by
  obtain ⟨h1, h2⟩ := h
  refine ⟨h1, ?_⟩
  rcases h2 with h2 | ⟨g, cap, cur, rfl, r1, hh, r2⟩
  · exact Or.inl h2
  · exact Or.inr ⟨g, cap, cur, rfl, r1, (hb g rfl).trans hh, r2⟩

theorem LinkAt.of_block {w w' : World} {B g j : Nat} {r : Raw} {s : St} (h : LinkAt w B g j r s) (hc : ∀ x, 4 * j ≤ x → x < 4 * j + 4 → w'.cell? ⟨g, x, none⟩ = w.cell? ⟨g, x, none⟩) (hm : w'.heap[s.m]? = w.heap[s.m]?)
    (hb : ∀ b, s.vb.ownBlock = some b → w'.heap[b]? = w.heap[b]?) (hg : ∀ b, s.vg.ownBlock = some b → w'.heap[b]? = w.heap[b]?) : LinkAt w' B g j r s :=
  ⟨by rw [hc _ (by omega) (by omega)]; exact h.c0, by rw [hc _ (by omega) (by omega)]; exact h.c1, by rw [hc _ (by omega) (by omega)]; exact h.c2, by rw [hc _ (by omega) (by omega)]; exact h.c3,
    h.mp.of_block hm, h.mB, owns_of_block h.bells hb, owns_of_block h.gens hg⟩

/-- Which cells the links from k on may still change. -/
def Foot (g k : Nat) (R : List Raw) (st : Nat → St) (b x : Nat) : Prop :=
  (b = g ∧ 4 * k ≤ x) ∨ ∃ j r, k ≤ j ∧ R[j]? = some r ∧ (b = (st j).m ∨ ((st j).vb.ownBlock = some b ∧ r.bs.length ≤ x) ∨ ((st j).vg.ownBlock = some b ∧ 12 * r.gs.length ≤ x))

theorem ChainAt.lt_g {w : World} {B g : Nat} {R : List Raw} {st : Nat → St} (h : ChainAt w B g R st) : g < w.heap.size := by
  obtain ⟨cs, h1, _⟩ := h.obj; exact (Array.getElem?_eq_some_iff.1 h1).1

theorem ChainAt.of_block {w w' : World} {B g : Nat} {R : List Raw} {st : Nat → St} (h : ChainAt w B g R st) (hb : ∀ b, b < w.heap.size → w'.heap[b]? = w.heap[b]?) : ChainAt w' B g R st := by
  refine ⟨?_, h.gB, fun j r hr => ?_, h.mdis, h.bdis, h.gdis⟩
  · obtain ⟨cs, h1, h2⟩ := h.obj; exact ⟨cs, by rw [hb g h.lt_g]; exact h1, h2⟩
  · have l := h.link j r hr
    refine l.of_block (fun x _ _ => World.cell?_of_block (w := w) (a := ⟨g, x, none⟩) (hb g h.lt_g)) (hb _ l.mp.lt) (fun b hbb => hb b (l.bells.lt b hbb).2) (fun b hbb => hb b (l.gens.lt b hbb).2)

theorem ChainAt.below {w w' : World} {B g X : Nat} {R : List Raw} {st : Nat → St} (h : ChainAt w B g R st) (hb : Below X w w') (hX : w.heap.size ≤ X) : ChainAt w' B g R st := h.of_block (fun b hlt => hb.block b (by omega))

theorem ChainAt.alloc {w : World} {B g : Nat} {R : List Raw} {st : Nat → St} (h : ChainAt w B g R st) (o : Obj) : ChainAt (w.alloc o) B g R st := h.of_block (fun b hlt => Below.heap_alloc w o b hlt)

/-- Blocks of different kinds differ. -/
theorem ChainAt.kinds {w : World} {B g : Nat} {R : List Raw} {st : Nat → St} (h : ChainAt w B g R st) {i j : Nat} {r s : Raw} (hi : R[i]? = some r) (hj : R[j]? = some s) :
    g ≠ (st i).m ∧ (st i).vb.ownBlock ≠ some g ∧ (st i).vg.ownBlock ≠ some g ∧ (st i).vb.ownBlock ≠ some (st j).m ∧ (st i).vg.ownBlock ≠ some (st j).m ∧ ∀ b, (st i).vb.ownBlock = some b → (st j).vg.ownBlock ≠ some b := by
  have li := h.link i r hi
  have lj := h.link j s hj
  obtain ⟨cs, ho, _⟩ := h.obj
  obtain ⟨es, cl, hm⟩ := li.mp.obj
  obtain ⟨es', cl', hm'⟩ := lj.mp.obj
  refine ⟨fun e => ?_, fun e => ?_, fun e => ?_, fun e => ?_, fun e => ?_, fun b e1 e2 => ?_⟩
  · rw [e] at ho; rw [ho] at hm; cases hm
  · obtain ⟨c, hc⟩ := owns_obj li.bells e; rw [ho] at hc; injection hc with hc; injection hc with _ h2 _; exact absurd h2 (by decide)
  · obtain ⟨c, hc⟩ := owns_obj li.gens e; rw [ho] at hc; injection hc with hc; injection hc with _ h2 _; exact absurd h2 (by decide)
  · obtain ⟨c, hc⟩ := owns_obj li.bells e; rw [hm'] at hc; cases hc
  · obtain ⟨c, hc⟩ := owns_obj li.gens e; rw [hm'] at hc; cases hc
  · obtain ⟨c, hc⟩ := owns_obj li.bells e1
    obtain ⟨c', hc'⟩ := owns_obj lj.gens e2
    rw [hc] at hc'; injection hc' with hc'; injection hc' with _ h2 _; exact absurd h2 (by decide)

theorem get_lt {R : List Raw} {k : Nat} {r : Raw} (h : R[k]? = some r) : k < R.length := (List.getElem?_eq_some_iff.1 h).1

/-- The map of link k is written. -/
theorem ChainAt.setMap {w w' : World} {B g k n' : Nat} {R : List Raw} {st : Nat → St} {r : Raw} {f' : Int → Option Value} (h : ChainAt w B g R st) (hk : R[k]? = some r) (hm : IMap w' (st k).m n' f') (hg : w.grownBy w' (some (st k).m)) :
    ChainAt w' B g (R.set k { r with f := f', n := n' }) st ∧ Keep (Foot g k R st) w w' ∧ (∀ b x, b < w.heap.size → Foot g k (R.set k { r with f := f', n := n' }) st b x → Foot g k R st b x) := by
  have hkl := get_lt hk
  have keepB : ∀ b, b < w.heap.size → b ≠ (st k).m → w'.heap[b]? = w.heap[b]? := fun b hb hne => hg.block b hb (fun e => hne (by injection e))
  have hgm := (h.kinds hk hk).1
  refine ⟨⟨?_, h.gB, ?_, by simpa using h.mdis, by simpa using h.bdis, by simpa using h.gdis⟩, ⟨hg.os, hg.tape, hg.output, hg.size, ?_, ?_⟩, ?_⟩
  · obtain ⟨cs, h1, h2⟩ := h.obj
    exact ⟨cs, by rw [keepB g h.lt_g hgm]; exact h1, by simpa using h2⟩
  · intro j q hq
    rw [List.getElem?_set] at hq
    have hcell : ∀ x, w'.cell? ⟨g, x, none⟩ = w.cell? ⟨g, x, none⟩ := fun x => World.cell?_of_block (w := w) (a := ⟨g, x, none⟩) (keepB g h.lt_g hgm)
    by_cases e : k = j
    · subst e
      rw [if_pos rfl, if_pos hkl] at hq
      injection hq with hq; subst hq
      have l := h.link k r hk
      have kd := h.kinds hk hk
      exact ⟨by rw [hcell]; exact l.c0, by rw [hcell]; exact l.c1, by rw [hcell]; exact l.c2, by rw [hcell]; exact l.c3, hm, l.mB,
        owns_of_block l.bells (fun b hb => keepB b (l.bells.lt b hb).2 (fun e => kd.2.2.2.1 (by rw [← e]; exact hb))), owns_of_block l.gens (fun b hb => keepB b (l.gens.lt b hb).2 (fun e => kd.2.2.2.2.1 (by rw [← e]; exact hb)))⟩
    · rw [if_neg e] at hq
      have l := h.link j q hq
      have kd := h.kinds hq hk
      exact l.of_block (fun x _ _ => hcell x) (keepB _ l.mp.lt (h.mdis j k (get_lt hq) hkl (fun e' => e e'.symm))) (fun b hb => keepB b (l.bells.lt b hb).2 (fun e => kd.2.2.2.1 (by rw [← e]; exact hb))) (fun b hb => keepB b (l.gens.lt b hb).2 (fun e => kd.2.2.2.2.1 (by rw [← e]; exact hb)))
  · intro b hb hn
    exact keepB b hb (fun e => hn 0 (Or.inr ⟨k, r, Nat.le_refl _, hk, Or.inl e⟩))
  · intro b x hb hn
    exact World.cell?_of_block (w := w) (a := ⟨b, x, none⟩) (keepB b hb (fun e => hn (Or.inr ⟨k, r, Nat.le_refl _, hk, Or.inl e⟩)))
  · rintro b x _ (h1 | ⟨j, q, hj, hq, h1⟩)
    · exact Or.inl h1
    · rw [List.getElem?_set] at hq
      by_cases e : k = j
      · subst e
        rw [if_pos rfl, if_pos hkl] at hq
        injection hq with hq; subst hq
        exact Or.inr ⟨k, r, hj, hk, h1⟩
      · rw [if_neg e] at hq
        exact Or.inr ⟨j, q, hj, hq, h1⟩

theorem owns_prefix {w w' : World} {base e size n n' : Nat} {v v' : Value} {xs ys : List Value} {b x : Nat} (h : w.ownsRow base e size v n xs) (h' : w'.ownsRow base e size v' n' (xs ++ ys)) (hb : v.ownBlock = some b) (hb' : v'.ownBlock = some b) (hx : x < xs.length) :
    w'.cell? ⟨b, x, none⟩ = w.cell? ⟨b, x, none⟩ := by
  have h1 := h.cells hb x xs[x] (List.getElem?_eq_getElem hx)
  have h2 := h'.cells hb' x xs[x] (by rw [List.getElem?_append_left hx]; exact List.getElem?_eq_getElem hx)
  rw [Addr.add_lit, Nat.zero_add] at h1 h2
  rw [h1, h2]

theorem cell_setCell_ne (w : World) (b x y : Nat) (u : Value) (b' : Nat) (h : b' ≠ b ∨ y ≠ x) : (w.setCell ⟨b, x, none⟩ u).cell? ⟨b', y, none⟩ = w.cell? ⟨b', y, none⟩ := by
  refine World.cell?_setCell_other _ _ _ _ (fun e => ?_)
  simp only [Addr.mk.injEq] at e
  rcases h with h | h
  · exact h e.1.symm
  · exact h e.2.1.symm

theorem obj_setCell {w : World} {g x T : Nat} {cs : Array Value} (u : Value) (h : w.heap[g]? = some (.cells cs T)) : ∃ cs', (w.setCell ⟨g, x, none⟩ u).heap[g]? = some (.cells cs' T) ∧ cs'.size = cs.size := by
  refine ⟨cs.setIfInBounds x u, ?_, by simp⟩
  simp [World.setCell, Array.getElem?_modify, h]

/-- The bells of link k have one more. -/
theorem ChainAt.setBells {w w1 : World} {B g k : Nat} {R : List Raw} {st : Nat → St} {r : Raw} {v' u : Value} (h : ChainAt w B g R st) (hk : R[k]? = some r) (hown : w1.ownsRow B 3 1 v' (r.bs.length + 1) (r.bs ++ [u])) (hg : w.grownBy w1 (st k).vb.ownBlock)
    (hloc : v'.ownBlock = (st k).vb.ownBlock ∨ ((∀ b, v'.ownBlock = some b → w.heap.size ≤ b) ∧ w.grownBy w1 none)) :
    ChainAt (w1.setCell ⟨g, 4 * k + 2, none⟩ v') B g (R.set k { r with bs := r.bs ++ [u] }) (updS st k { st k with vb := v' }) ∧ Keep (Foot g k R st) w (w1.setCell ⟨g, 4 * k + 2, none⟩ v') ∧
    (∀ b x, b < w.heap.size → Foot g k (R.set k { r with bs := r.bs ++ [u] }) (updS st k { st k with vb := v' }) b x → Foot g k R st b x) := by
  have hkl := get_lt hk
  have lk := h.link k r hk
  have kd := h.kinds hk hk
  have keep1 : ∀ b, b < w.heap.size → (st k).vb.ownBlock ≠ some b → w1.heap[b]? = w.heap[b]? := fun b hb hne => hg.block b hb (fun e => hne e.symm)
  have keepB : ∀ b, b < w.heap.size → (st k).vb.ownBlock ≠ some b → b ≠ g → (w1.setCell ⟨g, 4 * k + 2, none⟩ v').heap[b]? = w.heap[b]? := fun b hb hne hne2 => by
    rw [Below.heap_setCell _ _ _ _ (by exact hne2)]; exact keep1 b hb hne
  have hg1 : w1.heap[g]? = w.heap[g]? := keep1 g h.lt_g kd.2.1
  have hcell : ∀ x, x ≠ 4 * k + 2 → (w1.setCell ⟨g, 4 * k + 2, none⟩ v').cell? ⟨g, x, none⟩ = w.cell? ⟨g, x, none⟩ := fun x hx => by
    rw [cell_setCell_ne _ _ _ _ _ _ (Or.inr hx)]; exact World.cell?_of_block (w := w) (a := ⟨g, x, none⟩) hg1
  have hv'g : ∀ b, v'.ownBlock = some b → b ≠ g := fun b hb e => by
    subst e
    rcases hloc with h1 | ⟨h1, _⟩
    · exact kd.2.1 (h1 ▸ hb)
    · have := h1 _ hb; have := h.lt_g; omega
  refine ⟨⟨?_, h.gB, ?_, ?_, ?_, ?_⟩, ⟨hg.os, hg.tape, hg.output, by simpa [World.setCell] using hg.size, ?_, ?_⟩, ?_⟩
  · obtain ⟨cs, h1, h2⟩ := h.obj
    obtain ⟨cs', h3, h4⟩ := obj_setCell (x := 4 * k + 2) v' (hg1.trans h1)
    exact ⟨cs', h3, by rw [h4, h2]; simp⟩
  · intro j q hq
    rw [List.getElem?_set] at hq
    by_cases e : k = j
    · subst e
      rw [if_pos rfl, if_pos hkl] at hq
      injection hq with hq; subst hq
      have es : updS st k { st k with vb := v' } k = { st k with vb := v' } := by simp [updS]
      rw [es]
      refine ⟨by rw [hcell _ (by omega)]; exact lk.c0, by rw [hcell _ (by omega)]; exact lk.c1, ?_, by rw [hcell _ (by omega)]; exact lk.c3, lk.mp.of_block (keepB _ lk.mp.lt kd.2.2.2.1 (fun e => kd.1 e.symm)), lk.mB, ?_, ?_⟩
      · exact World.cell?_setCell_same _ _ _ ((World.cell?_of_block (w := w) (a := ⟨g, 4 * k + 2, none⟩) hg1).trans lk.c2)
      · show World.ownsRow _ _ _ _ v' (r.bs ++ [u]).length _
        rw [List.length_append]
        exact owns_of_block hown (fun b hb => Below.heap_setCell _ _ _ _ (by exact hv'g b hb))
      · exact owns_of_block lk.gens (fun b hb => keepB b (lk.gens.lt b hb).2 (fun e => kd.2.2.2.2.2 b e hb) (fun e => kd.2.2.1 (by rw [← e]; exact hb)))
    · rw [if_neg e] at hq
      have es : updS st k { st k with vb := v' } j = st j := by unfold updS; rw [if_neg (fun e' => e e'.symm)]
      rw [es]
      have l := h.link j q hq
      have kj := h.kinds hq hk
      have kj2 := h.kinds hk hq
      refine l.of_block (fun x h1 h2 => hcell x (by omega)) (keepB _ l.mp.lt kj2.2.2.2.1 (fun e => kj.1 e.symm)) (fun b hb => keepB b (l.bells.lt b hb).2 (fun e2 => h.bdis k j hkl (get_lt hq) e b e2 hb) (fun e2 => kj.2.1 (by rw [← e2]; exact hb)))
        (fun b hb => keepB b (l.gens.lt b hb).2 (fun e2 => kj2.2.2.2.2.2 b e2 hb) (fun e2 => kj.2.2.1 (by rw [← e2]; exact hb)))
  · intro i j hi hj hne
    rw [List.length_set] at hi hj
    have := h.mdis i j hi hj hne
    unfold updS
    split <;> split <;> simp_all
  · intro i j hi hj hne b hb
    rw [List.length_set] at hi hj
    obtain ⟨ri, hri⟩ : ∃ ri, R[i]? = some ri := ⟨_, List.getElem?_eq_getElem hi⟩
    obtain ⟨rj, hrj⟩ : ∃ rj, R[j]? = some rj := ⟨_, List.getElem?_eq_getElem hj⟩
    unfold updS at hb ⊢
    by_cases ei : i = k
    · subst ei
      rw [if_pos rfl] at hb
      rw [if_neg (fun e => hne e.symm)]
      intro hb2
      rcases hloc with h1 | ⟨h1, _⟩
      · exact h.bdis i j hi hj hne b (h1 ▸ hb) hb2
      · have h2 := h1 b hb; have h3 := ((h.link j rj hrj).bells.lt b hb2).2; omega
    · rw [if_neg ei] at hb
      by_cases ej : j = k
      · subst ej
        rw [if_pos rfl]
        intro hb2
        rcases hloc with h1 | ⟨h1, _⟩
        · exact h.bdis i j hi hj hne b hb (h1 ▸ hb2)
        · have h2 := h1 b hb2; have h3 := ((h.link i ri hri).bells.lt b hb).2; omega
      · rw [if_neg ej]
        exact h.bdis i j hi hj hne b hb
  · intro i j hi hj hne
    rw [List.length_set] at hi hj
    have := h.gdis i j hi hj hne
    unfold updS
    split <;> split <;> simp_all
  · intro b hb hn
    exact keepB b hb (fun e => hn r.bs.length (Or.inr ⟨k, r, Nat.le_refl _, hk, Or.inr (Or.inl ⟨e, Nat.le_refl _⟩)⟩)) (fun e => hn (4 * k) (Or.inl ⟨e, Nat.le_refl _⟩))
  · intro b x hb hn
    by_cases e1 : b = g
    · subst e1
      exact hcell x (fun e => hn (Or.inl ⟨rfl, by omega⟩))
    · rw [cell_setCell_ne _ _ _ _ _ _ (Or.inl e1)]
      by_cases e2 : (st k).vb.ownBlock = some b
      · have hx : x < r.bs.length := by
          rcases Nat.lt_or_ge x r.bs.length with h1 | h1
          · exact h1
          · exact absurd (Or.inr ⟨k, r, Nat.le_refl _, hk, Or.inr (Or.inl ⟨e2, h1⟩)⟩) hn
        rcases hloc with h1 | ⟨_, h1⟩
        · exact owns_prefix lk.bells hown e2 (h1.trans e2) hx
        · exact World.cell?_of_block (w := w) (a := ⟨b, x, none⟩) (h1.block b hb (by simp))
      · exact World.cell?_of_block (w := w) (a := ⟨b, x, none⟩) (keep1 b hb e2)
  · rintro b x hb (h1 | ⟨j, q, hj, hq, h1⟩)
    · exact Or.inl h1
    · rw [List.getElem?_set] at hq
      by_cases e : k = j
      · subst e
        rw [if_pos rfl, if_pos hkl] at hq
        injection hq with hq; subst hq
        have es : updS st k { st k with vb := v' } k = { st k with vb := v' } := by simp [updS]
        rw [es] at h1
        refine Or.inr ⟨k, r, hj, hk, ?_⟩
        rcases h1 with h1 | ⟨h1, h2⟩ | h1
        · exact Or.inl h1
        · rcases hloc with h3 | ⟨h3, _⟩
          · exact Or.inr (Or.inl ⟨h3 ▸ h1, by have h2 : (r.bs ++ [u]).length ≤ x := h2; rw [List.length_append] at h2; omega⟩)
          · have := h3 b h1; omega
        · exact Or.inr (Or.inr h1)
      · rw [if_neg e] at hq
        have es : updS st k { st k with vb := v' } j = st j := by unfold updS; rw [if_neg (fun e' => e e'.symm)]
        rw [es] at h1
        exact Or.inr ⟨j, q, hj, hq, h1⟩

/-- .. the generators. -/
theorem ChainAt.setGens {w w1 : World} {B g k : Nat} {R : List Raw} {st : Nat → St} {r : Raw} {v' : Value} {p : Pm} (h : ChainAt w B g R st) (hk : R[k]? = some r) (hown : w1.ownsRow B 78 12 v' (r.gs.length + 1) (gcells r.gs ++ p.l.map (Value.int .i8))) (hg : w.grownBy w1 (st k).vg.ownBlock)
    (hloc : v'.ownBlock = (st k).vg.ownBlock ∨ ((∀ b, v'.ownBlock = some b → w.heap.size ≤ b) ∧ w.grownBy w1 none)) :
    ChainAt (w1.setCell ⟨g, 4 * k + 3, none⟩ v') B g (R.set k { r with gs := r.gs ++ [p] }) (updS st k { st k with vg := v' }) ∧ Keep (Foot g k R st) w (w1.setCell ⟨g, 4 * k + 3, none⟩ v') ∧
    (∀ b x, b < w.heap.size → Foot g k (R.set k { r with gs := r.gs ++ [p] }) (updS st k { st k with vg := v' }) b x → Foot g k R st b x) := by
  have hkl := get_lt hk
  have lk := h.link k r hk
  have kd := h.kinds hk hk
  have keep1 : ∀ b, b < w.heap.size → (st k).vg.ownBlock ≠ some b → w1.heap[b]? = w.heap[b]? := fun b hb hne => hg.block b hb (fun e => hne e.symm)
  have keepB : ∀ b, b < w.heap.size → (st k).vg.ownBlock ≠ some b → b ≠ g → (w1.setCell ⟨g, 4 * k + 3, none⟩ v').heap[b]? = w.heap[b]? := fun b hb hne hne2 => by
    rw [Below.heap_setCell _ _ _ _ (by exact hne2)]; exact keep1 b hb hne
  have hg1 : w1.heap[g]? = w.heap[g]? := keep1 g h.lt_g kd.2.2.1
  have hcell : ∀ x, x ≠ 4 * k + 3 → (w1.setCell ⟨g, 4 * k + 3, none⟩ v').cell? ⟨g, x, none⟩ = w.cell? ⟨g, x, none⟩ := fun x hx => by
    rw [cell_setCell_ne _ _ _ _ _ _ (Or.inr hx)]; exact World.cell?_of_block (w := w) (a := ⟨g, x, none⟩) hg1
  have hv'g : ∀ b, v'.ownBlock = some b → b ≠ g := fun b hb e => by
    subst e
    rcases hloc with h1 | ⟨h1, _⟩
    · exact kd.2.2.1 (h1 ▸ hb)
    · have := h1 _ hb; have := h.lt_g; omega
  refine ⟨⟨?_, h.gB, ?_, ?_, ?_, ?_⟩, ⟨hg.os, hg.tape, hg.output, by simpa [World.setCell] using hg.size, ?_, ?_⟩, ?_⟩
  · obtain ⟨cs, h1, h2⟩ := h.obj
    obtain ⟨cs', h3, h4⟩ := obj_setCell (x := 4 * k + 3) v' (hg1.trans h1)
    exact ⟨cs', h3, by rw [h4, h2]; simp⟩
  · intro j q hq
    rw [List.getElem?_set] at hq
    by_cases e : k = j
    · subst e
      rw [if_pos rfl, if_pos hkl] at hq
      injection hq with hq; subst hq
      have es : updS st k { st k with vg := v' } k = { st k with vg := v' } := by simp [updS]
      rw [es]
      refine ⟨by rw [hcell _ (by omega)]; exact lk.c0, by rw [hcell _ (by omega)]; exact lk.c1, by rw [hcell _ (by omega)]; exact lk.c2, ?_, lk.mp.of_block (keepB _ lk.mp.lt kd.2.2.2.2.1 (fun e => kd.1 e.symm)), lk.mB, ?_, ?_⟩
      · exact World.cell?_setCell_same _ _ _ ((World.cell?_of_block (w := w) (a := ⟨g, 4 * k + 3, none⟩) hg1).trans lk.c3)
      · exact owns_of_block lk.bells (fun b hb => keepB b (lk.bells.lt b hb).2 (fun e => kd.2.2.2.2.2 b hb e) (fun e => kd.2.1 (by rw [← e]; exact hb)))
      · show World.ownsRow _ _ _ _ v' (r.gs ++ [p]).length (gcells (r.gs ++ [p]))
        rw [List.length_append, gcells_snoc]
        exact owns_of_block hown (fun b hb => Below.heap_setCell _ _ _ _ (by exact hv'g b hb))
    · rw [if_neg e] at hq
      have es : updS st k { st k with vg := v' } j = st j := by unfold updS; rw [if_neg (fun e' => e e'.symm)]
      rw [es]
      have l := h.link j q hq
      have kj := h.kinds hq hk
      have kj2 := h.kinds hk hq
      refine l.of_block (fun x h1 h2 => hcell x (by omega)) (keepB _ l.mp.lt kj2.2.2.2.2.1 (fun e => kj.1 e.symm)) (fun b hb => keepB b (l.bells.lt b hb).2 (fun e2 => kj.2.2.2.2.2 b hb e2) (fun e2 => kj.2.1 (by rw [← e2]; exact hb)))
        (fun b hb => keepB b (l.gens.lt b hb).2 (fun e2 => h.gdis k j hkl (get_lt hq) e b e2 hb) (fun e2 => kj.2.2.1 (by rw [← e2]; exact hb)))
  · intro i j hi hj hne
    rw [List.length_set] at hi hj
    have := h.mdis i j hi hj hne
    unfold updS
    split <;> split <;> simp_all
  · intro i j hi hj hne
    rw [List.length_set] at hi hj
    have := h.bdis i j hi hj hne
    unfold updS
    split <;> split <;> simp_all
  · intro i j hi hj hne b hb
    rw [List.length_set] at hi hj
    obtain ⟨ri, hri⟩ : ∃ ri, R[i]? = some ri := ⟨_, List.getElem?_eq_getElem hi⟩
    obtain ⟨rj, hrj⟩ : ∃ rj, R[j]? = some rj := ⟨_, List.getElem?_eq_getElem hj⟩
    unfold updS at hb ⊢
    by_cases ei : i = k
    · subst ei
      rw [if_pos rfl] at hb
      rw [if_neg (fun e => hne e.symm)]
      intro hb2
      rcases hloc with h1 | ⟨h1, _⟩
      · exact h.gdis i j hi hj hne b (h1 ▸ hb) hb2
      · have h2 := h1 b hb; have h3 := ((h.link j rj hrj).gens.lt b hb2).2; omega
    · rw [if_neg ei] at hb
      by_cases ej : j = k
      · subst ej
        rw [if_pos rfl]
        intro hb2
        rcases hloc with h1 | ⟨h1, _⟩
        · exact h.gdis i j hi hj hne b hb (h1 ▸ hb2)
        · have h2 := h1 b hb2; have h3 := ((h.link i ri hri).gens.lt b hb).2; omega
      · rw [if_neg ej]
        exact h.gdis i j hi hj hne b hb
  · intro b hb hn
    exact keepB b hb (fun e => hn (12 * r.gs.length) (Or.inr ⟨k, r, Nat.le_refl _, hk, Or.inr (Or.inr ⟨e, Nat.le_refl _⟩)⟩)) (fun e => hn (4 * k) (Or.inl ⟨e, Nat.le_refl _⟩))
  · intro b x hb hn
    by_cases e1 : b = g
    · subst e1
      exact hcell x (fun e => hn (Or.inl ⟨rfl, by omega⟩))
    · rw [cell_setCell_ne _ _ _ _ _ _ (Or.inl e1)]
      by_cases e2 : (st k).vg.ownBlock = some b
      · have hx : x < (gcells r.gs).length := by
          rw [gcells_length]
          rcases Nat.lt_or_ge x (12 * r.gs.length) with h1 | h1
          · omega
          · exact absurd (Or.inr ⟨k, r, Nat.le_refl _, hk, Or.inr (Or.inr ⟨e2, h1⟩)⟩) hn
        rcases hloc with h1 | ⟨_, h1⟩
        · exact owns_prefix lk.gens hown e2 (h1.trans e2) hx
        · exact World.cell?_of_block (w := w) (a := ⟨b, x, none⟩) (h1.block b hb (by simp))
      · exact World.cell?_of_block (w := w) (a := ⟨b, x, none⟩) (keep1 b hb e2)
  · rintro b x hb (h1 | ⟨j, q, hj, hq, h1⟩)
    · exact Or.inl h1
    · rw [List.getElem?_set] at hq
      by_cases e : k = j
      · subst e
        rw [if_pos rfl, if_pos hkl] at hq
        injection hq with hq; subst hq
        have es : updS st k { st k with vg := v' } k = { st k with vg := v' } := by simp [updS]
        rw [es] at h1
        refine Or.inr ⟨k, r, hj, hk, ?_⟩
        rcases h1 with h1 | h1 | ⟨h1, h2⟩
        · exact Or.inl h1
        · exact Or.inr (Or.inl h1)
        · rcases hloc with h3 | ⟨h3, _⟩
          · exact Or.inr (Or.inr ⟨h3 ▸ h1, by have h2 : 12 * (r.gs ++ [p]).length ≤ x := h2; rw [List.length_append] at h2; omega⟩)
          · have := h3 b h1; omega
      · rw [if_neg e] at hq
        have es : updS st k { st k with vg := v' } j = st j := by unfold updS; rw [if_neg (fun e' => e e'.symm)]
        rw [es] at h1
        exact Or.inr ⟨j, q, hj, hq, h1⟩

end Go.Proofs.YtahffpgadoiijaaGreat

/- Contract: has. -/
namespace Go.Proofs.YtahffpgadoiijaaGreat
open Go.RowKit

/-! steps of a region that draws -/
section
variable {ops : Array Oper} {o : Oper} {a : Act} {w : World} {K : Act → World → Prop} {Q : Exit → Act → World → Prop} {E : Prop}

theorem step_value (hg : o.guard = none) {v : Value} {w' : World} (hrun : (execOp a.eval o).run Tryz.prog w = .ok (.value v) w') (h : K (a.put o.dst v) w') : if Region.wanted o (yielded ops a.tmps) = true then Oper.wp Tryz.prog o a w K Q else E := by
  have hw : Region.wanted o (yielded ops a.tmps) = true := by simp [Region.wanted, hg]
  rw [if_pos hw]
  unfold Oper.wp
  rw [hrun]
  exact h

theorem step_skip (hg : o.guard = none) {w' : World} (hrun : (execOp a.eval o).run Tryz.prog w = .ok (.skip) w') (h : K (a.put o.dst undef) w') : if Region.wanted o (yielded ops a.tmps) = true then Oper.wp Tryz.prog o a w K Q else E := by
  have hw : Region.wanted o (yielded ops a.tmps) = true := by simp [Region.wanted, hg]
  rw [if_pos hw]
  unfold Oper.wp
  rw [hrun]
  exact h

theorem step_load_arr (hg : o.guard = none) (x : Operand) (ho : o.op = .load 78 x) (b : Nat) (zs : List Int) (hA : Arr w b zs) (hx : a.eval x = .pointer (some ⟨b, 0, none⟩)) (h : K (a.put o.dst (.agg (i8s zs))) w) :
    if Region.wanted o (yielded ops a.tmps) = true then Oper.wp Tryz.prog o a w K Q else E :=
  step_value hg (by unfold execOp; simp only [ho, hx, run_load_arr hA, Sem.run_bind, Sem.run_pure, Result.andThen_ok]) h

theorem step_store_arr (hg : o.guard = none) (x y : Operand) (ho : o.op = .store 78 x y) (b : Nat) (zs ys : List Int) (hA : Arr w b zs) (hx : a.eval x = .pointer (some ⟨b, 0, none⟩)) (hy : a.eval y = .agg (i8s ys)) (hl : ys.length = 12)
    (h : ∀ w', Arr w' b ys → w.grownBy w' (some b) → K (a.put o.dst undef) w') : if Region.wanted o (yielded ops a.tmps) = true then Oper.wp Tryz.prog o a w K Q else E := by
  obtain ⟨w', hrun, h1, h2⟩ := run_store_arr (ys := ys) hA hl
  exact step_skip hg (by unfold execOp; simp only [ho, hx, hy, hrun, Sem.run_bind, Sem.run_pure, Result.andThen_ok]) (h w' h1 h2)

theorem step_look_ok (hg : o.guard = none) (m x : Operand) (t : TypeId) (hop : o.op = Op.lookup t m x true) (e : TypeId) (ht : Tryz.prog.underlying t = some (.map 3 e)) {z : Value} (hz : (zeroValue e).run Tryz.prog w = .ok z w)
    {b n : Nat} {f : Int → Option Value} (h : IMap w b n f) (k : Int) (hm : a.eval m = .map (some b)) (hx : a.eval x = .int .i64 k) (h1 : -9223372036854775808 ≤ k) (h2 : k ≤ 9223372036854775807)
    (hK : K (a.put o.dst (.tuple #[(f k).getD z, .bool (f k).isSome])) w) : if Region.wanted o (yielded ops a.tmps) = true then Oper.wp Tryz.prog o a w K Q else E :=
  step_value hg (by unfold execOp; simp only [hop, hm, hx, h.look_ok ht hz h1 h2, Sem.run_bind, Sem.run_pure, Result.andThen_ok]) hK

theorem step_look (hg : o.guard = none) (m x : Operand) (t : TypeId) (hop : o.op = Op.lookup t m x false) (e : TypeId) (ht : Tryz.prog.underlying t = some (.map 3 e)) {z : Value} (hz : (zeroValue e).run Tryz.prog w = .ok z w)
    {b n : Nat} {f : Int → Option Value} (h : IMap w b n f) (k : Int) (hm : a.eval m = .map (some b)) (hx : a.eval x = .int .i64 k) (h1 : -9223372036854775808 ≤ k) (h2 : k ≤ 9223372036854775807)
    (hK : K (a.put o.dst ((f k).getD z)) w) : if Region.wanted o (yielded ops a.tmps) = true then Oper.wp Tryz.prog o a w K Q else E :=
  step_value hg (by unfold execOp; simp only [hop, hm, hx, h.look ht hz h1 h2, Sem.run_bind, Sem.run_pure, Result.andThen_ok]) hK

theorem step_put (hg : o.guard = none) (m x v : Operand) (t : TypeId) (hop : o.op = Op.mapUpdate t m x v) (e : TypeId) (ht : Tryz.prog.underlying t = some (.map 3 e))
    {b n : Nat} {f : Int → Option Value} (h : IMap w b n f) (hn : n < maxLen) (k : Int) (val : Value) (hm : a.eval m = .map (some b)) (hx : a.eval x = .int .i64 k) (hv : a.eval v = val) (h1 : -9223372036854775808 ≤ k) (h2 : k ≤ 9223372036854775807)
    (hK : ∀ w', IMap w' b (n + 1) (upd f k val) → w.grownBy w' (some b) → K (a.put o.dst undef) w') : if Region.wanted o (yielded ops a.tmps) = true then Oper.wp Tryz.prog o a w K Q else E := by
  obtain ⟨w', hrun, r1, r2⟩ := h.put ht hn h1 h2 val
  exact step_skip hg (by unfold execOp; simp only [hop, hm, hx, hv, hrun, Sem.run_bind, Sem.run_pure, Result.andThen_ok]) (hK w' r1 r2)
end

/-- A store into the block that was made last. -/
theorem wpList_store_new {ops : Array Oper} {rest : List Oper} {op : Oper} {a : Act} {w : World} {Q : Exit → Act → World → Prop} (hgd : op.guard = none) (T : TypeId) (x y : Operand) (ho : op.op = .store T x y) (c c' : Array Value)
    (hx : a.eval x = .pointer (some ⟨w.heap.size, 0, none⟩)) (hy : a.eval y = .agg c') (hi : (Tryz.prog.info? T).map (·.size) = some c'.size) (hs : c.size = c'.size) (h1 : c'.all (·.oneCell') = true)
    (h : wpList Tryz.prog ops Q rest (a.put op.dst undef) (w.alloc (.cells c' T))) : wpList Tryz.prog ops Q (op :: rest) a (w.alloc (.cells c T)) := by
  refine wpList_plain hgd fun K hK => ?_
  unfold Oper.wp execOp
  simp only [ho, hx, hy, run_storeAt_new w T c c' hi hs h1, Sem.run_bind, Sem.run_pure, Result.andThen_ok]
  exact hK _ _ h

theorem Tryz.size99 : (Tryz.prog.info? 99).map (·.size) = some 4 := by kernel_rfl
theorem Tryz.zero78 (w : World) : (zeroValue 78).run Tryz.prog w = .ok (.agg (i8s zeros12)) w := by kernel_rfl

/-! links as they lie -/

def tabF (tab : List (Nat × Pm)) : Int → Option Value := fun a => if 0 ≤ a then (tab.lookup a.toNat).map pv else none

def rawOf (l : Lk) : Raw := ⟨l.base, l.tab.length, tabF l.tab, l.tab.map (fun e => .int .i64 ((e.1 : Nat) : Int)), l.gens⟩

theorem tabF_nat (tab : List (Nat × Pm)) (b : Nat) : tabF tab (b : Int) = (tab.lookup b).map pv := by unfold tabF; rw [if_pos (by omega), Int.toNat_natCast]

theorem hasC_step {C : List Lk} {j : Nat} {l : Lk} (hl : C[j]? = some l) (q : Pm) : hasC (C.drop j) q = (l.tab.lookup (q.act l.base)).elim false (fun u => hasC (C.drop (j + 1)) (u⁻¹ * q)) := by
  obtain ⟨hj, rfl⟩ := List.getElem?_eq_some_iff.1 hl
  rw [List.drop_eq_getElem_cons hj]
  rfl

theorem owns_slice12 {w : World} {base e size n : Nat} {v : Value} {xs : List Value} (h : w.ownsRow base e size v n xs) : ∃ p cap, v = .slice p n cap := by
  rcases h.2 with ⟨rfl, rfl⟩ | ⟨g, cap, cur, rfl, _⟩
  · exact ⟨none, 0, rfl⟩
  · exact ⟨_, cap, rfl⟩

theorem heap_setCells_ne (b : Nat) : ∀ (vs : List Value) (o : Nat) (w : World) (x : Nat), x ≠ b → (w.setCells b o vs).heap[x]? = w.heap[x]?
  | [], _, _, _, _ => rfl
  | v :: r, o, w, x, h => by
    rw [World.setCells, heap_setCells_ne b r (o + 1) _ x h]
    exact Below.heap_setCell w ⟨b, o, none⟩ v x h

theorem Arr.there {w : World} {b : Nat} {zs : List Int} (h : Arr w b zs) : w.there b 0 12 := fun j hj => by
  rw [Nat.zero_add]
  exact ⟨by rw [(h.cell hj).1]; rfl, (h.cell hj).2⟩

theorem i8_one (ys : List Int) : ∀ v ∈ ys.map (Value.int .i8), v.oneCell' = true := by
  intro v hv
  obtain ⟨a, _, rfl⟩ := List.mem_map.1 hv
  rfl

/-- A whole array stored, cell by cell. -/
theorem store_cells {w : World} {b : Nat} {zs ys : List Int} (h : Arr w b zs) (hl : ys.length = 12) : Arr (w.setCells b 0 (ys.map (Value.int .i8))) b ys ∧ w.grownBy (w.setCells b 0 (ys.map (Value.int .i8))) (some b) := by
  obtain ⟨w', hrun, h1, h2⟩ := run_store_arr (ys := ys) h hl
  have hrun' := run_storeAt_mid (P := Tryz.prog) w b 0 78 (i8s ys) (by rw [i8s_size, hl]; exact h.there) (by rw [Tryz.size78, i8s_size, hl]) (i8s_one ys)
  rw [hrun] at hrun'
  have e := (Result.ok.inj hrun').2
  have e2 : (i8s ys).toList = ys.map (Value.int .i8) := by simp [i8s]
  rw [e2] at e
  rw [← e]
  exact ⟨h1, h2⟩

theorem pback_raw (x : Pm) (w : World) : Calls Tryz.prog 105 #[.agg (x.l.map (Value.int .i8)).toArray] w fun e w' => e = .returned (.agg (x⁻¹.l.map (Value.int .i8)).toArray) ∧ Below w.heap.size w w' := pback_ok x w
theorem ptimes_raw (x y : Pm) (w : World) : Calls Tryz.prog 70 #[.agg (x.l.map (Value.int .i8)).toArray, .agg (y.l.map (Value.int .i8)).toArray] w fun e w' => e = .returned (.agg ((x * y).l.map (Value.int .i8)).toArray) ∧ Below w.heap.size w w' := ptimes_ok x y w

theorem undrew {w w' : World} (h : Below w.drew.heap.size w.drew w') : Below w.heap.size w w' := ⟨h.os, h.tape, h.output, h.size, h.block⟩

/-- What a look-up in a link gives. -/
theorem look_tab (tab : List (Nat × Pm)) (b : Nat) : ∃ (ys : List Int) (t : Bool), ys.length = 12 ∧ (tabF tab (b : Int)).getD (.agg (i8s zeros12)) = .agg (i8s ys) ∧ (tabF tab (b : Int)).isSome = t ∧ Hid ((t = true → ∃ u, tab.lookup b = some u ∧ ys = u.l) ∧ (t = false → tab.lookup b = none)) := by
  rw [tabF_nat]
  cases h : tab.lookup b with
  | none => exact ⟨zeros12, false, rfl, rfl, rfl, And.intro (fun h => Bool.noConfusion h) (fun _ => rfl)⟩
  | some u => exact ⟨u.l, true, u.len, rfl, rfl, And.intro (fun _ => ⟨u, rfl, rfl⟩) (fun h => Bool.noConfusion h)⟩

set_option maxRecDepth 20000 in
set_option maxHeartbeats 2000000 in
theorem has_ok {B g : Nat} {st : Nat → St} (C : List Lk) (k : Nat) (p : Pm) (w : World) (hC : ChainAt w B g (C.map rawOf) st) (hk : k ≤ C.length) (h12 : C.length ≤ 12) (hb : ∀ l, l ∈ C → l.base < 12) :
    Calls Tryz.prog 97 #[.slice (some ⟨g, 0, none⟩) C.length C.length, .int .i64 k, pv p] w fun e w' => e = .returned (.bool (hasC (C.drop k) p)) ∧ Below w.heap.size w w' := by
  unfold pv
  have hp := p.len
  have HA := hide (Arr.new w p.l hp)
  have HCC := hide hC
  have HBB := hide hb
  by_cases hkn : k = C.length
  · have HE : Hid (hasC (C.drop k) p = true) := by show _ = _; rw [hkn, List.drop_length]; rfl
    subst hkn
    have h0 : C.length - C.length = 0 := Nat.sub_self _
    clear hC hb
    go_enter Tryz.func97, Tryz.ntmps97
    go_wp2
    go_loopw [15] (fun i wr => i = .int .i64 0 ∧ Below w.heap.size w wr) (fun _ _ => 0)
    case atStart => exact ⟨rfl, (Below.refl _ _).alloc (Nat.le_refl _) _⟩
    case round =>
      obtain ⟨rfl, hbw⟩ := hrel
      go_wp2
      go_ret
      exact ⟨by rw [HE.out]; rfl, hbw⟩
  · have hkn' : k < C.length := by omega
    clear hC hb
    go_enter Tryz.func97, Tryz.ntmps97
    go_wp2
    go_loopw [15] (fun i wr => ∃ (j : Nat) (q : Pm), k ≤ j ∧ j ≤ C.length ∧ i = .int .i64 ((j - k : Nat) : Int) ∧ Arr wr w.heap.size q.l ∧ Hid (hasC (C.drop j) q = hasC (C.drop k) p) ∧ Below w.heap.size w wr) (fun i _ => C.length - k - (intOf i).toNat)
    case atStart => exact ⟨k, p, Nat.le_refl _, hk, by rw [Nat.sub_self]; rfl, HA.out, rfl, (Below.refl _ _).alloc (Nat.le_refl _) _⟩
    case round =>
      obtain ⟨j, q, hkj, hj, rfl, hA, hh, hbw⟩ := hrel
      by_cases hlt : j < C.length
      · obtain ⟨l, hl⟩ : ∃ l, C[j]? = some l := ⟨_, List.getElem?_eq_getElem hlt⟩
        have hCr := HCC.out.below hbw (Nat.le_refl _)
        have lk := hCr.link j (rawOf l) (by rw [List.getElem?_map, hl]; rfl)
        have hbase : l.base < 12 := HBB.out l (List.mem_of_getElem? hl)
        have hS0 := hA.lt
        have HSt := hide (hasC_step hl q)
        rw [hh.out] at HSt
        have hm12 := q.act_lt hbase
        obtain ⟨ys, t, hyl, hyv, hyt, hyh⟩ := look_tab l.tab (q.act l.base)
        have hcq := (hA.cell hbase).1
        rw [q.getD_act hbase] at hcq
        have mlt := lk.mp.lt
        have hmp := lk.mp
        have c0 := lk.c0
        have c1 := lk.c1
        obtain ⟨pb, cb, ebv⟩ := owns_slice12 lk.bells
        obtain ⟨pg, cg, egv⟩ := owns_slice12 lk.gens
        have c2 := lk.c2
        have c3 := lk.c3
        rw [ebv] at c2
        rw [egv] at c3
        have hrange : wr.rangeAt g ((k * 4) + ((j - k) * 4)) [.int .i64 ((l.base : Nat) : Int), .map (some (st j).m), .slice pb (rawOf l).bs.length cb, .slice pg (rawOf l).gs.length cg] := by
          have e4 : k * 4 + (j - k) * 4 = 4 * j := by omega
          rw [e4]
          intro x v hv
          match x, hv with
          | 0, hv => rw [← Option.some.inj hv]; exact c0
          | 1, hv => rw [← Option.some.inj hv]; exact c1
          | 2, hv => rw [← Option.some.inj hv]; exact c2
          | 3, hv => rw [← Option.some.inj hv]; exact c3
          | x + 4, hv => cases hv
        have HLK : Hid (∀ W' : World, W'.heap[(st j).m]? = wr.heap[(st j).m]? → (Instr.lookup 97 (.map (some (st j).m)) (.int .i64 ((q.act l.base : Nat) : Int)) true).run Tryz.prog W' = .ok (.tuple #[.agg (i8s ys), .bool t]) W') := fun W' hW' => by
          have h1 := (hmp.of_block hW').look_ok (t := 97) Tryz.underlying97 (Tryz.zero78 W') (a := ((q.act l.base : Nat) : Int)) (by omega) (by omega)
          have h2 : (rawOf l).f = tabF l.tab := rfl
          rw [h2, hyv, hyt] at h1
          exact h1
        clear hmp c0 c1 c2 c3 hCr lk hyv hyt hh
        generalize (st j).m = m at *
        clear ebv egv
        generalize (rawOf l).bs.length = nb at *
        generalize (rawOf l).gs.length = ng at *
        generalize hbb : q.act l.base = b at *
        generalize hba : l.base = base at *
        have HBB2 := hide hbb
        have HBA := hide hba
        clear hbb hba
        go_wp2_with (refine wpList_load_mid rfl 99 _ rfl g _ rfl _ _ hrange Tryz.underlying99 rfl Tryz.size99 ?_)
        have hSg : ∀ W' : World, (∀ x, x < wr.heap.size + 1 → W'.heap[x]? = (wr.alloc (.cells #[.int .i64 (base : Int), .map (some m), .slice pb nb cb, .slice pg ng cg] 99)).heap[x]?) →
            (W'.cell? ⟨wr.heap.size, 0, none⟩ = some (.int .i64 (base : Int)) ∧ W'.cell? ⟨wr.heap.size, 1, none⟩ = some (.map (some m)) ∧ W'.cell? ⟨w.heap.size, base, none⟩ = some (.int .i8 (b : Int)) ∧
              (Instr.lookup 97 (.map (some m)) (.int .i64 (b : Int)) true).run Tryz.prog W' = .ok (.tuple #[.agg (ys.map (Value.int .i8)).toArray, .bool t]) W') := by
          intro W' hW'
          have hn := heap_alloc_last wr (.cells #[.int .i64 (base : Int), .map (some m), .slice pb nb cb, .slice pg ng cg] 99)
          refine ⟨?_, ?_, ?_, HLK.out W' (by rw [hW' m (by omega)]; exact Below.heap_alloc wr _ m mlt)⟩
          · rw [cell_of_row W' wr.heap.size 0 _ _ _ ((hW' wr.heap.size (by omega)).trans hn)]; rfl
          · rw [cell_of_row W' wr.heap.size 1 _ _ _ ((hW' wr.heap.size (by omega)).trans hn)]; rfl
          · rw [World.cell?_of_block (w := wr) (a := ⟨w.heap.size, base, none⟩) ((hW' w.heap.size (by omega)).trans (Below.heap_alloc wr _ _ hS0))]; exact hcq
        have hA1 := hA.alloc (.cells #[.int .i64 (base : Int), .map (some m), .slice pb nb cb, .slice pg ng cg] 99)
        have hB1 := hbw.alloc hbw.size (.cells #[.int .i64 (base : Int), .map (some m), .slice pb nb cb, .slice pg ng cg] 99)
        have hsz : (wr.alloc (.cells #[.int .i64 (base : Int), .map (some m), .slice pb nb cb, .slice pg ng cg] 99)).heap.size = wr.heap.size + 1 := by simp
        generalize hW1 : wr.alloc (.cells #[.int .i64 (base : Int), .map (some m), .slice pb nb cb, .slice pg ng cg] 99) = W1 at *
        clear hrange hcq HLK mlt hW1
        have hz : Arr (W1.alloc (.cells #[.int .i8 0, .int .i8 0, .int .i8 0, .int .i8 0, .int .i8 0, .int .i8 0, .int .i8 0, .int .i8 0, .int .i8 0, .int .i8 0, .int .i8 0, .int .i8 0] 78)).drew (wr.heap.size + 1) zeros12 := by rw [← hsz]; exact zeros_new W1
        have hst := store_cells hz (ys := ys) hyl
        have hth : (W1.alloc (.cells #[.int .i8 0, .int .i8 0, .int .i8 0, .int .i8 0, .int .i8 0, .int .i8 0, .int .i8 0, .int .i8 0, .int .i8 0, .int .i8 0, .int .i8 0, .int .i8 0] 78)).drew.there (wr.heap.size + 1) 0 (ys.map (Value.int .i8)).length := by
          rw [List.length_map, hyl]; exact hz.there
        have ho1 : ∀ v ∈ ys.map (Value.int .i8), v.oneCell' = true := i8_one ys
        have hin : (Tryz.prog.info? 78).map (·.size) = some (ys.map (Value.int .i8)).length := by rw [List.length_map, hyl]; exact Tryz.size78
        have hwb : IntKind.i64.wrap (b : Int) = (b : Int) := by rw [IntKind.wrap_i64]; omega
        have hbz : (0 : Int) ≤ (base : Int) := by omega
        have hbt : (base : Int) < 12 := by omega
        have hA3 : Arr ((W1.alloc (.cells #[.int .i8 0, .int .i8 0, .int .i8 0, .int .i8 0, .int .i8 0, .int .i8 0, .int .i8 0, .int .i8 0, .int .i8 0, .int .i8 0, .int .i8 0, .int .i8 0] 78)).drew.setCells (wr.heap.size + 1) 0 (ys.map (Value.int .i8))) w.heap.size q.l := (Arr.drew (hA1.alloc _)).kept hst.2 (by intro e; have := Option.some.inj e; omega)
        have hB3 : Below w.heap.size w ((W1.alloc (.cells #[.int .i8 0, .int .i8 0, .int .i8 0, .int .i8 0, .int .i8 0, .int .i8 0, .int .i8 0, .int .i8 0, .int .i8 0, .int .i8 0, .int .i8 0, .int .i8 0] 78)).drew.setCells (wr.heap.size + 1) 0 (ys.map (Value.int .i8))) := (hB1.alloc hB1.size _).drew.grown hst.2 (by have := hB1.size; simp; omega) (fun k h => by have := Option.some.inj h; omega)
        have hy3 := hst.1
        have HA3 := hide hA3
        have HB3 := hide hB3
        have HY3 := hide hy3
        have HSG := hide hSg
        clear hst hz hSg hA3 hB3 hy3
        go_region_held3 (fun W' => W'.cell? ⟨wr.heap.size, 0, none⟩ = some (.int .i64 (base : Int)) ∧ W'.cell? ⟨wr.heap.size, 1, none⟩ = some (.map (some m)) ∧ W'.cell? ⟨w.heap.size, base, none⟩ = some (.int .i8 (b : Int)) ∧
              (Instr.lookup 97 (.map (some m)) (.int .i64 (b : Int)) true).run Tryz.prog W' = .ok (.tuple #[.agg (ys.map (Value.int .i8)).toArray, .bool t]) W')
          (first | exact HSG.out _ (fun _ _ => rfl) | exact HSG.out _ (fun x hx => Below.heap_alloc W1.drew _ x (by show x < W1.heap.size; omega)) | exact HSG.out _ (fun x hx => (heap_setCells_ne _ _ _ _ _ (by show x ≠ _; omega)).trans (Below.heap_alloc W1.drew _ x (by show x < W1.heap.size; omega))))
          (fail)
        all_goals
          clear hth ho1 hin HSG
          have hSD : w.heap.size ≠ wr.heap.size + 1 := by omega
          generalize (W1.alloc (.cells #[.int .i8 0, .int .i8 0, .int .i8 0, .int .i8 0, .int .i8 0, .int .i8 0, .int .i8 0, .int .i8 0, .int .i8 0, .int .i8 0, .int .i8 0, .int .i8 0] 78)).drew.setCells (wr.heap.size + 1) 0 (ys.map (Value.int .i8)) = W3 at *
          have hA3 := HA3.out
          have hB3 := HB3.out
          have hY3 := HY3.out
          clear HA3 HB3 HY3 hA1 hB1 hsz hA hbw
          generalize wr.heap.size + 1 = D at *
          cases t with
          | false =>
            have hno := hyh.out.2 rfl
            have HE : Hid (hasC (C.drop k) p = false) := by show _ = _; have := HSt.out; rw [hno] at this; exact this
            go_wp2
            go_ret
            exact ⟨by rw [HE.out]; rfl, hB3⟩
          | true =>
            obtain ⟨u, hu, rfl⟩ := hyh.out.1 rfl
            have HE : Hid (hasC (C.drop (j + 1)) (u⁻¹ * q) = hasC (C.drop k) p) := by show _ = _; have := HSt.out; rw [hu] at this; exact this.symm
            have hDlt := hY3.lt
            have hlS := hA3.lt
            have hin1 : (Tryz.prog.info? 78).map (·.size) = some (u.l.map (Value.int .i8)).length := by rw [List.length_map, u.len]; exact Tryz.size78
            clear hyh hyl HSt hu
            go_wp2
            refine wp_region_held_drew (S := fun W' => Arr W' D u.l) (by kernel_rfl) hY3 (fun hS => ?_)
            refine wpAnyH_take (i := 0) rfl (by kernel_rfl) (by kernel_rfl) (by kernel_rfl) (fun _ _ _ h => h) (yieldsIf_load_mid (by rfl) _ _ rfl D 0 rfl (u.l.map (Value.int .i8)) _ (fun w' h => Arr.range h) Tryz.underlying78 rfl hin1) hS ?_
            refine wpAnyH_ready (rs := [1, 2]) (by kernel_rfl) (by simp) ?_
            refine AllReadyH.cons rfl (fun K hK => ?_) (AllReadyH.cons rfl (fun K hK => ?_) AllReadyH.nil)
            · go_simp
              refine (pback_raw u _).mono ?_
              rintro e w4 ⟨rfl, hb4⟩
              replace hb4 := undrew hb4
              have hY4 : Arr w4 D u.l := hY3.below hb4 hDlt
              have hA4 : Arr w4 w.heap.size q.l := hA3.below hb4 hlS
              have hB4 : Below w.heap.size w w4 := hB3.trans (hb4.mono hB3.size)
              refine hK.out _ _ hY4 (fun _ => ?_)
              clear hK hb4
              refine wpAnyH_ready (rs := [2]) (by kernel_rfl) (by simp) ?_
              refine AllReadyH.cons rfl (fun K hK => ?_) AllReadyH.nil
              refine step_load_arr rfl _ rfl _ _ hA4 rfl ?_
              refine hK.out _ _ hY4 (fun _ => ?_)
              clear hK
              refine wpAnyH_ready (rs := [3]) (by kernel_rfl) (by simp) ?_
              refine AllReadyH.cons rfl (fun K hK => ?_) AllReadyH.nil
              go_simp
              refine (ptimes_raw u⁻¹ q _).mono ?_
              rintro e w5 ⟨rfl, hb5⟩
              have hY5 : Arr w5 D u.l := hY4.below hb5 hY4.lt
              have hA5 : Arr w5 w.heap.size q.l := hA4.below hb5 hA4.lt
              have hB5 : Below w.heap.size w w5 := hB4.trans (hb5.mono hB4.size)
              refine hK.out _ _ hY5 (fun _ => ?_)
              clear hK hb5
              refine wpAnyH_ready (rs := [4]) (by kernel_rfl) (by simp) ?_
              refine AllReadyH.cons rfl (fun K hK => ?_) AllReadyH.nil
              refine step_store_arr rfl _ _ rfl w.heap.size q.l (u⁻¹ * q).l hA5 rfl rfl (u⁻¹ * q).len ?_
              intro w6 hA6 hg6
              refine hK.out _ _ (hY5.kept hg6 (fun e => hSD (Option.some.inj e))) (fun _ => ?_)
              clear hK
              have hB6 := hB5.grown hg6 hB5.size (fun k h => by have := Option.some.inj h; omega)
              refine wpAnyH_done (by kernel_rfl) ?_ _
              go_wp2
              go_roundw
              case rel =>
                have hfin : ∃ (j' : Nat) (q' : Pm), k ≤ j' ∧ j' ≤ C.length ∧ Value.int .i64 (((j - k : Nat) : Int) + 1) = .int .i64 ((j' - k : Nat) : Int) ∧ Arr w6 w.heap.size q'.l ∧ Hid (hasC (C.drop j') q' = hasC (C.drop k) p) ∧ Below w.heap.size w w6 :=
                  ⟨j + 1, u⁻¹ * q, by omega, by omega, by congr 1; omega, hA6, HE, hB6⟩
                first
                  | exact hfin
                  | ((repeat apply Exists.intro); exact ⟨hfin, rfl⟩)
              case measure => simp [intOf]; omega
            · refine step_load_arr rfl _ rfl _ _ hA3 rfl ?_
              refine hK.out _ _ hS (fun _ => ?_)
              clear hK
              refine wpAnyH_ready (rs := [1]) (by kernel_rfl) (by simp) ?_
              refine AllReadyH.cons rfl (fun K hK => ?_) AllReadyH.nil
              go_simp
              refine (pback_raw u _).mono ?_
              rintro e w4 ⟨rfl, hb4⟩
              replace hb4 := undrew hb4
              have hY4 : Arr w4 D u.l := hY3.below hb4 hDlt
              have hA4 : Arr w4 w.heap.size q.l := hA3.below hb4 hlS
              have hB4 : Below w.heap.size w w4 := hB3.trans (hb4.mono hB3.size)
              refine hK.out _ _ hY4 (fun _ => ?_)
              clear hK hb4
              refine wpAnyH_ready (rs := [3]) (by kernel_rfl) (by simp) ?_
              refine AllReadyH.cons rfl (fun K hK => ?_) AllReadyH.nil
              go_simp
              refine (ptimes_raw u⁻¹ q _).mono ?_
              rintro e w5 ⟨rfl, hb5⟩
              have hY5 : Arr w5 D u.l := hY4.below hb5 hY4.lt
              have hA5 : Arr w5 w.heap.size q.l := hA4.below hb5 hA4.lt
              have hB5 : Below w.heap.size w w5 := hB4.trans (hb5.mono hB4.size)
              refine hK.out _ _ hY5 (fun _ => ?_)
              clear hK hb5
              refine wpAnyH_ready (rs := [4]) (by kernel_rfl) (by simp) ?_
              refine AllReadyH.cons rfl (fun K hK => ?_) AllReadyH.nil
              refine step_store_arr rfl _ _ rfl w.heap.size q.l (u⁻¹ * q).l hA5 rfl rfl (u⁻¹ * q).len ?_
              intro w6 hA6 hg6
              refine hK.out _ _ (hY5.kept hg6 (fun e => hSD (Option.some.inj e))) (fun _ => ?_)
              clear hK
              have hB6 := hB5.grown hg6 hB5.size (fun k h => by have := Option.some.inj h; omega)
              refine wpAnyH_done (by kernel_rfl) ?_ _
              go_wp2
              go_roundw
              case rel =>
                have hfin : ∃ (j' : Nat) (q' : Pm), k ≤ j' ∧ j' ≤ C.length ∧ Value.int .i64 (((j - k : Nat) : Int) + 1) = .int .i64 ((j' - k : Nat) : Int) ∧ Arr w6 w.heap.size q'.l ∧ Hid (hasC (C.drop j') q' = hasC (C.drop k) p) ∧ Below w.heap.size w w6 :=
                  ⟨j + 1, u⁻¹ * q, by omega, by omega, by congr 1; omega, hA6, HE, hB6⟩
                first
                  | exact hfin
                  | ((repeat apply Exists.intro); exact ⟨hfin, rfl⟩)
              case measure => simp [intOf]; omega
      · obtain rfl : j = C.length := by omega
        have HE : Hid (hasC (C.drop k) p = true) := by show _ = _; rw [← hh.out, List.drop_length]; rfl
        go_wp2
        go_ret
        exact ⟨by rw [HE.out]; rfl, hbw⟩
end Go.Proofs.YtahffpgadoiijaaGreat
