/- Joined: Chn, Arr, ArrP, SaA, Mp, KMp, RefA, RefB. -/
import Derived.Test.YtoiiadiimfohiaaJ1
import Derived.Deep.WholeRow
import Derived.Deep.MidRow
import Derived.Maps.OwnSet
import Derived.DeepKeys5
/- Plain: a group as a chain of links: what it holds, when it is whole, and how one more row makes it greater (Schreier). -/
namespace Go.Proofs.Ytoiiadiimfohiaa

/-- A link: its base, what brings which bell there, its generators. -/
structure Lk where
  base : Nat
  tab : List (Nat × Pm)
  gens : List Pm

/-- The rows of a chain. -/
def Prd : List Lk → Pm → Prop
  | [], p => p = 1
  | l :: c, p => ∃ e, e ∈ l.tab ∧ ∃ h, Prd c h ∧ p = e.2 * h

structure LkOk (F : Nat → Prop) (l : Lk) : Prop where
  nodup : (l.tab.map (·.1)).Nodup
  brings : ∀ e, e ∈ l.tab → e.2.act l.base = e.1
  first : (l.base, (1 : Pm)) ∈ l.tab
  fix : ∀ e, e ∈ l.tab → Fixes F e.2

/-- F and one bell more. -/
def plus (F : Nat → Prop) (b : Nat) : Nat → Prop := fun x => F x ∨ x = b

def Whole : (Nat → Prop) → List Lk → Prop
  | F, [] => ∀ b, b < 12 → F b
  | F, l :: c => LkOk F l ∧ Whole (plus F l.base) c ∧ (∀ p, Prd (l :: c) p ↔ Gen (fun x => x ∈ l.gens) p)

theorem fixes_plus {F : Nat → Prop} {b : Nat} {x : Pm} : Fixes (plus F b) x ↔ Fixes F x ∧ x.act b = b :=
  ⟨fun h => ⟨fun a ha => h a (Or.inl ha), h b (Or.inr rfl)⟩, fun h a ha => by rcases ha with ha | rfl; exact h.1 a ha; exact h.2⟩

theorem prd_fix {c : List Lk} {F : Nat → Prop} {p : Pm} (hw : Whole F c) (h : Prd c p) : Fixes F p := by
  induction c generalizing F p with
  | nil => rw [show p = (1 : Pm) from h]; exact (fixes_sub _).one
  | cons l c ih =>
    obtain ⟨e, he, h, hh, hp⟩ := h
    rw [hp]
    exact (fixes_sub F).mul (hw.1.fix e he) (fixes_plus.1 (ih hw.2.1 hh)).1

theorem prd_sub {c : List Lk} {F : Nat → Prop} (hw : Whole F c) : Sub (Prd c) := by
  cases c with
  | nil => exact ⟨rfl, fun {x y} hx hy => by rw [show x = 1 from hx, show y = 1 from hy]; exact Pm.one_mul 1, fun {x} hx => by rw [show x = 1 from hx]; exact Pm.inv_one⟩
  | cons l c =>
    have h := hw.2.2
    exact ⟨(h 1).2 Gen.one, fun {x y} hx hy => (h _).2 (Gen.mul' ((h x).1 hx) ((h y).1 hy)), fun {x} hx => (h _).2 (Gen.inv ((h x).1 hx))⟩

/-- Does a chain hold a row? (As the code asks.) -/
noncomputable def hasC : List Lk → Pm → Bool
  | [], _ => true
  | l :: c, p => (l.tab.lookup (p.act l.base)).elim false (fun u => hasC c (u⁻¹ * p))

theorem lookup_mem {tab : List (Nat × Pm)} {b : Nat} {u : Pm} (h : tab.lookup b = some u) : (b, u) ∈ tab := by
  induction tab with
  | nil => simp at h
  | cons e t ih =>
    rw [List.lookup_cons] at h
    split at h
    · rename_i hb
      have hb : b = e.1 := by simpa using hb
      injection h with h
      subst h; subst hb; exact List.mem_cons_self
    · exact List.mem_cons_of_mem _ (ih h)

theorem lookup_of_mem {tab : List (Nat × Pm)} (hn : (tab.map (·.1)).Nodup) {b : Nat} {u : Pm} (h : (b, u) ∈ tab) : tab.lookup b = some u := by
  induction tab with
  | nil => cases h
  | cons e t ih =>
    rw [List.map_cons, List.nodup_cons] at hn
    rw [List.lookup_cons]
    rcases List.mem_cons.1 h with rfl | h
    · simp
    · have hne : ¬ b = e.1 := fun hb => hn.1 (List.mem_map.2 ⟨(b, u), h, hb⟩)
      split
      · rename_i hb; exact absurd (by simpa using hb) hne
      · exact ih hn.2 h

theorem lookup_none {tab : List (Nat × Pm)} {b : Nat} (h : tab.lookup b = none) : ∀ e, e ∈ tab → e.1 ≠ b := by
  induction tab with
  | nil => intro e he; cases he
  | cons x t ih =>
    rw [List.lookup_cons] at h
    split at h
    · cases h
    · rename_i hb
      intro e he
      rcases List.mem_cons.1 he with rfl | he
      · intro e2; exact absurd e2.symm (by simpa using hb)
      · exact ih h e he

theorem tab_eq {tab : List (Nat × Pm)} (hn : (tab.map (·.1)).Nodup) {b : Nat} {u v : Pm} (h1 : (b, u) ∈ tab) (h2 : (b, v) ∈ tab) : u = v := by
  have e1 := lookup_of_mem hn h1
  rw [lookup_of_mem hn h2] at e1
  injection e1 with e1; exact e1.symm

theorem has_iff {c : List Lk} {F : Nat → Prop} {p : Pm} (hw : Whole F c) (hf : Fixes F p) : hasC c p = true ↔ Prd c p := by
  induction c generalizing F p with
  | nil =>
    have := fixes_all hw hf
    simp [hasC, Prd, this]
  | cons l c ih =>
    obtain ⟨hok, hwc, _⟩ := hw
    cases hl : l.tab.lookup (p.act l.base) with
    | none =>
      simp only [hasC, hl, Option.elim]
      constructor
      · intro h; cases h
      · rintro ⟨e, he, h, hh, rfl⟩
        have h1 := (fixes_plus.1 (prd_fix hwc hh)).2
        rw [Pm.act_mul, h1, hok.brings e he] at hl
        exact absurd rfl (lookup_none hl e he)
    | some u =>
      have hm := lookup_mem hl
      have hb := hok.brings _ hm
      have hf2 : Fixes (plus F l.base) (u⁻¹ * p) := fixes_plus.2 ⟨(fixes_sub F).mul ((fixes_sub F).inv (hok.fix _ hm)) hf, by have hb : u.act l.base = p.act l.base := hb; rw [Pm.act_mul, ← hb, Pm.inv_act]⟩
      simp only [hasC, hl, Option.elim]
      rw [ih hwc hf2]
      constructor
      · intro h; exact ⟨_, hm, _, h, by rw [Pm.mul_inv_cancel]⟩
      · rintro ⟨e, he, h, hh, rfl⟩
        have h1 := (fixes_plus.1 (prd_fix hwc hh)).2
        rw [Pm.act_mul, h1, hok.brings e he] at hl
        have h2 := lookup_of_mem hok.nodup (b := e.1) (u := e.2) (by exact he)
        rw [h2] at hl
        injection hl with hl
        rw [← hl, Pm.inv_mul_cancel]
        exact hh

/-- A link that is being filled, and the chain behind it. -/
structure Part (F : Nat → Prop) (l : Lk) (c : List Lk) : Prop where
  ok : LkOk F l
  whole : Whole (plus F l.base) c
  inG : ∀ e, e ∈ l.tab → Gen (fun x => x ∈ l.gens) e.2
  cG : ∀ h, Prd c h → Gen (fun x => x ∈ l.gens) h
  gF : ∀ s, s ∈ l.gens → Fixes F s

def Done (l : Lk) (c : List Lk) (s : Pm) (e : Nat × Pm) : Prop := ∃ e', e' ∈ l.tab ∧ e'.1 = s.act e.1 ∧ Prd c (e'.2⁻¹ * (s * e.2))

theorem Part.closes {F : Nat → Prop} {l : Lk} {c : List Lk} (h : Part F l c) (hd : ∀ s, s ∈ l.gens → ∀ e, e ∈ l.tab → Done l c s e) : Whole F (l :: c) := by
  refine ⟨h.ok, h.whole, fun p => ⟨?_, ?_⟩⟩
  · rintro ⟨e, he, x, hx, rfl⟩
    exact Gen.mul' (h.inG e he) (h.cG x hx)
  · intro hp
    have hs := prd_sub h.whole
    induction hp with
    | one => exact ⟨_, h.ok.first, 1, hs.one, by rw [Pm.mul_one]⟩
    | mul hsg _ ih =>
      obtain ⟨e, he, x, hx, rfl⟩ := ih
      obtain ⟨e', he', _, hpr⟩ := hd _ hsg e he
      exact ⟨e', he', _, hs.mul hpr hx, by rw [Pm.mul_assoc e'.2⁻¹, Pm.mul_inv_cancel, Pm.mul_assoc]⟩

/-- What 'take' leaves: the rows of the chain are all that come of those that were there and the new one. -/
structure Took (c c' : List Lk) (p : Pm) : Prop where
  len : c'.length = c.length
  bases : c'.map (·.base) = c.map (·.base)
  grow : ∀ h, Prd c h → Prd c' h
  there : Prd c' p
  least : ∀ H, Sub H → (∀ h, Prd c h → H h) → H p → ∀ h, Prd c' h → H h

theorem Took.refl {c : List Lk} {p : Pm} (h : Prd c p) : Took c c p := ⟨rfl, rfl, fun _ h => h, h, fun _ _ h _ => h⟩

/-- What 'bring' leaves. -/
structure Brought (l : Lk) (c : List Lk) (l' : Lk) (c' : List Lk) (p : Pm) : Prop where
  base : l'.base = l.base
  gens : l'.gens = l.gens
  tab : ∃ more, l'.tab = l.tab ++ more
  len : c'.length = c.length
  bases : c'.map (·.base) = c.map (·.base)
  grow : ∀ h, Prd c h → Prd c' h
  there : ∃ e, e ∈ l'.tab ∧ e.1 = p.act l.base ∧ Prd c' (e.2⁻¹ * p)
  new : ∀ e, e ∈ l'.tab → e ∉ l.tab → ∀ s, s ∈ l.gens → Done l' c' s e

/-- An old bell: the link stands, the chain behind it takes what is left. -/
theorem Part.old {F : Nat → Prop} {l : Lk} {c c' : List Lk} {p u : Pm} (h : Part F l c) (hu : (p.act l.base, u) ∈ l.tab) (hp : Gen (fun x => x ∈ l.gens) p) (hw : Whole (plus F l.base) c') (ht : Took c c' (u⁻¹ * p)) :
    Part F l c' ∧ Brought l c l c' p := by
  refine ⟨⟨h.ok, hw, h.inG, fun x hx => ht.least _ (Gen.sub _) h.cG (Gen.mul' (Gen.inv (h.inG _ hu)) hp) x hx, h.gF⟩, ⟨rfl, rfl, ⟨[], by simp⟩, ht.len, ht.bases, ht.grow, ⟨_, hu, rfl, ht.there⟩, fun e he hn => absurd he hn⟩⟩

/-- A new bell: the link has one more entry. -/
def Lk.add (l : Lk) (b : Nat) (p : Pm) : Lk := { l with tab := l.tab ++ [(b, p)] }

theorem Part.add {F : Nat → Prop} {l : Lk} {c : List Lk} {p : Pm} (h : Part F l c) (hb : l.tab.lookup (p.act l.base) = none) (hf : Fixes F p) (hp : Gen (fun x => x ∈ l.gens) p) : Part F (l.add (p.act l.base) p) c := by
  refine ⟨⟨?_, ?_, ?_, ?_⟩, h.whole, ?_, h.cG, h.gF⟩
  · show ((l.tab ++ [(p.act l.base, p)]).map (·.1)).Nodup
    rw [List.map_append, List.nodup_append]
    refine ⟨h.ok.nodup, by simp, ?_⟩
    intro a ha b hb2 e
    obtain ⟨e0, he0, rfl⟩ := List.mem_map.1 ha
    have : b = p.act l.base := by simpa using hb2
    exact lookup_none hb e0 he0 (by rw [e, this])
  · intro e he
    rcases List.mem_append.1 he with he | he
    · exact h.ok.brings e he
    · rw [List.mem_singleton.1 he]; rfl
  · exact List.mem_append_left _ h.ok.first
  · intro e he
    rcases List.mem_append.1 he with he | he
    · exact h.ok.fix e he
    · rw [List.mem_singleton.1 he]; exact hf
  · intro e he
    rcases List.mem_append.1 he with he | he
    · exact h.inG e he
    · rw [List.mem_singleton.1 he]; exact hp

/-- The loop behind a new bell: after the first i generators. -/
structure Loop (l : Lk) (c : List Lk) (l0 : Lk) (l' : Lk) (c' : List Lk) (p : Pm) (i : Nat) : Prop where
  base : l'.base = l.base
  gens : l'.gens = l.gens
  tab : ∃ more, l'.tab = l.tab ++ more
  len : c'.length = c.length
  bases : c'.map (·.base) = c.map (·.base)
  grow : ∀ h, Prd c h → Prd c' h
  new : ∀ e, e ∈ l'.tab → e ∉ l.tab → ∀ s, s ∈ l.gens → Done l' c' s e
  done : ∀ s, s ∈ l.gens.take i → Done l' c' s (p.act l0.base, p)

theorem Done.mono {l l' : Lk} {c c' : List Lk} {s : Pm} {e : Nat × Pm} (h : Done l c s e) (ht : ∃ more, l'.tab = l.tab ++ more) (hg : ∀ h, Prd c h → Prd c' h) : Done l' c' s e := by
  obtain ⟨e', he', h1, h2⟩ := h
  obtain ⟨more, hm⟩ := ht
  exact ⟨e', by rw [hm]; exact List.mem_append_left _ he', h1, hg _ h2⟩

theorem Brought.trans_new {l l1 l2 : Lk} {c1 c2 : List Lk} {q : Pm} (hn : ∀ e, e ∈ l1.tab → e ∉ l.tab → ∀ s, s ∈ l.gens → Done l1 c1 s e) (hg : l1.gens = l.gens) (h : Brought l1 c1 l2 c2 q) :
    ∀ e, e ∈ l2.tab → e ∉ l.tab → ∀ s, s ∈ l.gens → Done l2 c2 s e := by
  intro e he hne s hs
  by_cases h1 : e ∈ l1.tab
  · exact (hn e h1 hne s hs).mono h.tab h.grow
  · exact h.new e he h1 s (by rw [hg]; exact hs)

theorem Loop.step {l l0 l' l2 : Lk} {c c' c2 : List Lk} {p s : Pm} {i : Nat} (h : Loop l c l0 l' c' p i) (hi : l.gens.take (i + 1) = l.gens.take i ++ [s]) (hb : l0.base = l.base) (h2 : Brought l' c' l2 c2 (s * p)) : Loop l c l0 l2 c2 p (i + 1) := by
  obtain ⟨m1, hm1⟩ := h.tab
  obtain ⟨m2, hm2⟩ := h2.tab
  refine ⟨h2.base.trans h.base, h2.gens.trans h.gens, ⟨m1 ++ m2, by rw [hm2, hm1, List.append_assoc]⟩, h2.len.trans h.len, h2.bases.trans h.bases, fun x hx => h2.grow x (h.grow x hx), Brought.trans_new h.new h.gens h2, ?_⟩
  intro t ht
  rw [hi] at ht
  rcases List.mem_append.1 ht with ht | ht
  · exact (h.done t ht).mono h2.tab h2.grow
  · rw [List.mem_singleton.1 ht]
    obtain ⟨e, he, h3, h4⟩ := h2.there
    refine ⟨e, he, ?_, h4⟩
    show e.1 = s.act (p.act l0.base)
    rw [h3, h.base, Pm.act_mul, hb]

/-- The loop begins with the link that has the new bell. -/
theorem Loop.start (l : Lk) (c : List Lk) (p : Pm) : Loop (l.add (p.act l.base) p) c l (l.add (p.act l.base) p) c p 0 :=
  ⟨rfl, rfl, ⟨[], by simp⟩, rfl, rfl, fun _ h => h, fun e he hn => absurd he hn, fun s hs => by simp at hs⟩

theorem Loop.brought {l l' : Lk} {c c' : List Lk} {p : Pm} {i : Nat} (hi : l.gens.length ≤ i) (hw : Prd c' 1) (h : Loop (l.add (p.act l.base) p) c l l' c' p i) : Brought l c l' c' p := by
  obtain ⟨m1, hm1⟩ := h.tab
  have hm : l'.tab = l.tab ++ ((p.act l.base, p) :: m1) := by rw [hm1]; show (l.tab ++ [_]) ++ m1 = _; simp
  refine ⟨h.base, h.gens, ⟨_, hm⟩, h.len, h.bases, h.grow, ⟨(p.act l.base, p), by rw [hm]; simp, rfl, by rw [Pm.inv_mul]; exact hw⟩, ?_⟩
  intro e he hne s hs
  by_cases h1 : e ∈ (l.add (p.act l.base) p).tab
  · rcases List.mem_append.1 h1 with h1 | h1
    · exact absurd h1 hne
    · rw [List.mem_singleton.1 h1]
      exact h.done s (by rw [List.take_of_length_le (by exact hi)]; exact hs)
  · exact h.new e he h1 s hs

/-- 'take': the link with one more generator. -/
def Lk.gen (l : Lk) (p : Pm) : Lk := { l with gens := l.gens ++ [p] }

theorem Whole.gen {F : Nat → Prop} {l : Lk} {c : List Lk} {p : Pm} (h : Whole F (l :: c)) (hf : Fixes F p) : Part F (l.gen p) c := by
  have hw := h
  obtain ⟨h1, h2, h3⟩ := h
  have hm : ∀ x, Gen (fun x => x ∈ l.gens) x → Gen (fun x => x ∈ (l.gen p).gens) x := fun x hx => hx.mono (fun s hs => List.mem_append_left _ hs)
  have hs := prd_sub h2
  refine ⟨⟨h1.nodup, h1.brings, h1.first, h1.fix⟩, h2, fun e he => hm _ ((h3 _).1 ⟨e, he, 1, hs.one, by rw [Pm.mul_one]⟩), fun x hx => hm _ ((h3 _).1 ⟨_, h1.first, x, hx, by rw [Pm.one_mul]⟩), fun s hs => ?_⟩
  rcases List.mem_append.1 hs with hs | hs
  · exact prd_fix hw ((h3 s).2 (Gen.of hs))
  · rw [List.mem_singleton.1 hs]; exact hf

/-- Of a whole chain all is done. -/
theorem Whole.done {F : Nat → Prop} {l : Lk} {c : List Lk} (h : Whole F (l :: c)) {s : Pm} (hs : s ∈ l.gens) {e : Nat × Pm} (he : e ∈ l.tab) : Done l c s e := by
  obtain ⟨h1, h2, h3⟩ := h
  have hsub := prd_sub h2
  have hp : Prd (l :: c) (s * e.2) := (h3 _).2 (Gen.mul hs ((h3 _).1 ⟨e, he, 1, hsub.one, by rw [Pm.mul_one]⟩))
  obtain ⟨e', he', x, hx, hq⟩ := hp
  refine ⟨e', he', ?_, by rw [hq, Pm.inv_mul_cancel]; exact hx⟩
  have h4 := (fixes_plus.1 (prd_fix h2 hx)).2
  have h5 : (s * e.2).act l.base = (e'.2 * x).act l.base := by rw [hq]
  rw [Pm.act_mul, Pm.act_mul, h4, h1.brings e he, h1.brings e' he'] at h5
  exact h5.symm

/-- The loop of 'take' over the bells that were there: after the first i. -/
structure TLoop (F : Nat → Prop) (l : Lk) (c : List Lk) (l' : Lk) (c' : List Lk) (p : Pm) (i : Nat) : Prop where
  part : Part F l' c'
  base : l'.base = l.base
  gens : l'.gens = l.gens ++ [p]
  tab : ∃ more, l'.tab = l.tab ++ more
  len : c'.length = c.length
  bases : c'.map (·.base) = c.map (·.base)
  grow : ∀ h, Prd c h → Prd c' h
  new : ∀ e, e ∈ l'.tab → e ∉ l.tab → ∀ s, s ∈ l'.gens → Done l' c' s e
  done : ∀ e, e ∈ l.tab.take i → Done l' c' p e

theorem TLoop.start {F : Nat → Prop} {l : Lk} {c : List Lk} {p : Pm} (h : Whole F (l :: c)) (hf : Fixes F p) : TLoop F l c (l.gen p) c p 0 :=
  ⟨h.gen hf, rfl, rfl, ⟨[], by simp [Lk.gen]⟩, rfl, rfl, fun _ h => h, fun e he hn => absurd he hn, fun e he => by simp at he⟩

theorem TLoop.step {F : Nat → Prop} {l l' l2 : Lk} {c c' c2 : List Lk} {p : Pm} {e : Nat × Pm} {i : Nat} (h : TLoop F l c l' c' p i) (hi : l.tab.take (i + 1) = l.tab.take i ++ [e]) (he : e.2.act l.base = e.1) (hp : Part F l2 c2) (h2 : Brought l' c' l2 c2 (p * e.2)) : TLoop F l c l2 c2 p (i + 1) := by
  obtain ⟨m1, hm1⟩ := h.tab
  obtain ⟨m2, hm2⟩ := h2.tab
  refine ⟨hp, h2.base.trans h.base, h2.gens.trans h.gens, ⟨m1 ++ m2, by rw [hm2, hm1, List.append_assoc]⟩, h2.len.trans h.len, h2.bases.trans h.bases, fun x hx => h2.grow x (h.grow x hx), ?_, ?_⟩
  · intro x hx hn s hs
    rw [h2.gens] at hs
    by_cases h1 : x ∈ l'.tab
    · exact (h.new x h1 hn s hs).mono h2.tab h2.grow
    · exact h2.new x hx h1 s hs
  · intro x hx
    rw [hi] at hx
    rcases List.mem_append.1 hx with hx | hx
    · exact (h.done x hx).mono h2.tab h2.grow
    · rw [List.mem_singleton.1 hx]
      obtain ⟨e', he', h3, h4⟩ := h2.there
      exact ⟨e', he', by rw [h3, h.base, Pm.act_mul, he], h4⟩

theorem TLoop.finish {F : Nat → Prop} {l l' : Lk} {c c' : List Lk} {p : Pm} {i : Nat} (h : TLoop F l c l' c' p i) (hw : Whole F (l :: c)) (hi : l.tab.length ≤ i) : Whole F (l' :: c') ∧ Took (l :: c) (l' :: c') p := by
  have hwh : Whole F (l' :: c') := by
    refine h.part.closes (fun s hs e he => ?_)
    by_cases h1 : e ∈ l.tab
    · rw [h.gens] at hs
      rcases List.mem_append.1 hs with hs | hs
      · exact (Whole.done hw hs h1).mono h.tab h.grow
      · rw [List.mem_singleton.1 hs]
        exact h.done e (by rw [List.take_of_length_le hi]; exact h1)
    · exact h.new e he h1 s hs
  refine ⟨hwh, ⟨by simp [h.len], by simp [h.base, h.bases], ?_, ?_, ?_⟩⟩
  · intro x hx
    refine (hwh.2.2 x).2 (((hw.2.2 x).1 hx).mono (fun s hs => ?_))
    show s ∈ l'.gens
    rw [h.gens]; exact List.mem_append_left _ hs
  · exact (hwh.2.2 p).2 (Gen.of (by show p ∈ l'.gens; rw [h.gens]; simp))
  · intro H hH hc hp x hx
    refine Gen.least hH (fun s hs => ?_) ((hwh.2.2 x).1 hx)
    have hs : s ∈ l'.gens := hs
    rw [h.gens] at hs
    rcases List.mem_append.1 hs with hs | hs
    · exact hc s ((hw.2.2 s).2 (Gen.of hs))
    · rw [List.mem_singleton.1 hs]; exact hp

end Go.Proofs.Ytoiiadiimfohiaa

/- Rows of twelve as arrays; contracts: rounds, pack, times, back, unpack. -/
namespace Go.Proofs.Ytoiiadiimfohiaa
open Go.RowKit

/-- Numbers as the cells of an array of int8. -/
def i8s (zs : List Int) : Array Value := (zs.map (Value.int .i8)).toArray

/-- A row as an array's value. -/
def pv (x : Pm) : Value := .agg (i8s x.l)

theorem i8s_size (zs : List Int) : (i8s zs).size = zs.length := by simp [i8s]

theorem i8s_get {zs : List Int} {j : Nat} (h : j < zs.length) : (i8s zs)[j]? = some (.int .i8 (zs.getD j 0)) := by
  simp [i8s, List.getD, h]

theorem i8s_one (zs : List Int) : (i8s zs).all (·.oneCell') = true := by
  rw [Array.all_eq_true_iff_forall_mem]
  intro v hv
  simp [i8s] at hv
  obtain ⟨a, _, rfl⟩ := hv
  rfl

theorem Try.info83 : (Try.prog.info? 83).map (fun i => (i.zero, i.size, i.bytes)) = some (some (.int .i8 0), 1, 1) := by kernel_rfl

theorem i8s_set (zs : List Int) (k : Nat) (y : Int) : (i8s zs).setIfInBounds k (.int .i8 y) = i8s (zs.set k y) := by
  apply Array.toList_inj.1
  simp [i8s]

def zeros12 : List Int := [0, 0, 0, 0, 0, 0, 0, 0, 0, 0, 0, 0]

theorem eq_one {zs : List Int} (hl : zs.length = 12) (h : ∀ j, j < 12 → zs.getD j 0 = (j : Int)) : zs = (1 : Pm).l := by rw [Pm.one_l]; exact eq_rnd hl h

end Go.Proofs.Ytoiiadiimfohiaa

/- Contracts: pack, unpack. -/
namespace Go.Proofs.Ytoiiadiimfohiaa
open Go.RowKit

theorem pack_step {xs : List Int} {k : Nat} (h1 : xs.length ≤ 12) (hk : k < xs.length) : (xs.take k ++ (rnd 12).drop k).set k (xs.getD k 0) = xs.take (k + 1) ++ (rnd 12).drop (k + 1) := by
  apply List.ext_getElem?
  intro i
  rw [List.getElem?_set, List.length_append, List.length_take, List.length_drop, rnd_length]
  by_cases e : k = i
  · subst e
    rw [if_pos rfl, if_pos (by omega), List.getElem?_append_left (by rw [List.length_take]; omega), List.getElem?_take]
    simp [List.getD, List.getElem?_eq_getElem hk]
  · rw [if_neg e]
    by_cases hi : i < k
    · rw [List.getElem?_append_left (by rw [List.length_take]; omega), List.getElem?_append_left (by rw [List.length_take]; omega), List.getElem?_take, List.getElem?_take, if_pos hi, if_pos (by omega)]
    · rw [List.getElem?_append_right (by rw [List.length_take]; omega), List.getElem?_append_right (by rw [List.length_take]; omega), List.getElem?_drop, List.getElem?_drop, List.length_take, List.length_take]
      congr 1
      omega

theorem below_alloc {w w1 : World} {o : Obj} (h : Below (w.alloc o).heap.size (w.alloc o) w1) : Below (w.heap.size + 1) (w.alloc o) w1 := by
  have e : (w.alloc o).heap.size = w.heap.size + 1 := by simp
  rwa [e] at h

end Go.Proofs.Ytoiiadiimfohiaa

/- Rows of twelve as search's arrays; contracts: search's rounds, times, pack. -/
namespace Go.Proofs.Ytoiiadiimfohiaa
open Go.RowKit

/-- A block that is an array of twelve int8. -/
def SAr (w : World) (b : Nat) (zs : List Int) : Prop := w.heap[b]? = some (.cells (i8s zs) 85) ∧ zs.length = 12

theorem Try.size85 : (Try.prog.info? 85).map (·.size) = some 12 := by kernel_rfl

theorem SAr.lt {w : World} {b : Nat} {zs : List Int} (h : SAr w b zs) : b < w.heap.size := (Array.getElem?_eq_some_iff.1 h.1).1

theorem SAr.cell {w : World} {b j : Nat} {zs : List Int} (h : SAr w b zs) (hj : j < 12) : w.cell? ⟨b, j, none⟩ = some (.int .i8 (zs.getD j 0)) ∧ w.frozen? ⟨b, j, none⟩ = false := by
  obtain ⟨h1, h2⟩ := h
  constructor
  · rw [cell_of_row _ _ j _ _ _ h1]; exact i8s_get (by omega)
  · simp [World.frozen?, h1]

theorem SAr.at {w : World} {b j : Nat} {zs : List Int} (h : SAr w b zs) (hj : j < 12) : ∃ y, Hid (zs.getD j 0 = y) ∧ w.cell? ⟨b, j, none⟩ = some (.int .i8 y) ∧ w.frozen? ⟨b, j, none⟩ = false :=
  ⟨_, rfl, (h.cell hj).1, (h.cell hj).2⟩

theorem SAr.set {w : World} {b k : Nat} {zs : List Int} (h : SAr w b zs) (y : Int) : SAr (w.setCell ⟨b, k, none⟩ (.int .i8 y)) b (zs.set k y) := by
  refine ⟨?_, by rw [List.length_set]; exact h.2⟩
  rw [← i8s_set]
  simp [World.setCell, Array.getElem?_modify, h.1]

theorem SAr.kept {w w' : World} {b : Nat} {zs : List Int} {row : Option Nat} (h : SAr w b zs) (hg : w.grownBy w' row) (hr : row ≠ some b) : SAr w' b zs :=
  ⟨(hg.block b h.lt (fun e => hr e.symm)).trans h.1, h.2⟩

theorem SAr.alloc {w : World} {b : Nat} {zs : List Int} (h : SAr w b zs) (o : Obj) : SAr (w.alloc o) b zs := ⟨by rw [Below.heap_alloc w o b h.lt]; exact h.1, h.2⟩

theorem SAr.drew {w : World} {b : Nat} {zs : List Int} (h : SAr w b zs) : SAr w.drew b zs := h

theorem SAr.below {w w' : World} {b B : Nat} {zs : List Int} (h : SAr w b zs) (hb : Below B w w') (hB : b < B) : SAr w' b zs := ⟨by rw [hb.block b hB]; exact h.1, h.2⟩

theorem SAr.new (w : World) (zs : List Int) (hl : zs.length = 12) : SAr (w.alloc (.cells (i8s zs) 85)) w.heap.size zs := ⟨heap_alloc_last w _, hl⟩

theorem SAr.range {w : World} {b : Nat} {zs : List Int} (h : SAr w b zs) : w.rangeAt b 0 (zs.map (Value.int .i8)) := by
  intro j v hv
  have hj : j < zs.length := by have := (List.getElem?_eq_some_iff.1 hv).1; simpa using this
  rw [Nat.zero_add, (h.cell (by rw [← h.2]; exact hj)).1]
  rw [← hv]
  simp [List.getD, hj]

theorem szeros_new (w : World) : SAr (w.alloc (.cells #[.int .i8 0, .int .i8 0, .int .i8 0, .int .i8 0, .int .i8 0, .int .i8 0, .int .i8 0, .int .i8 0, .int .i8 0, .int .i8 0, .int .i8 0, .int .i8 0] 85)) w.heap.size zeros12 :=
  SAr.new w zeros12 rfl

/-- The whole array is read. -/
theorem wpList_load_sar {ops : Array Oper} {rest : List Oper} {op : Oper} {a : Act} {w : World} {Q : Exit → Act → World → Prop} (hgd : op.guard = none) (x : Operand) (ho : op.op = .load 85 x)
    (b : Nat) (zs : List Int) (hA : SAr w b zs) (hx : a.eval x = .pointer (some ⟨b, 0, none⟩))
    (h : wpList Try.prog ops Q rest (a.put op.dst (.agg (i8s zs))) w) : wpList Try.prog ops Q (op :: rest) a w :=
  wpList_load_mid hgd _ x ho b 0 hx (zs.map (Value.int .i8)) _ hA.range Try.underlying85 rfl (by rw [Try.size85, List.length_map, hA.2]) h

theorem run_load_sar {w : World} {b : Nat} {zs : List Int} (hA : SAr w b zs) : (Instr.loadAt 85 (.pointer (some ⟨b, 0, none⟩))).run Try.prog w = .ok (.agg (i8s zs)) w :=
  run_loadAt_mid w b 0 _ (zs.map (Value.int .i8)) _ hA.range Try.underlying85 rfl (by rw [Try.size85, List.length_map, hA.2])

/-- .. and written. -/
theorem run_store_sar {w : World} {b : Nat} {zs ys : List Int} (hA : SAr w b zs) (hl : ys.length = 12) : ∃ w', (Instr.storeAt 85 (.pointer (some ⟨b, 0, none⟩)) (.agg (i8s ys))).run Try.prog w = .ok () w' ∧ SAr w' b ys ∧ w.grownBy w' (some b) := by
  refine ⟨w.setRow b (i8s ys), ?_, ⟨?_, hl⟩, ⟨rfl, rfl, rfl, by simp [World.setRow], fun i hi hne => ?_⟩⟩
  · simp only [Instr.storeAt, Instr.sureAddr, Sem.run_bind, Sem.run_pure, Result.andThen]
    exact run_storeVar_row w b _ _ _ _ hA.1 (by rw [Try.size85, i8s_size, hl]) (by rw [i8s_size, i8s_size, hl, hA.2]) (i8s_one ys)
  · simp [World.setRow, Array.getElem?_modify, hA.1]
  · simp only [World.setRow, Array.getElem?_modify]
    rw [if_neg (fun e => hne (by rw [e]))]

theorem wpList_store_sar {ops : Array Oper} {rest : List Oper} {op : Oper} {a : Act} {w : World} {Q : Exit → Act → World → Prop} (hgd : op.guard = none) (x y : Operand) (ho : op.op = .store 85 x y)
    (b : Nat) (zs ys : List Int) (hA : SAr w b zs) (hx : a.eval x = .pointer (some ⟨b, 0, none⟩)) (hy : a.eval y = .agg (i8s ys)) (hl : ys.length = 12)
    (h : ∀ w', SAr w' b ys → w.grownBy w' (some b) → wpList Try.prog ops Q rest (a.put op.dst undef) w') : wpList Try.prog ops Q (op :: rest) a w := by
  refine wpList_plain hgd fun K hK => ?_
  obtain ⟨w', hrun, h1, h2⟩ := run_store_sar (ys := ys) hA hl
  unfold Oper.wp execOp
  simp only [ho, hx, hy, hrun, Sem.run_bind, Sem.run_pure, Result.andThen_ok]
  exact hK _ _ (h w' h1 h2)

theorem run_loadVar_sar {w : World} {b : Nat} {zs : List Int} (hA : SAr w b zs) : (loadVar 85 ⟨b, 0, none⟩).run Try.prog w = .ok (.agg (i8s zs)) w :=
  run_loadVar_mid w b 0 _ (zs.map (Value.int .i8)) _ hA.range Try.underlying85 rfl (by rw [Try.size85, List.length_map, hA.2])

theorem SAr.set_other {w : World} {b b' k : Nat} {zs : List Int} (h : SAr w b zs) (hne : b ≠ b') (u : Value) : SAr (w.setCell ⟨b', k, none⟩ u) b zs :=
  ⟨by rw [Below.heap_setCell _ _ _ _ (by exact hne)]; exact h.1, h.2⟩

theorem run_index_sar {ys : List Int} (hl : ys.length = 12) {k : Nat} (hk : k < 12) (w : World) : (Instr.index 85 (.agg (i8s ys)) (.int .i64 (k : Int))).run Try.prog w = .ok (.int .i8 (ys.getD k 0)) w := by
  have h1 : (0 : Int) ≤ (k : Int) ∧ (k : Int) < ((12 : Nat) : Int) := by omega
  have h2 := i8s_get (zs := ys) (j := k) (by omega)
  obtain ⟨i0, hi, hz0, hz1, hz2⟩ := info_parts Try.info83
  have hs : (sizeOf 83).run Try.prog w = .ok 1 w := by simp [sizeOf, typeInfo, hi, hz1]
  have ha : (isAgg 83).run Try.prog w = .ok false w := by
    unfold isAgg
    rw [Sem.run_bind, run_underlying Try.underlying83 w]
    rfl
  simp [Instr.index, run_underlying Try.underlying85, asIntOf, hs, h2, go_sem]
  omega

/-- The result that lies in a cell. -/
theorem ret_sar {fn : Func} {R : Ending → World → Prop} {a : Act} {w : World} {p : Tmp} {b : Nat} {zs : List Int} (h : fn.results = #[.cell p 85]) (hp : a.tmps.getD p undef = .pointer (some ⟨b, 0, none⟩)) (hA : SAr w b zs) (hd : a.defers = []) (hR : R (.returned (.agg (i8s zs))) w) : bodyPost Try.prog fn R .ret a w :=
  bodyPost_ret (results_cell_row h a.tmps w b 85 (i8s zs) (0, 0) _ hp hA.1 Try.underlying85 rfl (by rw [Try.size85, i8s_size, hA.2])) hd hR

theorem SAr.new1 (w : World) (o1 : Obj) {zs : List Int} (hl : zs.length = 12) : SAr ((w.alloc o1).alloc (.cells (i8s zs) 85)) (w.heap.size + 1) zs := by
  have := SAr.new (w.alloc o1) zs hl
  simpa using this
theorem SAr.new2 (w : World) (o1 o2 : Obj) {zs : List Int} (hl : zs.length = 12) : SAr (((w.alloc o1).alloc o2).alloc (.cells (i8s zs) 85)) (w.heap.size + 2) zs := by
  have := SAr.new1 (w.alloc o1) o2 hl
  simpa using this
theorem SAr.new3 (w : World) (o1 o2 o3 : Obj) {zs : List Int} (hl : zs.length = 12) : SAr ((((w.alloc o1).alloc o2).alloc o3).alloc (.cells (i8s zs) 85)) (w.heap.size + 3) zs := by
  have := SAr.new2 (w.alloc o1) o2 o3 hl
  simpa using this

set_option maxRecDepth 20000 in
set_option maxHeartbeats 1000000 in
theorem srounds_ok (w : World) : Calls Try.prog 49 #[] w fun e w' => e = .returned (pv 1) ∧ Below w.heap.size w w' := by
  go_enter Try.func49, Try.ntmps49
  go_wp2
  go_loopw [3] (fun i wr => ∃ (k : Nat) (zs : List Int), k ≤ 12 ∧ i = .int .i64 k ∧ SAr wr (w.heap.size + 1) zs ∧ SAr wr w.heap.size zeros12 ∧ Hid (∀ j, j < k → zs.getD j 0 = (j : Int)) ∧ Below w.heap.size w wr) (fun i _ => 12 - (intOf i).toNat)
  case atStart => exact ⟨0, zeros12, by omega, rfl, by have := szeros_new (w.alloc (.cells (i8s zeros12) 85)); simpa [i8s, zeros12] using this, (szeros_new w).alloc _, fun j hj => by omega, ((Below.refl _ _).alloc (Nat.le_refl _) _).alloc (by simp) _⟩
  case round =>
    obtain ⟨k, zs, hk, rfl, hA, hR, hz, hbw⟩ := hrel
    by_cases hlt : k < 12
    · obtain ⟨y, hy, hcx, hfx⟩ := hA.at hlt
      have HZ : Hid (∀ j, j < k + 1 → (zs.set k (k : Int)).getD j 0 = (j : Int)) := by
        intro j hj
        rw [getD_set (by rw [hA.2]; exact hlt)]
        split
        · omega
        · exact hz.out j (by omega)
      go_wp2
      go_roundw
      case rel => exact ⟨k + 1, _, by omega, by go_num, hA.set _, hR.set_other (by omega) _, HZ, hbw.setCell (by simp) _⟩
      case measure => simp [intOf]; omega
    · have hl := hA.2
      have HE := hide (eq_one hl (fun j hj => hz.out j (by omega)))
      go_wp2_with (first | refine wpList_load_sar rfl _ rfl _ _ hA rfl ?_ | (refine wpList_store_sar rfl _ _ rfl _ _ _ hR rfl rfl hl ?_; intro w1 hR1 hg1))
      go_wp2
      exact ret_sar rfl rfl hR1 rfl ⟨by rw [HE.out]; rfl, hbw.grown hg1 hbw.size (fun k h => by cases h; exact Nat.le_refl _)⟩

set_option maxRecDepth 20000 in
set_option maxHeartbeats 1000000 in
theorem stimes_ok (x y : Pm) (w : World) : Calls Try.prog 99 #[pv x, pv y] w fun e w' => e = .returned (pv (x * y)) ∧ Below w.heap.size w w' := by
  unfold pv
  have hx := x.len
  have hy := y.len
  have hB : ∀ o1 o2 o3 o4 : Obj, Below w.heap.size w ((((w.alloc o1).alloc o2).alloc o3).alloc o4) := fun o1 o2 o3 o4 => ((((Below.refl _ _).alloc (Nat.le_refl _) o1).alloc (by simp) o2).alloc (by simp; omega) o3).alloc (by simp; omega) o4
  go_enter Try.func99, Try.ntmps99
  go_wp2_with (refine wpList_load_sar rfl _ rfl (w.heap.size + 1) y.l (((SAr.new1 w _ hy).alloc _).alloc _) rfl ?_)
  go_loopw [9] (fun i wr => ∃ (k : Nat) (zs : List Int), k ≤ 12 ∧ i = .int .i64 k ∧ SAr wr w.heap.size x.l ∧ SAr wr (w.heap.size + 2) zeros12 ∧ SAr wr (w.heap.size + 3) zs ∧ Hid (∀ j, j < k → zs.getD j 0 = (x * y).l.getD j 0) ∧ Below w.heap.size w wr) (fun i _ => 12 - (intOf i).toNat)
  case atStart => exact ⟨0, zeros12, by omega, rfl, (((SAr.new w x.l hx).alloc _).alloc _).alloc _, (SAr.new2 w _ _ (zs := zeros12) rfl).alloc _, SAr.new3 w _ _ _ (zs := zeros12) rfl, fun j hj => by omega, hB _ _ _ _⟩
  case round =>
    obtain ⟨k, zs, hk, rfl, hX, hR, hA, hz, hbw⟩ := hrel
    by_cases hlt : k < 12
    · obtain ⟨u, hu, hcx, hfx⟩ := hA.at hlt
      have hq : y.l.getD k 0 = ((y.act k : Nat) : Int) := y.getD_act hlt
      have hm := y.act_lt hlt
      have hidx := fun w => run_index_sar hy hlt w
      rw [hq] at hidx
      obtain ⟨p, hp, hcp, _⟩ := hX.at hm
      have HZ : Hid (∀ j, j < k + 1 → (zs.set k p).getD j 0 = (x * y).l.getD j 0) := by
        intro j hj
        rw [getD_set (by rw [hA.2]; exact hlt)]
        split
        · rename_i e; subst e
          rw [(x * y).getD_act hlt, Pm.act_mul, ← x.getD_act hm, hp.out]
        · exact hz.out j (by omega)
      clear hp hq hu
      generalize y.act k = m at *
      go_wp2
      go_roundw
      case rel => exact ⟨k + 1, _, by omega, by go_num, hX.set_other (by omega) _, hR.set_other (by omega) _, hA.set _, HZ, hbw.setCell (by simp; omega) _⟩
      case measure => simp [intOf]; omega
    · have hl := hA.2
      have HE : Hid (zs = (x * y).l) := ext_getD (by rw [hl, (x * y).len]) (fun j hj => hz.out j (by omega))
      go_wp2_with (first | refine wpList_load_sar rfl _ rfl _ _ hA rfl ?_ | (refine wpList_store_sar rfl _ _ rfl _ _ _ hR rfl rfl hl ?_; intro w1 hR1 hg1))
      go_wp2
      exact ret_sar rfl rfl hR1 rfl ⟨by rw [HE.out], hbw.grown hg1 hbw.size (fun k h => by cases h; omega)⟩

set_option maxRecDepth 20000 in
set_option maxHeartbeats 1000000 in
theorem spack_ok (v : Value) (xs : List Int) (w : World) (hI : Ints w v xs) (hr : isRow xs) (h1 : 1 ≤ xs.length) (h12 : xs.length ≤ 12) : Calls Try.prog 70 #[v] w fun e w' => e = .returned (pv (pad xs)) ∧ Below w.heap.size w w' := by
  unfold pv
  have HP := hide (pad_l h12 hr)
  have HR := hide hr
  have hl1 := (1 : Pm).len
  have HL1 : Hid ((1 : Pm).l = rnd 12) := Pm.one_l
  clear hr
  rcases hI with ⟨rfl, p, c, rfl⟩ | ⟨b1, o1, cap1, rfl, h01, hcp1, hm1, hb1, hcell1⟩
  · simp at h1
  · have HC := hide hcell1
    clear hcell1
    go_enter Try.func70, Try.ntmps70
    go_wp2_with fail
    refine (srounds_ok _).mono ?_
    unfold pv
    rintro e w1 ⟨rfl, hb⟩
    replace hb := below_alloc hb
    have hR := (szeros_new w).below hb (by omega)
    have hB : Below w.heap.size w w1 := ((Below.refl _ _).alloc (Nat.le_refl _) _).trans (hb.mono (by omega))
    have hS : w.heap.size < w1.heap.size := by have := hb.size; simp at this; omega
    clear hb
    go_wp2_with (refine wpList_store_sar rfl _ _ rfl w1.heap.size zeros12 _ (szeros_new w1) rfl rfl hl1 ?_; intro w2 hA2 hg2)
    have hR2 := (hR.alloc _).kept hg2 (by intro e; injection e with e; omega)
    have hB2 := (hB.alloc (by omega) _).grown hg2 (by simp; omega) (fun k h => by cases h; omega)
    rw [HL1.out] at hA2
    generalize w1.heap.size = D at *
    clear hR hB hg2
    go_wp2
    go_loopw [9] (fun i wr => ∃ k : Nat, k ≤ xs.length ∧ i = .int .i64 k ∧ SAr wr w.heap.size zeros12 ∧ SAr wr D (xs.take k ++ (rnd 12).drop k) ∧ Below w.heap.size w wr) (fun i _ => 12 - (intOf i).toNat)
    case atStart => exact ⟨0, by omega, rfl, hR2, hA2, hB2⟩
    case round =>
      clear hR2 hA2 hB2
      obtain ⟨k, hk, rfl, hR, hA, hbw⟩ := hrel
      by_cases hlt : k < xs.length
      · obtain ⟨y, hy, hcx⟩ := cellAt HC.out hlt
        have hpr := HR.out.at hlt
        rw [show xs.getD k 0 = y from hy.out] at hpr
        obtain ⟨m, rfl⟩ := Int.eq_ofNat_of_zero_le hpr.1
        have hm12 : m < 12 := by omega
        have gp : wr.cell? ⟨b1, o1 + k, none⟩ = some (.int .i64 (m : Int)) := (hbw.cell (by exact hb1)).trans hcx
        obtain ⟨u, hu, hcu, hfu⟩ := hA.at (show k < 12 by omega)
        have HS := hide (pack_step h12 hlt)
        rw [show xs.getD k 0 = (m : Int) from hy.out] at HS
        clear hpr hcx hu
        go_wp2
        go_roundw
        case rel => exact ⟨k + 1, by omega, by go_num, hR.set_other (by omega) _, by rw [← HS.out]; exact hA.set _, hbw.setCell (by simp; omega) _⟩
        case measure => simp [intOf]; omega
      · obtain rfl : k = xs.length := by omega
        have hl := hA.2
        have HE : Hid (xs.take xs.length ++ (rnd 12).drop xs.length = (pad xs).l) := by show _ = _; rw [HP.out, List.take_length]
        rw [HE.out] at hA hl
        go_wp2_with (first | refine wpList_load_sar rfl _ rfl _ _ hA rfl ?_ | (refine wpList_store_sar rfl _ _ rfl _ _ _ hR rfl rfl hl ?_; intro w1 hR1 hg1))
        go_wp2
        exact ret_sar rfl rfl hR1 rfl ⟨rfl, hbw.grown hg1 hbw.size (fun k h => by cases h; omega)⟩

end Go.Proofs.Ytoiiadiimfohiaa

/- Maps keyed by int, whatever their elements: what they hold, as a function. -/
namespace Go.Proofs.Ytoiiadiimfohiaa
open Go.RowKit Go.Maps

/-- An element, held as it is. -/
def heldElem (v : Value) : Option (DataW Value × List MemPlace) := some (.held v, [])

theorem Try.zero3 (w : World) : (zeroValue 3).run Try.prog w = .ok (.int .i64 0) w := by kernel_rfl

theorem Try.zero4 (w : World) : (zeroValue 4).run Try.prog w = .ok (.bool false) w := by kernel_rfl

theorem keyedI : Keyed Try.prog 3 := int_keyed Try.underlying3

/-- Block b is a map of at most n entries, which holds what f says. -/
def IMap (w : World) (b n : Nat) (f : Int → Option Value) : Prop :=
  ∃ D : DataW Value, w.ownsMap Try.prog 3 heldElem b n D ∧ ∀ a : Int, Maps.has D (.int .i64 a) = (f a).isSome ∧ ∀ v, f a = some v → ∀ z, D.atKey (.int .i64 a) z = .held v

theorem IMap.lt {w : World} {b n : Nat} {f : Int → Option Value} (h : IMap w b n f) : b < w.heap.size := by
  obtain ⟨D, h1, _⟩ := h; exact h1.lt

theorem IMap.obj {w : World} {b n : Nat} {f : Int → Option Value} (h : IMap w b n f) : ∃ es clock, w.heap[b]? = some (.map es clock) := by
  obtain ⟨D, ⟨es, c, h1, _⟩, _⟩ := h; exact ⟨es, c, h1⟩

theorem IMap.of_block {w w' : World} {b n : Nat} {f : Int → Option Value} (h : IMap w b n f) (hb : w'.heap[b]? = w.heap[b]?) : IMap w' b n f := by
  obtain ⟨D, ⟨es, c, h1, h2⟩, h3⟩ := h; exact ⟨D, ⟨es, c, hb.trans h1, h2⟩, h3⟩

theorem IMap.alloc {w : World} {b n : Nat} {f : Int → Option Value} (h : IMap w b n f) (o : Obj) : IMap (w.alloc o) b n f := h.of_block (Below.heap_alloc w o b h.lt)

theorem IMap.below {w w' : World} {b n B : Nat} {f : Int → Option Value} (h : IMap w b n f) (hb : Below B w w') (hB : b < B) : IMap w' b n f := h.of_block (hb.block b hB)

theorem IMap.mono {w : World} {b n m : Nat} {f : Int → Option Value} (h : IMap w b n f) (hn : n ≤ m) : IMap w b m f := by
  obtain ⟨D, h1, h2⟩ := h; exact ⟨D, h1.mono hn, h2⟩

theorem IMap.made (w : World) : IMap (w.alloc (.map #[] 0)) w.heap.size 0 (fun _ => none) :=
  ⟨.map [], World.ownsMap_made _ _ _ _, fun a => ⟨rfl, fun v h => by cases h⟩⟩

theorem IMap.congr {w : World} {b n : Nat} {f f' : Int → Option Value} (h : IMap w b n f) (e : ∀ a, f a = f' a) : IMap w b n f' := by
  rw [show f' = f from funext (fun a => (e a).symm)]; exact h

theorem wfI {a : Int} (h1 : -9223372036854775808 ≤ a) (h2 : a ≤ 9223372036854775807) : keyOf Try.prog 3 (.int .i64 a) = some (.int .i64 a) :=
  keyOf_int_mk Try.underlying3 (WalkArith.wf_i64 ⟨h1, h2⟩)

/-- 'v, ok := m[a]'. -/
theorem IMap.look_ok {w : World} {b n : Nat} {f : Int → Option Value} (h : IMap w b n f) {t e : TypeId} (ht : Try.prog.underlying t = some (.map 3 e)) {z : Value} (hz : (zeroValue e).run Try.prog w = .ok z w) {a : Int} (h1 : -9223372036854775808 ≤ a) (h2 : a ≤ 9223372036854775807) :
    (Instr.lookup t (.map (some b)) (.int .i64 a) true).run Try.prog w = .ok (.tuple #[(f a).getD z, .bool (f a).isSome]) w := by
  obtain ⟨D, hD, hf⟩ := h
  obtain ⟨v, ps, hrun, hv⟩ := hD.look_ok keyedI ht hz (zd := .held z) (zp := []) rfl (wfI h1 h2)
  have hv' : DataW.held v = D.atKey (.int .i64 a) (.held z) := (Prod.mk.inj (Option.some.inj hv)).1
  rw [hrun, (hf a).1]
  cases hfa : f a with
  | none =>
    have hh := (hf a).1
    rw [hfa] at hh
    rw [atKey_of_not_has hh] at hv'
    rw [DataW.held.inj hv']; rfl
  | some u =>
    rw [(hf a).2 u hfa] at hv'
    rw [DataW.held.inj hv']; rfl

/-- 'm[a]'. -/
theorem IMap.look {w : World} {b n : Nat} {f : Int → Option Value} (h : IMap w b n f) {t e : TypeId} (ht : Try.prog.underlying t = some (.map 3 e)) {z : Value} (hz : (zeroValue e).run Try.prog w = .ok z w) {a : Int} (h1 : -9223372036854775808 ≤ a) (h2 : a ≤ 9223372036854775807) :
    (Instr.lookup t (.map (some b)) (.int .i64 a) false).run Try.prog w = .ok ((f a).getD z) w := by
  obtain ⟨D, hD, hf⟩ := h
  obtain ⟨v, ps, hrun, hv⟩ := hD.lookup keyedI ht hz (zd := .held z) (zp := []) rfl (wfI h1 h2)
  have hv' : DataW.held v = D.atKey (.int .i64 a) (.held z) := (Prod.mk.inj (Option.some.inj hv)).1
  rw [hrun]
  cases hfa : f a with
  | none =>
    have hh := (hf a).1
    rw [hfa] at hh
    rw [atKey_of_not_has hh] at hv'
    rw [DataW.held.inj hv']; rfl
  | some u =>
    rw [(hf a).2 u hfa] at hv'
    rw [DataW.held.inj hv']; rfl

def upd (f : Int → Option Value) (a : Int) (v : Value) : Int → Option Value := fun x => if x = a then some v else f x

/-- 'm[a] = v'. -/
theorem IMap.put {w : World} {b n : Nat} {f : Int → Option Value} (h : IMap w b n f) {t e : TypeId} (ht : Try.prog.underlying t = some (.map 3 e)) (hn : n < maxLen) {a : Int} (h1 : -9223372036854775808 ≤ a) (h2 : a ≤ 9223372036854775807) (v : Value) :
    ∃ w', (Instr.mapUpdate t (.map (some b)) (.int .i64 a) v).run Try.prog w = .ok () w' ∧ IMap w' b (n + 1) (upd f a v) ∧ w.grownBy w' (some b) := by
  obtain ⟨D, hD, hf⟩ := h
  obtain ⟨w', hrun, hD', hg⟩ := hD.update (val := v) (d := .held v) (ps := []) keyedI ht hn (wfI h1 h2) rfl
  have hkey : WideAt.IsKeyLit (.int .i64 a) := keyedI.key (wfI h1 h2)
  refine ⟨w', hrun, ⟨_, hD', fun x => ?_⟩, hg⟩
  unfold upd
  by_cases e : x = a
  · subst e
    rw [if_pos rfl]
    exact ⟨has_put_same hD.isMap hkey _, fun u hu z => by rw [← Option.some.inj hu]; exact atKey_put_same hD.isMap hkey _ _⟩
  · have hne : (Lit.int .i64 x) ≠ Lit.int .i64 a := fun h => e (Lit.int.inj h).2
    rw [if_neg e]
    exact ⟨by rw [has_put_other hne]; exact (hf x).1, fun u hu z => by rw [atKey_put_other hne]; exact (hf x).2 u hu z⟩

/-! at the operation -/
section
variable {ops : Array Oper} {rest : List Oper} {o : Oper} {a : Act} {w : World} {Q : Exit → Act → World → Prop}

theorem wpList_look_ok (hg : o.guard = none) (m x : Operand) (t : TypeId) (hop : o.op = Op.lookup t m x true) (e : TypeId) (ht : Try.prog.underlying t = some (.map 3 e)) {z : Value} (hz : (zeroValue e).run Try.prog w = .ok z w)
    {b n : Nat} {f : Int → Option Value} (h : IMap w b n f) (k : Int) (hm : a.eval m = .map (some b)) (hx : a.eval x = .int .i64 k) (h1 : -9223372036854775808 ≤ k) (h2 : k ≤ 9223372036854775807)
    (hK : wpList Try.prog ops Q rest (a.put o.dst (.tuple #[(f k).getD z, .bool (f k).isSome])) w) : wpList Try.prog ops Q (o :: rest) a w := by
  refine wpList_plain hg fun K' hK' => ?_
  have hrun := h.look_ok ht hz h1 h2
  unfold Oper.wp
  simp [execOp, hop, hm, hx, hrun, Result.andThen]
  exact hK' _ _ hK

theorem wpList_look (hg : o.guard = none) (m x : Operand) (t : TypeId) (hop : o.op = Op.lookup t m x false) (e : TypeId) (ht : Try.prog.underlying t = some (.map 3 e)) {z : Value} (hz : (zeroValue e).run Try.prog w = .ok z w)
    {b n : Nat} {f : Int → Option Value} (h : IMap w b n f) (k : Int) (hm : a.eval m = .map (some b)) (hx : a.eval x = .int .i64 k) (h1 : -9223372036854775808 ≤ k) (h2 : k ≤ 9223372036854775807)
    (hK : wpList Try.prog ops Q rest (a.put o.dst ((f k).getD z)) w) : wpList Try.prog ops Q (o :: rest) a w := by
  refine wpList_plain hg fun K' hK' => ?_
  have hrun := h.look ht hz h1 h2
  unfold Oper.wp
  simp [execOp, hop, hm, hx, hrun, Result.andThen]
  exact hK' _ _ hK

theorem wpList_put (hg : o.guard = none) (m x v : Operand) (t : TypeId) (hop : o.op = Op.mapUpdate t m x v) (e : TypeId) (ht : Try.prog.underlying t = some (.map 3 e))
    {b n : Nat} {f : Int → Option Value} (h : IMap w b n f) (hn : n < maxLen) (k : Int) (val : Value) (hm : a.eval m = .map (some b)) (hx : a.eval x = .int .i64 k) (hv : a.eval v = val) (h1 : -9223372036854775808 ≤ k) (h2 : k ≤ 9223372036854775807)
    (hK : ∀ w', IMap w' b (n + 1) (upd f k val) → w.grownBy w' (some b) → wpList Try.prog ops Q rest (a.put o.dst undef) w') : wpList Try.prog ops Q (o :: rest) a w := by
  refine wpList_plain hg fun K' hK' => ?_
  obtain ⟨w', hrun, r1, r2⟩ := h.put ht hn h1 h2 val
  unfold Oper.wp
  simp [execOp, hop, hm, hx, hv, hrun, Result.andThen]
  exact hK' _ _ (hK w' r1 r2)
end

end Go.Proofs.Ytoiiadiimfohiaa

/- Maps keyed by arrays of twelve integers, whatever their elements: what they hold, as a function of the list. -/
namespace Go.Proofs.Ytoiiadiimfohiaa
open Go.RowKit Go.Maps

/-- An array of integers, as a value. -/
def kv (q : IntKind) (zs : List Int) : Value := .agg (zs.map (Value.int q)).toArray

theorem mapM_some {α β : Type} (f : α → Option β) : ∀ l : List α, (∀ x, x ∈ l → ∃ y, f x = some y) → ∃ ys, l.mapM f = some ys
  | [], _ => ⟨[], rfl⟩
  | x :: l, h => by
    obtain ⟨y, hy⟩ := h x (by simp)
    obtain ⟨ys, hys⟩ := mapM_some f l (fun z hz => h z (by simp [hz]))
    exact ⟨y :: ys, by rw [List.mapM_cons, hy, hys]; rfl⟩

theorem pos_succ (n : Nat) (h : 0 < n) : ∃ d, n = d + 1 := ⟨n - 1, by omega⟩

/-- What a type of arrays of twelve integers must be. -/
structure KeyT (K E : TypeId) (q : IntKind) : Prop where
  arr : Try.prog.underlying K = some (.array 12 E)
  int : Try.prog.underlying E = some (.int q)
  cK : Try.prog.cellsOf K = 12
  cE : Try.prog.cellsOf E = 1
  ok : Try.prog.keyType K = true
  low : K < Try.prog.types.size
  keyed : Keyed Try.prog K

def OkK (q : IntKind) (zs : List Int) : Prop := zs.length = 12 ∧ ∀ z, z ∈ zs → (Lit.int q z).wf = true

theorem KeyT.mk' {K E : TypeId} {q : IntKind} (h : KeyT K E q) {zs : List Int} (hz : OkK q zs) : ∃ l, keyOf Try.prog K (kv q zs) = some l := by
  obtain ⟨hl, hw⟩ := hz
  unfold keyOf
  rw [h.arr]
  simp only
  have hf : (kv q zs).formed Try.prog K = true := by
    unfold kv Value.formed
    rw [h.arr]
    simp [h.cK, hl]
  rw [h.ok, hf]
  simp only [Bool.and_self, if_true]
  have hkl : ∃ ls, Try.prog.keyLits (Try.prog.types.size + 1) K (kv q zs).cells.toList = some ls := by
    have hcs : (kv q zs).cells.toList = zs.map (Value.int q) := by simp [kv, Value.cells]
    rw [hcs]
    unfold Program.keyLits
    rw [h.arr]
    simp only
    rw [if_pos (by simp [h.cK, hl])]
    obtain ⟨ys, hys⟩ := mapM_some (fun i => Try.prog.keyLits Try.prog.types.size E (((zs.map (Value.int q)).drop (i * Try.prog.cellsOf E)).take (Try.prog.cellsOf E))) (List.range 12) (fun i hi => by
      have hi' : i < zs.length := by rw [hl]; simpa using hi
      refine ⟨[.int q zs[i]], ?_⟩
      rw [h.cE, Nat.mul_one]
      have e : ((zs.map (Value.int q)).drop i).take 1 = [.int q zs[i]] := by
        rw [List.drop_eq_getElem_cons (by simpa using hi')]
        simp
      rw [e]
      obtain ⟨d, hd⟩ : ∃ d, Try.prog.types.size = d + 1 := pos_succ _ (Nat.lt_of_le_of_lt (Nat.zero_le _) h.low)
      rw [hd]
      unfold Program.keyLits
      rw [h.int]
      simp [hw zs[i] (List.getElem_mem hi')])
    exact ⟨ys.flatten, by rw [hys]; rfl⟩
  obtain ⟨ls, hls⟩ := hkl
  exact ⟨_, by rw [hls]; rfl⟩

theorem kv_inj {q : IntKind} {xs ys : List Int} (h : kv q xs = kv q ys) : xs = ys := by
  unfold kv at h
  have h1 : (xs.map (Value.int q)).toArray = (ys.map (Value.int q)).toArray := by injection h
  have h2 : xs.map (Value.int q) = ys.map (Value.int q) := by simpa using congrArg Array.toList h1
  exact (List.map_inj_right (fun a b e => by injection e)).1 h2

/-- Block b is a map of at most n entries, which holds what f says. -/
def KMap (K : TypeId) (q : IntKind) (w : World) (b n : Nat) (f : List Int → Option Value) : Prop :=
  ∃ D : DataW Value, w.ownsMap Try.prog K heldElem b n D ∧ ∀ zs, OkK q zs → ∀ l, keyOf Try.prog K (kv q zs) = some l → Maps.has D l = (f zs).isSome ∧ ∀ v, f zs = some v → ∀ z, D.atKey l z = .held v

section
variable {K E : TypeId} {q : IntKind} {w w' : World} {b n : Nat} {f : List Int → Option Value}

theorem KMap.lt (h : KMap K q w b n f) : b < w.heap.size := by obtain ⟨D, h1, _⟩ := h; exact h1.lt

theorem KMap.of_block (h : KMap K q w b n f) (hb : w'.heap[b]? = w.heap[b]?) : KMap K q w' b n f := by
  obtain ⟨D, ⟨es, c, h1, h2⟩, h3⟩ := h; exact ⟨D, ⟨es, c, hb.trans h1, h2⟩, h3⟩

theorem KMap.alloc (h : KMap K q w b n f) (o : Obj) : KMap K q (w.alloc o) b n f := h.of_block (Below.heap_alloc w o b h.lt)

theorem KMap.below {B : Nat} (h : KMap K q w b n f) (hb : Below B w w') (hB : b < B) : KMap K q w' b n f := h.of_block (hb.block b hB)

theorem KMap.made (K : TypeId) (q : IntKind) (w : World) : KMap K q (w.alloc (.map #[] 0)) w.heap.size 0 (fun _ => none) :=
  ⟨.map [], World.ownsMap_made _ _ _ _, fun zs _ l _ => ⟨rfl, fun v h => by cases h⟩⟩

/-- 'v, ok := m[a]'. -/
theorem KMap.look_ok (hK : KeyT K E q) (h : KMap K q w b n f) {t e : TypeId} (ht : Try.prog.underlying t = some (.map K e)) {z : Value} (hz : (zeroValue e).run Try.prog w = .ok z w) {zs : List Int} (hzs : OkK q zs) :
    (Instr.lookup t (.map (some b)) (kv q zs) true).run Try.prog w = .ok (.tuple #[(f zs).getD z, .bool (f zs).isSome]) w := by
  obtain ⟨D, hD, hf⟩ := h
  obtain ⟨l, hl⟩ := hK.mk' hzs
  obtain ⟨v, ps, hrun, hv⟩ := hD.look_ok hK.keyed ht hz (zd := .held z) (zp := []) rfl hl
  have hv' : DataW.held v = D.atKey l (.held z) := (Prod.mk.inj (Option.some.inj hv)).1
  have hfz := hf zs hzs l hl
  rw [hrun, hfz.1]
  cases hfa : f zs with
  | none =>
    have hh := hfz.1
    rw [hfa] at hh
    rw [atKey_of_not_has hh] at hv'
    rw [DataW.held.inj hv']; rfl
  | some u =>
    rw [hfz.2 u hfa] at hv'
    rw [DataW.held.inj hv']; rfl

def kupd (f : List Int → Option Value) (a : List Int) (v : Value) : List Int → Option Value := fun x => if x = a then some v else f x

/-- 'm[a] = v'. -/
theorem KMap.put (hK : KeyT K E q) (h : KMap K q w b n f) {t e : TypeId} (ht : Try.prog.underlying t = some (.map K e)) (hn : n < maxLen) {a : List Int} (ha : OkK q a) (v : Value) :
    ∃ w', (Instr.mapUpdate t (.map (some b)) (kv q a) v).run Try.prog w = .ok () w' ∧ KMap K q w' b (n + 1) (kupd f a v) ∧ w.grownBy w' (some b) := by
  obtain ⟨D, hD, hf⟩ := h
  obtain ⟨la, hla⟩ := hK.mk' ha
  obtain ⟨w', hrun, hD', hg⟩ := hD.update (val := v) (d := .held v) (ps := []) hK.keyed ht hn hla rfl
  have hkey : WideAt.IsKeyLit la := hK.keyed.key hla
  refine ⟨w', hrun, ⟨_, hD', fun x hx l hl => ?_⟩, hg⟩
  unfold kupd
  by_cases e : x = a
  · subst e
    rw [if_pos rfl]
    have : l = la := by rw [hl] at hla; exact Option.some.inj hla
    subst this
    exact ⟨has_put_same hD.isMap hkey _, fun u hu z => by rw [← Option.some.inj hu]; exact atKey_put_same hD.isMap hkey _ _⟩
  · have hne : l ≠ la := fun h => e (kv_inj (hK.keyed.inj hl (by rw [h]; exact hla)))
    rw [if_neg e]
    exact ⟨by rw [has_put_other hne]; exact (hf x hx l hl).1, fun u hu z => by rw [atKey_put_other hne]; exact (hf x hx l hl).2 u hu z⟩
end

end Go.Proofs.Ytoiiadiimfohiaa

/- Contracts of the answer's functions: RowMay, Undo, By. -/
namespace Go.Proofs.Ytoiiadiimfohiaa
open Go.RowKit

/-- How often b is in the list. -/
def occ (b : Int) (xs : List Int) : Nat := (xs.filter (fun y => y == b)).length

theorem occ_le (b : Int) (xs : List Int) : occ b xs ≤ xs.length := List.length_filter_le _ _

theorem occ_snoc (b y : Int) (xs : List Int) : occ b (xs ++ [y]) = occ b xs + if y = b then 1 else 0 := by
  unfold occ
  rw [List.filter_append, List.length_append]
  by_cases h : y = b <;> simp [h]

theorem perm_of_sub {α : Type} [DecidableEq α] : ∀ (l m : List α), l.Nodup → (∀ x ∈ l, x ∈ m) → l.length = m.length → l.Perm m := by
  intro l
  induction l with
  | nil => intro m _ _ hl; rw [List.length_eq_zero_iff.1 hl.symm]
  | cons a l ih =>
    intro m hn hs hl
    have ha : a ∈ m := hs a List.mem_cons_self
    have hn' := List.nodup_cons.1 hn
    have h1 := ih (m.erase a) hn'.2 (fun x hx => (List.mem_erase_of_ne (fun e => hn'.1 (by rw [← e]; exact hx))).2 (hs x (List.mem_cons_of_mem _ hx))) (by rw [List.length_erase_of_mem ha]; simp at hl; omega)
    exact (h1.cons a).trans (List.perm_cons_erase ha).symm

theorem occ_mem {b : Int} {xs : List Int} (h : occ b xs = 1) : b ∈ xs := by
  unfold occ at h
  have h1 : 0 < (xs.filter (fun y => y == b)).length := by omega
  obtain ⟨y, hy⟩ := List.exists_mem_of_length_pos h1
  have h2 := List.mem_filter.1 hy
  have e : y = b := by simpa using h2.2
  rw [← e]; exact h2.1

theorem row_of_occ {xs : List Int} (h : ∀ b, b < xs.length → occ (b : Int) xs = 1) : isRow xs := by
  have hp := perm_of_sub (rnd xs.length) xs (isRow_rnd _).2 (fun x hx => by
    obtain ⟨i, hi, rfl⟩ := List.mem_map.1 hx
    exact occ_mem (h i (List.mem_range.1 hi))) (rnd_length _)
  exact isRow_perm hp.symm (isRow_rnd _)

theorem occ_of_row {xs : List Int} (h : isRow xs) {b : Nat} (hb : b < xs.length) : occ (b : Int) xs = 1 := by
  obtain ⟨j, hj, e⟩ := isRow_onto h hb
  have hm : (b : Int) ∈ xs := by
    rw [← e, show xs.getD j 0 = xs[j] from by simp [List.getD, List.getElem?_eq_getElem hj]]
    exact List.getElem_mem hj
  have key : ∀ (l : List Int), l.Nodup → (b : Int) ∈ l → occ (b : Int) l = 1 := by
    intro l
    induction l with
    | nil => intro _ hm; cases hm
    | cons x l ih =>
      intro hn hm
      have hn' := List.nodup_cons.1 hn
      unfold occ
      by_cases e : x = (b : Int)
      · subst e
        rw [List.filter_cons_of_pos (by simp), List.filter_eq_nil_iff.2 (fun y hy => by
          intro h2
          have e2 : y = (b : Int) := by simpa using h2
          exact hn'.1 (e2 ▸ hy))]
        rfl
      · rw [List.filter_cons_of_neg (by simpa using e)]
        rcases List.mem_cons.1 hm with h2 | h2
        · exact absurd h2.symm e
        · exact ih hn'.2 h2
  exact key xs h.2 hm

set_option maxRecDepth 20000 in
set_option maxHeartbeats 1000000 in
theorem undo_own (v1 : Value) (a : List Int) (w : World) (i1 : Ints w v1 a) (r1 : isRow a) (n1 : 1 ≤ a.length) (n2 : a.length ≤ 12) :
    Calls Try.prog 40 #[v1] w fun e w' => ∃ v zs, e = .returned v ∧ w'.ownsRow w.heap.size 3 1 v a.length (zs.map (Value.int .i64)) ∧ Undoes zs a ∧ Below w.heap.size w w' := by
  obtain ⟨i0, hi, hz0, hz1, hz2⟩ := info_parts Try.info3
  have R1 := hide r1
  rcases i1 with ⟨rfl, p, c, rfl⟩ | ⟨b1, o1, cap1, rfl, h01, hcp1, hm1, hb1, hcell1⟩
  · simp at n1
  clear r1
  go_enter Try.func40, Try.ntmps40
  go_wp2_with (at_make; refine wpList_make_full _ rfl _ _ 26 rfl w.heap.size 3 i0 (.int .i64 0) 1 Try.underlying26 hi hz0 hz1 _ _ _ _ a.length rfl rfl (by omega) (by omega) ?b2 ?b3 (Nat.le_refl _) ?_)
  case b2 => rw [hz2]; omega
  case b3 => unfold maxLen; omega
  intro w0 hown0 hgrow0
  rw [made_ints] at hown0
  go_wp2
  go_loopw [4] (fun i wr => ∃ (k : Nat) (zs : List Int), k ≤ a.length ∧ i = .int .i64 k ∧ wr.ownsRow w.heap.size 3 1 (.slice (some ⟨w.heap.size, 0, none⟩) a.length a.length) a.length (zs.map (Value.int .i64)) ∧ Hid (zs.length = a.length ∧ ∀ j, j < k → zs.getD (a.getD j 0).toNat 0 = (j : Int)) ∧ Below w.heap.size w wr) (fun i _ => a.length - (intOf i).toNat)
  case atStart => exact ⟨0, _, by omega, rfl, hown0, ⟨by simp, fun j hj => by omega⟩, (Below.refl _ _).grown hgrow0 (Nat.le_refl _) (fun k h => by cases h)⟩
  case round =>
    obtain ⟨k, zs, hk, rfl, hown, hz, hbw⟩ := hrel
    by_cases hlt : k < a.length
    · obtain ⟨p, hp, hcp⟩ := cellAt hcell1 hlt
      have hpr := R1.out.at hlt
      rw [show a.getD k 0 = p from hp.out] at hpr
      obtain ⟨m, rfl⟩ := Int.eq_ofNat_of_zero_le hpr.1
      have hma : m < a.length := by have := hpr.2; omega
      obtain ⟨y, hy, hcx, hfx⟩ := owns_cellAt hown hma
      have gp : wr.cell? ⟨b1, o1 + k, none⟩ = some (.int .i64 (m : Int)) := (hbw.cell (by exact hb1)).trans hcp
      have HZ := hide (back_step R1.out hlt hp.out hz.out)
      clear hcp hcell1 hpr
      go_wp2
      go_roundw
      case rel => exact ⟨k + 1, _, by omega, by go_num, owns_set_int hown _, HZ, hbw.setCell (Nat.le_refl _) _⟩
      case measure => simp [intOf]; omega
    · clear hcell1
      obtain rfl : k = a.length := by omega
      go_wp2
      go_ret
      exact ⟨_, zs, rfl, hown, hz.out, hbw⟩

theorem undo_ok (v1 : Value) (a : List Int) (w : World) (i1 : Ints w v1 a) (r1 : isRow a) (n1 : 1 ≤ a.length) (n2 : a.length ≤ 12) :
    Calls Try.prog 40 #[v1] w fun e w' => ∃ v zs, e = .returned v ∧ Ints w' v zs ∧ Undoes zs a ∧ Below w.heap.size w w' := by
  refine (undo_own v1 a w i1 r1 n1 n2).mono ?_
  rintro e w' ⟨v, zs, rfl, ho, hu, hb⟩
  exact ⟨v, zs, rfl, Ints.own ho, hu, hb⟩

theorem by_take_snoc (a b : List Int) (k m : Nat) (hk : k < b.length) (hm : b[k]?.getD 0 = (m : Int)) : by_ a (b.take (k + 1)) = by_ a (b.take k) ++ [a[m]?.getD 0] := by
  rw [take_snoc b k hk, hm]
  simp [by_, List.getD]

set_option maxRecDepth 20000 in
set_option maxHeartbeats 1000000 in
theorem rby_own (v1 v2 : Value) (a b : List Int) (w : World) (i1 : Ints w v1 a) (i2 : Ints w v2 b) (hb : ∀ j, j < b.length → 0 ≤ b.getD j 0 ∧ b.getD j 0 < a.length) (n1 : 1 ≤ a.length) (n2 : b.length ≤ 1000000) :
    Calls Try.prog 39 #[v1, v2] w fun e w' => ∃ v, e = .returned v ∧ w'.ownsRow w.heap.size 3 1 v b.length ((by_ a b).map (Value.int .i64)) ∧ Below w.heap.size w w' := by
  obtain ⟨i0, hi, hz0, hz1, hz2⟩ := info_parts Try.info3
  have HBd := hide hb
  clear hb
  rcases i1 with ⟨rfl, p, c, rfl⟩ | ⟨b1, o1, cap1, rfl, h01, hcp1, hm1, hb1, hcell1⟩
  · simp at n1
  obtain ⟨p2, cap2, e2, hcell2⟩ : ∃ p2 cap2, v2 = .slice p2 b.length cap2 ∧ Hid (∀ j, j < b.length → ∃ b2 o2, p2 = some ⟨b2, o2, none⟩ ∧ b.length ≤ cap2 ∧ cap2 ≤ 9223372036854775807 ∧ b2 < w.heap.size ∧ w.cell? ⟨b2, o2 + j, none⟩ = some (.int .i64 (b.getD j 0))) := by
    rcases i2 with ⟨rfl, p, c, rfl⟩ | ⟨b2, o2, cap2, rfl, h02, hcp2, hm2, hb2, hc2⟩
    · exact ⟨p, c, rfl, fun j hj => by simp at hj⟩
    · exact ⟨_, cap2, rfl, fun j hj => ⟨b2, o2, rfl, hcp2, hm2, hb2, hc2 j hj⟩⟩
  subst e2
  have HC1 := hide hcell1
  clear i2 hcell1
  go_enter Try.func39, Try.ntmps39
  go_wp2
  go_loopw [5, 6] (fun v i wr => ∃ k : Nat, k ≤ b.length ∧ i = .int .i64 k ∧ wr.ownsRow w.heap.size 3 1 v k ((by_ a (b.take k)).map (Value.int .i64)) ∧ Below w.heap.size w wr) (fun _ i _ => b.length - (intOf i).toNat)
  case atStart => exact ⟨0, by omega, rfl, World.ownsRow_nil _ _ _ _, Below.refl _ _⟩
  case round =>
    obtain ⟨k, hk, rfl, hown, hbw⟩ := hrel
    have hbs := hbw.size
    by_cases hlt : k < b.length
    · obtain ⟨b2, o2, rfl, hcp2, hm2, hb2, hc2⟩ := hcell2.out k hlt
      have hpr := HBd.out k hlt
      obtain ⟨m, hm⟩ := Int.eq_ofNat_of_zero_le hpr.1
      have hma : m < a.length := by have := hpr.2; omega
      obtain ⟨q, hq, hcq⟩ := cellAt HC1.out hma
      have gp : wr.cell? ⟨b2, o2 + k, none⟩ = some (.int .i64 (m : Int)) := (hbw.cell (by exact hb2)).trans (by rw [hc2, hm])
      have gq : wr.cell? ⟨b1, o1 + m, none⟩ = some (.int .i64 q) := (hbw.cell (by exact hb1)).trans hcq
      have HT : Hid (by_ a (b.take (k + 1)) = by_ a (b.take k) ++ [q]) := by show _ = _; rw [by_take_snoc a b k m hlt hm, hq.out]
      clear hcq hc2 hpr hm
      go_wp2_with (at_builtin; refine wpList_append_own _ rfl _ _ 26 rfl w.heap.size 3 i0 (.int .i64 0) 1 8 Try.underlying26 hi hz0 hz1 hz2 rfl (by decide) _ _ _ rfl (hown.alloc _) ⟨wr.heap.size, 0, none⟩ 1 1 [.int .i64 q] rfl rfl ?c1 ?c2 ?c3 ?c4 ?c5 ?_)
      case c1 => exact cell_one_new _ _ _
      case c2 => intro u hu; simp at hu; subst hu; rfl
      case c3 => unfold maxLen; omega
      case c4 => omega
      case c5 => simp; omega
      · intro v' w1 hown' hgrow _
        go_wp2
        go_roundw
        case rel => exact ⟨k + 1, by omega, by go_num, by rw [HT.out, List.map_append]; exact hown', (hbw.alloc hbw.size _).grown hgrow (by simp; omega) (fun g hg => (hown.lt g hg).1)⟩
        case measure => simp [intOf]; omega
    · obtain rfl : k = b.length := by omega
      rw [List.take_length] at hown
      go_wp2
      go_ret
      exact ⟨_, rfl, hown, hbw⟩

theorem rby_ok (v1 v2 : Value) (a b : List Int) (w : World) (i1 : Ints w v1 a) (i2 : Ints w v2 b) (hb : ∀ j, j < b.length → 0 ≤ b.getD j 0 ∧ b.getD j 0 < a.length) (n1 : 1 ≤ a.length) (n2 : b.length ≤ 1000000) :
    Calls Try.prog 39 #[v1, v2] w fun e w' => ∃ v, e = .returned v ∧ Ints w' v (by_ a b) ∧ Below w.heap.size w w' := by
  refine (rby_own v1 v2 a b w i1 i2 hb n1 n2).mono ?_
  rintro e w' ⟨v, rfl, ho, hb'⟩
  exact ⟨v, rfl, Ints.own ho, hb'⟩

end Go.Proofs.Ytoiiadiimfohiaa

/- Contracts of the answer's functions: BellOf, SignOf, Text, ReadRow. -/
namespace Go.Proofs.Ytoiiadiimfohiaa
open Go.RowKit
set_option maxRecDepth 20000

theorem bl_none {b : UInt8} (h : ¬ bl b < 12) {m : Nat} (hm : m < 12) : sg m ≠ b.toNat := fun e => h (by rw [bl_of hm e]; exact hm)

theorem slice_sign (m : Nat) (hm : m < 12) (w : World) : (Instr.slice 9 (.string { data := #[49, 50, 51, 52, 53, 54, 55, 56, 57, 48, 69, 84] }) (some (.int .i64 (m : Int))) (some (.int .i64 ((m : Int) + 1))) none).run Try.prog w = .ok (.string (strOfNums [((sg m : Nat) : Int)])) w := by
  match m, hm with
  | 0, _ | 1, _ | 2, _ | 3, _ | 4, _ | 5, _ | 6, _ | 7, _ | 8, _ | 9, _ | 10, _ | 11, _ => rfl

theorem str_append (xs ys : List Int) : strOfNums xs ++ strOfNums ys = strOfNums (xs ++ ys) := by
  apply ByteArray.ext
  rw [ByteArray.data_append]
  simp [strOfNums]

/-- A byte of a text, as the index gives it. -/
theorem index_byte (s : ByteArray) (k : Nat) (hk : k < s.size) (w : World) : (Instr.index 9 (.string s) (.int .i64 (k : Int))).run Try.prog w = .ok (.int .u8 (((s[k]'hk).toNat : Nat) : Int)) w := by
  rw [run_index_string w 9 _ .i64 (k : Int) Try.underlying9, dif_pos ⟨by omega, by omega⟩]
  rfl

end Go.Proofs.Ytoiiadiimfohiaa
