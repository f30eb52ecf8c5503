/- Plain: a group's size as the product of how many bells come to each place while those ahead stay. -/
import Derived.Test.YtbddhpbeekioiaaChn
import Derived.Test.YtbddhpbeekioiaaRefA
namespace Go.Proofs.Ytbddhpbeekioiaa

/-- Those that leave the first k bells. -/
def Low (G : Pm → Prop) (k : Nat) (x : Pm) : Prop := G x ∧ ∀ b, b < k → x.act b = b

/-- Which bells they bring to the k-th place. -/
def Orb (G : Pm → Prop) (k b : Nat) : Prop := ∃ x, Low G k x ∧ x.act k = b

open Classical in
noncomputable def orbL (G : Pm → Prop) (k : Nat) : List Nat := (List.range 12).filter (fun b => decide (Orb G k b))

noncomputable def oc (G : Pm → Prop) (k : Nat) : Nat := (orbL G k).length

noncomputable def sz (G : Pm → Prop) : Nat → Nat
  | 0 => 1
  | n + 1 => sz G n * oc G n

theorem mem_orbL {G : Pm → Prop} {k b : Nat} (hk : k < 12) : b ∈ orbL G k ↔ Orb G k b := by
  unfold orbL
  rw [List.mem_filter, List.mem_range, @decide_eq_true_iff _ (Classical.propDecidable _)]
  exact ⟨fun h => h.2, fun h => ⟨by obtain ⟨x, _, e⟩ := h; rw [← e]; exact x.act_lt hk, h⟩⟩

theorem orbL_nodup (G : Pm → Prop) (k : Nat) : (orbL G k).Nodup := List.Nodup.sublist List.filter_sublist List.nodup_range

theorem oc_of {G : Pm → Prop} {k : Nat} (hk : k < 12) {l : List Nat} (hn : l.Nodup) (h : ∀ b, b ∈ l ↔ Orb G k b) : l.length = oc G k :=
  Nat.le_antisymm (nodup_len l (orbL G k) hn (fun b hb => (mem_orbL hk).2 ((h b).1 hb))) (nodup_len (orbL G k) l (orbL_nodup G k) (fun b hb => (h b).2 ((mem_orbL hk).1 hb)))

theorem low_sub {G : Pm → Prop} (hG : Sub G) (k : Nat) : Sub (Low G k) :=
  ⟨⟨hG.one, fun b _ => Pm.act_one b⟩, fun hx hy => ⟨hG.mul hx.1 hy.1, fun b hb => by rw [Pm.act_mul, hy.2 b hb, hx.2 b hb]⟩, fun {x} hx => ⟨hG.inv hx.1, fun b hb => by have h := hx.2 b hb; rw [← h, Pm.inv_act, h]⟩⟩

theorem oc_pos {G : Pm → Prop} (hG : Sub G) {k : Nat} (hk : k < 12) : 1 ≤ oc G k := by
  have : k ∈ orbL G k := (mem_orbL hk).2 ⟨1, (low_sub hG k).one, Pm.act_one k⟩
  exact List.length_pos_of_mem this

theorem orb_mono {G H : Pm → Prop} (h : ∀ x, G x → H x) {k b : Nat} (ho : Orb G k b) : Orb H k b := by
  obtain ⟨x, hx, e⟩ := ho
  exact ⟨x, ⟨h x hx.1, hx.2⟩, e⟩

theorem oc_mono {G H : Pm → Prop} (h : ∀ x, G x → H x) {k : Nat} (hk : k < 12) : oc G k ≤ oc H k :=
  nodup_len _ _ (orbL_nodup G k) (fun _ hb => (mem_orbL hk).2 (orb_mono h ((mem_orbL hk).1 hb)))

theorem sz_pos {G : Pm → Prop} (hG : Sub G) {n : Nat} (hn : n ≤ 12) : 1 ≤ sz G n := by
  induction n with
  | zero => exact Nat.le_refl _
  | succ n ih => exact Nat.mul_pos (ih (by omega)) (oc_pos hG (by omega))

theorem sz_mono {G H : Pm → Prop} (h : ∀ x, G x → H x) {n : Nat} (hn : n ≤ 12) : sz G n ≤ sz H n := by
  induction n with
  | zero => exact Nat.le_refl _
  | succ n ih => exact Nat.mul_le_mul (ih (by omega)) (oc_mono h (by omega))

theorem sz_congr {G H : Pm → Prop} (h : ∀ x, G x ↔ H x) (n : Nat) : sz G n = sz H n := by
  have : G = H := funext (fun x => propext (h x))
  rw [this]

theorem oc_eq {G H : Pm → Prop} (hG : Sub G) (h : ∀ x, G x → H x) {n : Nat} (hn : n ≤ 12) (he : sz G n = sz H n) : ∀ k, k < n → oc G k = oc H k := by
  induction n with
  | zero => intro k hk; omega
  | succ n ih =>
    have h1 := sz_mono h (n := n) (by omega)
    have h2 := oc_mono h (k := n) (by omega)
    have p1 := sz_pos hG (n := n) (by omega)
    have p2 := oc_pos hG (k := n) (by omega)
    have he' : sz G n * oc G n = sz H n * oc H n := he
    have e1 : sz G n = sz H n := by
      rcases Nat.lt_or_ge (sz G n) (sz H n) with hlt | hge
      · have h3 : sz G n * oc G n < sz H n * oc G n := Nat.mul_lt_mul_of_pos_right hlt p2
        have h4 : sz H n * oc G n ≤ sz H n * oc H n := Nat.mul_le_mul_left _ h2
        omega
      · omega
    have e2 : oc G n = oc H n := by
      rw [e1] at he' p1
      exact Nat.eq_of_mul_eq_mul_left p1 he'
    intro k hk
    by_cases e : k = n
    · rw [e]; exact e2
    · exact ih (by omega) e1 k (by omega)

/-- A part of a group that is as great is the group. -/
theorem sz_all {G H : Pm → Prop} (hG : Sub G) (hH : Sub H) (h : ∀ x, G x → H x) {n : Nat} (hn : n ≤ 12) (hf : ∀ x, H x → Fixes (fun b => n ≤ b) x) (he : sz G n = sz H n) : ∀ x, H x → G x := by
  have hoc := oc_eq hG h hn he
  have key : ∀ d k, k + d = n → ∀ x, Low H k x → G x := by
    intro d
    induction d with
    | zero =>
      intro k hk x hx
      have : x = 1 := Pm.ext' (fun b _ => by
        rw [Pm.act_one]
        rcases Nat.lt_or_ge b n with hb | hb
        · exact hx.2 b (by omega)
        · exact hf x hx.1 b hb)
      rw [this]; exact hG.one
    | succ d ih =>
      intro k hk x hx
      have hk12 : k < 12 := by omega
      have hin : x.act k ∈ orbL H k := (mem_orbL hk12).2 ⟨x, hx, rfl⟩
      have hsub : ∀ b, b ∈ orbL H k → b ∈ orbL G k := by
        have hp := perm_of_sub (orbL G k) (orbL H k) (orbL_nodup G k) (fun b hb => (mem_orbL hk12).2 (orb_mono h ((mem_orbL hk12).1 hb))) (hoc k (by omega))
        exact fun b hb => hp.mem_iff.2 hb
      obtain ⟨u, hu, eu⟩ := (mem_orbL hk12).1 (hsub _ hin)
      have hlow : Low H (k + 1) (u⁻¹ * x) := by
        have h1 := (low_sub hH k).mul ((low_sub hH k).inv ⟨h u hu.1, hu.2⟩) hx
        refine ⟨h1.1, fun b hb => ?_⟩
        rcases Nat.lt_or_ge b k with hbk | hbk
        · exact h1.2 b hbk
        · have : b = k := by omega
          subst this
          rw [Pm.act_mul, ← eu, Pm.inv_act]
      have := hG.mul hu.1 (ih (k + 1) (by omega) _ hlow)
      rwa [Pm.mul_inv_cancel] at this
  exact fun x hx => key n 0 (by omega) x ⟨hx, fun b hb => by omega⟩

/-! the chain's own size -/

theorem low_plus {G : Pm → Prop} {k : Nat} {x : Pm} : Low G (k + 1) x ↔ Low G k x ∧ x.act k = k :=
  ⟨fun h => ⟨⟨h.1, fun b hb => h.2 b (by omega)⟩, h.2 k (by omega)⟩, fun h => ⟨h.1.1, fun b hb => by
    rcases Nat.lt_or_ge b k with h1 | h1
    · exact h.1.2 b h1
    · have : b = k := by omega
      subst this; exact h.2⟩⟩

/-- Of a whole chain: those that leave the first base are those of the rest; the table has just the bells that come there. -/
theorem whole_low {F : Nat → Prop} {l : Lk} {c : List Lk} (h : Whole F (l :: c)) (x : Pm) : Prd c x ↔ Prd (l :: c) x ∧ x.act l.base = l.base := by
  constructor
  · intro hx
    exact ⟨⟨_, h.1.first, x, hx, by rw [Pm.one_mul]⟩, (fixes_plus.1 (prd_fix h.2.1 hx)).2⟩
  · rintro ⟨⟨e, he, y, hy, rfl⟩, hb⟩
    have hy2 := (fixes_plus.1 (prd_fix h.2.1 hy)).2
    rw [Pm.act_mul, hy2, h.1.brings e he] at hb
    have e1 : e.2 = 1 := tab_eq h.1.nodup (b := l.base) (by rw [← hb]; exact he) h.1.first
    rw [e1, Pm.one_mul]; exact hy

theorem whole_orb {F : Nat → Prop} {l : Lk} {c : List Lk} (h : Whole F (l :: c)) (b : Nat) : b ∈ l.tab.map (·.1) ↔ ∃ x, Prd (l :: c) x ∧ x.act l.base = b := by
  constructor
  · intro hb
    obtain ⟨e, he, rfl⟩ := List.mem_map.1 hb
    exact ⟨e.2, ⟨e, he, 1, (prd_sub h.2.1).one, by rw [Pm.mul_one]⟩, h.1.brings e he⟩
  · rintro ⟨x, ⟨e, he, y, hy, rfl⟩, rfl⟩
    have hy2 := (fixes_plus.1 (prd_fix h.2.1 hy)).2
    rw [Pm.act_mul, hy2, h.1.brings e he]
    exact List.mem_map.2 ⟨e, he, rfl⟩

def tabs : List Lk → Nat
  | [] => 1
  | l :: c => l.tab.length * tabs c

theorem sz_tabs {G : Pm → Prop} : ∀ (c : List Lk) (k : Nat) (F : Nat → Prop), Whole F c → c.map (·.base) = (List.range c.length).map (fun i => k + i) → k + c.length ≤ 12 → (∀ x, Prd c x ↔ Low G k x) → sz G (k + c.length) = sz G k * tabs c
  | [], k, F, _, _, _, _ => by show sz G k = sz G k * 1; rw [Nat.mul_one]
  | l :: c, k, F, hw, hb, h12, hG => by
    have hb0 : l.base = k := by
      have := congrArg (fun m => m[0]?) hb
      simpa using this
    have hb1 : c.map (·.base) = (List.range c.length).map (fun i => (k + 1) + i) := by
      have := congrArg List.tail hb
      rw [List.map_cons, List.tail_cons, List.length_cons, List.range_succ_eq_map, List.map_cons, List.tail_cons, List.map_map] at this
      rw [this]
      apply List.map_congr_left
      intro i _
      show k + (i + 1) = k + 1 + i
      omega
    have hlen : (l :: c).length = c.length + 1 := rfl
    have hk : k < 12 := by rw [hlen] at h12; omega
    have hlow : ∀ x, Prd c x ↔ Low G (k + 1) x := fun x => by
      rw [whole_low hw x, hG x, low_plus, hb0]
    have hoc : l.tab.length = oc G k := by
      have := oc_of (G := G) hk hw.1.nodup (fun b => by
        rw [whole_orb hw b, hb0]
        exact ⟨fun ⟨x, hx, e⟩ => ⟨x, (hG x).1 hx, e⟩, fun ⟨x, hx, e⟩ => ⟨x, (hG x).2 hx, e⟩⟩)
      rwa [List.length_map] at this
    have ih := sz_tabs c (k + 1) _ hw.2.1 hb1 (by rw [hlen] at h12; omega) hlow
    rw [hlen, show k + (c.length + 1) = k + 1 + c.length from by omega, ih]
    show sz G k * oc G k * tabs c = sz G k * (l.tab.length * tabs c)
    rw [hoc, Nat.mul_assoc]

end Go.Proofs.Ytbddhpbeekioiaa
