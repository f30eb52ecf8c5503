/- Joined: SaK, SaN, SaP. -/
import Derived.Test.YtoiiadiimfohiaaJ5
import Derived.Test.YtoiiadiimfohiaaJ10
/- Contract: search's leadBy. -/
namespace Go.Proofs.Ytoiiadiimfohiaa
open Go.RowKit

theorem Try.info85 : (Try.prog.info? 85).map (fun i => (i.zero, i.size, i.bytes)) = some (some (.agg (i8s zeros12)), 12, 12) := by kernel_rfl

theorem slist12 {zs : List Int} (h : zs.length = 12) : ∃ a0 a1 a2 a3 a4 a5 a6 a7 a8 a9 a10 a11, zs = [a0, a1, a2, a3, a4, a5, a6, a7, a8, a9, a10, a11] := by
  match zs, h with
  | [a0, a1, a2, a3, a4, a5, a6, a7, a8, a9, a10, a11], _ => exact ⟨_, _, _, _, _, _, _, _, _, _, _, _, rfl⟩

theorem srun_build12 (a0 a1 a2 a3 a4 a5 a6 a7 a8 a9 a10 a11 : Int) (w : World) : (Instr.buildSlice 82 1 #[(0, .agg #[.int .i8 a0, .int .i8 a1, .int .i8 a2, .int .i8 a3, .int .i8 a4, .int .i8 a5, .int .i8 a6, .int .i8 a7, .int .i8 a8, .int .i8 a9, .int .i8 a10, .int .i8 a11])]).run Try.prog w =
    .ok (.slice (some ⟨w.heap.size, 0, none⟩) 1 1) (w.alloc (.cells #[.int .i8 a0, .int .i8 a1, .int .i8 a2, .int .i8 a3, .int .i8 a4, .int .i8 a5, .int .i8 a6, .int .i8 a7, .int .i8 a8, .int .i8 a9, .int .i8 a10, .int .i8 a11] 85)) := by kernel_rfl

theorem srun_build (p : Pm) (w : World) : (Instr.buildSlice 82 1 #[(0, .agg (i8s p.l))]).run Try.prog w = .ok (.slice (some ⟨w.heap.size, 0, none⟩) 1 1) (w.alloc (.cells (i8s p.l) 85)) := by
  obtain ⟨a0, a1, a2, a3, a4, a5, a6, a7, a8, a9, a10, a11, e⟩ := slist12 p.len
  rw [e]
  exact srun_build12 a0 a1 a2 a3 a4 a5 a6 a7 a8 a9 a10 a11 w

theorem sstep_build {ops : Array Oper} {o : Oper} {a : Act} {w : World} {K : Act → World → Prop} {Q : Exit → Act → World → Prop} {E : Prop} (hg : o.guard = none) (x : Operand) (hop : o.op = Op.buildSlice 82 1 #[(0, x)]) (p : Pm) (hx : a.eval x = .agg (i8s p.l))
    (hK : K (a.put o.dst (.slice (some ⟨w.heap.size, 0, none⟩) 1 1)) (w.alloc (.cells (i8s p.l) 85))) : if Region.wanted o (yielded ops a.tmps) = true then Oper.wp Try.prog o a w K Q else E :=
  step_value hg (by unfold execOp; simp only [hop, List.map_toArray, List.map_cons, List.map_nil, hx, srun_build, Sem.run_bind, Sem.run_pure, Result.andThen_ok]) hK

/-- Packed rows, cell by cell. -/
def flatP (X : List Pm) : List Value := (X.map (fun p => p.l.map (Value.int .i8))).flatten

theorem flatP_length (X : List Pm) : (flatP X).length = X.length * 12 := by
  unfold flatP
  rw [flat_length (K := 12) _ (fun g hg => by obtain ⟨p, _, rfl⟩ := List.mem_map.1 hg; rw [List.length_map, p.len]), List.length_map]

theorem flatP_snoc (X : List Pm) (p : Pm) : flatP (X ++ [p]) = flatP X ++ p.l.map (Value.int .i8) := by simp [flatP]

theorem flatP_at {X : List Pm} {j i : Nat} (hj : j < X.length) {v : Value} (hv : (X[j].l.map (Value.int .i8))[i]? = some v) : (flatP X)[j * 12 + i]? = some v := by
  have h1 := flat_drop (K := 12) (X.map (fun p => p.l.map (Value.int .i8))) j (fun g hg => by obtain ⟨p, _, rfl⟩ := List.mem_map.1 hg; rw [List.length_map, p.len]) (by simpa using hj)
  have h2 : (flatP X)[j * 12 + i]? = ((flatP X).drop (j * 12))[i]? := by rw [List.getElem?_drop]
  rw [h2]
  unfold flatP
  rw [h1, List.getElem_map, List.getElem?_append_left (List.getElem?_eq_some_iff.1 hv).1]
  exact hv

theorem PmsAt.own {w : World} {base : Nat} {v : Value} {X : List Pm} (h : w.ownsRow base 85 12 v X.length (flatP X)) : PmsAt w v X := by
  rcases Nat.eq_zero_or_pos X.length with h0 | h0
  · rcases h.2 with ⟨rfl, _⟩ | ⟨g, cap, cur, rfl, _⟩
    · exact Or.inl ⟨List.length_eq_zero_iff.1 h0, none, 0, rfl⟩
    · exact Or.inl ⟨List.length_eq_zero_iff.1 h0, some ⟨g, 0, none⟩, cap, by rw [h0]⟩
  · rcases h.2 with ⟨_, h1⟩ | ⟨g, cap, cur, hv, hb, hh, hn, hm, hs, ht⟩
    · omega
    · refine Or.inr ⟨g, 0, cap, hv, h0, hn, by unfold maxLen at hm; omega, (Array.getElem?_eq_some_iff.1 hh).1, fun j hj i u hu => ?_⟩
      have hc := h.cells (g := g) (by rw [hv]; rfl) (j * 12 + i) u (flatP_at hj hu)
      rw [Addr.add_lit, Nat.zero_add] at hc
      rw [Nat.zero_add]
      exact hc

theorem sbelow_setCells (b : Nat) (vs : List Value) (o : Nat) (w : World) {B : Nat} (hB : B ≤ b) : Below B w (w.setCells b o vs) := by
  induction vs generalizing o w with
  | nil => exact Below.refl _ _
  | cons v r ih =>
    rw [World.setCells]
    exact ((Below.refl _ _).setCell (p := ⟨b, o, none⟩) hB v).trans (ih (o + 1) _)

theorem ssize_setCells (g : Nat) : ∀ (vs : List Value) (o : Nat) (w : World), (w.setCells g o vs).heap.size = w.heap.size
  | [], _, _ => rfl
  | v :: vs, o, w => by
    show ((w.setCell ⟨g, o, none⟩ v).setCells g (o + 1) vs).heap.size = _
    rw [ssize_setCells g vs (o + 1) _]
    simp [World.setCell]

def zl (rp : Option Addr) (k rc : Nat) (x : List Int) : Array Value := (.slice rp k rc :: x.map (Value.int .i8)).toArray

theorem lobj_ty {w : World} {base e size n : Nat} {v : Value} {xs : List Value} (h : w.ownsRow base e size v n xs) {b : Nat} (hb : v.ownBlock = some b) : ∃ cur, w.heap[b]? = some (.cells cur e) := by
  rcases h.2 with ⟨rfl, _⟩ | ⟨g, cap, cur, rfl, _, hh, _⟩
  · cases hb
  · have : g = b := Option.some.inj hb
    subst this
    exact ⟨cur, hh⟩

set_option maxRecDepth 20000 in
set_option maxHeartbeats 8000000 in
theorem leadBy_ok (s : ByteArray) (n : Nat) (vp : Option Addr) (K vc : Nat) (cv : Value) (c : Nat) (T : List (List Int)) (w : World) (h1 : 1 ≤ n) (h12 : n ≤ 12) (hK1 : 1 ≤ K) (hK2 : K ≤ 1000) (hT : T.length = K + 1) (hTr : ∀ r, r ∈ T → Rw n r)
    (hR : ∀ W lv, Below w.heap.size w W → Ints W lv [(c : Int)] → Calls Try.prog 25 #[meth s n (.slice vp K vc), cv, lv] W (RowsPost T W)) :
    Calls Try.prog 47 #[meth s n (.slice vp K vc), cv, .int .i64 c] w fun e w' => ∃ rv, e = .returned (.agg (rv :: (pad (T.getD K [])).l.map (Value.int .i8)).toArray) ∧ PmsAt w' rv ((T.take K).map pad) ∧ rv.oneCell' = true ∧ (∀ g, rv.ownBlock = some g → w.heap.size ≤ g ∧ ∃ cur, w'.heap[g]? = some (.cells cur 85)) ∧ Below w.heap.size w w' := by
  obtain ⟨i0, hi, hz0, hz1, hz2⟩ := info_parts Try.info85
  have HR := hide hR
  have HT := hide hT
  have HTR := hide hTr
  clear hR hT hTr
  unfold meth at HR ⊢
  go_enter Try.func47, Try.ntmps47
  go_wp2_with fail
  have hBA : Below w.heap.size w ((((w.alloc (.cells #[.string s, .int .i64 n, .slice vp K vc] 24)).alloc (.cells (zl none 0 0 zeros12) 87)).alloc (.cells (zl none 0 0 zeros12) 87)).alloc (.cells #[.int .i64 (c : Int)] 3)) := ((((Below.refl _ _).alloc (Nat.le_refl _) _).alloc (by simp) _).alloc (by simp; omega) _).alloc (by simp; omega) _
  have hbx := (((Box.start w s n (.slice vp K vc) 24).below ((Below.refl _ _).alloc (Nat.le_refl _) (.cells (zl none 0 0 zeros12) 87))).below ((Below.refl _ _).alloc (Nat.le_refl _) (.cells (zl none 0 0 zeros12) 87))).below ((Below.refl _ _).alloc (Nat.le_refl _) (.cells #[.int .i64 (c : Int)] 3))
  have hk1 : ((((w.alloc (.cells #[.string s, .int .i64 n, .slice vp K vc] 24)).alloc (.cells (zl none 0 0 zeros12) 87)).alloc (.cells (zl none 0 0 zeros12) 87)).alloc (.cells #[.int .i64 (c : Int)] 3)).heap[w.heap.size + 1]? = some (.cells (zl none 0 0 zeros12) 87) := by
    rw [Below.heap_alloc _ _ _ (by simp), Below.heap_alloc _ _ _ (by simp)]
    have h9 := heap_alloc_new (w.alloc (.cells #[.string s, .int .i64 n, .slice vp K vc] 24)) (.cells (zl none 0 0 zeros12) 87)
    rw [show (w.alloc (.cells #[.string s, .int .i64 n, .slice vp K vc] 24)).heap.size = w.heap.size + 1 from by simp] at h9
    exact h9
  have hk2 : ((((w.alloc (.cells #[.string s, .int .i64 n, .slice vp K vc] 24)).alloc (.cells (zl none 0 0 zeros12) 87)).alloc (.cells (zl none 0 0 zeros12) 87)).alloc (.cells #[.int .i64 (c : Int)] 3)).heap[w.heap.size + 1 + 1]? = some (.cells (zl none 0 0 zeros12) 87) := by
    rw [Below.heap_alloc _ _ _ (by simp)]
    have h9 := heap_alloc_new ((w.alloc (.cells #[.string s, .int .i64 n, .slice vp K vc] 24)).alloc (.cells (zl none 0 0 zeros12) 87)) (.cells (zl none 0 0 zeros12) 87)
    rw [show ((w.alloc (.cells #[.string s, .int .i64 n, .slice vp K vc] 24)).alloc (.cells (zl none 0 0 zeros12) 87)).heap.size = w.heap.size + 1 + 1 from by simp] at h9
    exact h9
  have hI : Ints ((((w.alloc (.cells #[.string s, .int .i64 n, .slice vp K vc] 24)).alloc (.cells (zl none 0 0 zeros12) 87)).alloc (.cells (zl none 0 0 zeros12) 87)).alloc (.cells #[.int .i64 (c : Int)] 3)) (.slice (some ⟨w.heap.size + 1 + 1 + 1, 0, none⟩) 1 1) [(c : Int)] := by
    have h9 := heap_alloc_new (((w.alloc (.cells #[.string s, .int .i64 n, .slice vp K vc] 24)).alloc (.cells (zl none 0 0 zeros12) 87)).alloc (.cells (zl none 0 0 zeros12) 87)) (.cells #[.int .i64 (c : Int)] 3)
    rw [show (((w.alloc (.cells #[.string s, .int .i64 n, .slice vp K vc] 24)).alloc (.cells (zl none 0 0 zeros12) 87)).alloc (.cells (zl none 0 0 zeros12) 87)).heap.size = w.heap.size + 1 + 1 + 1 from by simp] at h9
    refine Or.inr ⟨_, 0, 1, rfl, by simp, by simp, by omega, (Array.getElem?_eq_some_iff.1 h9).1, fun j hj => ?_⟩
    obtain rfl : j = 0 := by simp at hj; omega
    have h8 := cell_one_new (((w.alloc (.cells #[.string s, .int .i64 n, .slice vp K vc] 24)).alloc (.cells (zl none 0 0 zeros12) 87)).alloc (.cells (zl none 0 0 zeros12) 87)) (.int .i64 (c : Int)) 3 0 (.int .i64 (c : Int)) rfl
    rw [Addr.add_lit, show (((w.alloc (.cells #[.string s, .int .i64 n, .slice vp K vc] 24)).alloc (.cells (zl none 0 0 zeros12) 87)).alloc (.cells (zl none 0 0 zeros12) 87)).heap.size = w.heap.size + 1 + 1 + 1 from by simp] at h8
    exact h8
  have hsA : w.heap.size + 1 + 1 + 1 < ((((w.alloc (.cells #[.string s, .int .i64 n, .slice vp K vc] 24)).alloc (.cells (zl none 0 0 zeros12) 87)).alloc (.cells (zl none 0 0 zeros12) 87)).alloc (.cells #[.int .i64 (c : Int)] 3)).heap.size := by simp
  refine (HR.out _ _ hBA hI).mono ?_
  clear hI HR
  generalize (((w.alloc (.cells #[.string s, .int .i64 n, .slice vp K vc] 24)).alloc (.cells (zl none 0 0 zeros12) 87)).alloc (.cells (zl none 0 0 zeros12) 87)).alloc (.cells #[.int .i64 (c : Int)] 3) = WA at *
  rintro e w1 ⟨u, vs, rfl, hL, hb1⟩
  have hB1 : Below w.heap.size w w1 := hBA.trans (hb1.mono hBA.size)
  have hbx1 := hbx.below hb1
  have g2 := hbx1.c2
  have HK1 := hide ((hb1.block (w.heap.size + 1) (by omega)).trans hk1)
  have HK2 := hide ((hb1.block (w.heap.size + 1 + 1) (by omega)).trans hk2)
  have hvl : vs.length = K + 1 := by rw [hL.len, HT.out]
  have hr1 := hL.row
  rw [hvl] at hr1
  obtain ⟨gu, cu, rfl, hgu1, hgu2, hcu1, hcu2⟩ := owns_form hr1 (by omega)
  have HL1 := hide hL
  have HVL := hide hvl
  have hs1 := hb1.size
  have HB1 := hide hB1
  have HBX := hide hbx1
  clear hL hr1 hvl hbx hbx1 hk1 hk2 hb1 hBA hB1
  go_wp2
  go_loopw [26] (fun i wr => ∃ (k : Nat) (rp : Option Addr) (rc : Nat), k ≤ K ∧ i = .int .i64 k ∧ Hid (wr.heap[w.heap.size + 1 + 1]? = some (.cells (zl rp k rc zeros12) 87)) ∧ Hid (wr.ownsRow w1.heap.size 85 12 (.slice rp k rc) k (flatP ((T.take k).map pad))) ∧ Hid (Frm w1.heap.size (w.heap.size + 1 + 1) (w.heap.size + 1 + 1) w1 wr)) (fun i _ => K - (intOf i).toNat)
  case atStart => exact ⟨0, none, 0, by omega, rfl, HK2, World.ownsRow_nil _ _ _ _, Frm.refl _ _ _ _⟩
  case round =>
    obtain ⟨k, rp, rc, hk, rfl, hblk, hown, hFr⟩ := hrel
    by_cases hlt : k < K
    · have hwF := hFr.out
      have hsw : w1.heap.size ≤ wr.heap.size := hwF.size
      have hLr := HL1.out.frm' (w' := wr) (fun b hb1 hb2 => hwF.block b hb2 (by omega) (by omega))
      have hrr := hLr.row
      rw [HVL.out] at hrr
      have hce := owns_val hrr (show k < K + 1 by omega)
      have hkT : k < T.length := by rw [HT.out]; omega
      have hri := Ints.own (hLr.at hkT)
      have hrm : T.getD k [] ∈ T := by rw [List.getD, List.getElem?_eq_getElem hkT]; exact List.getElem_mem hkT
      have hrw := HTR.out _ hrm
      have HTK : Hid (T.take (k + 1) = T.take k ++ [T.getD k []]) := by
        show _ = _
        rw [List.take_succ_eq_append_getElem hkT, List.getD, List.getElem?_eq_getElem hkT]; rfl
      generalize hrE : T.getD k [] = r at *
      obtain ⟨q, cc, hqe⟩ := hri.form
      rw [hrw.len] at hqe
      rw [hqe] at hce hri
      have HPK := hide (fun W (hW : Below wr.heap.size wr W) => spack_ok (.slice q n cc) r W (hri.below hW) hrw.row (by rw [hrw.len]; exact h1) (by rw [hrw.len]; exact h12))
      have hsbl : w.heap.size + 1 + 1 < wr.heap.size := by omega
      have z0 : wr.cell? ⟨w.heap.size + 1 + 1, 0, none⟩ = some (.slice rp k rc) := by simp [World.cell?, hblk.out, zl]
      have hd0 : Below wr.heap.size wr wr.drew := (Below.refl _ _).drew
      clear hLr hrr hri hrm hqe hrE hwF g2
      go_upto_region 6 with fail
      refine wp_region_held_drew (S := fun _ => True) (by kernel_rfl) trivial (fun _ => ?_)
      refine wpAnyH_take (i := 0) (v := .pointer (some ⟨w.heap.size + 1 + 1, 0, none⟩)) rfl (by kernel_rfl) (by kernel_rfl) (by kernel_rfl) (fun _ _ _ h => h) (Or.inl ⟨by kernel_rfl, fun w' _ => by go_simp⟩) trivial ?_
      refine wpAnyH_take (i := 2) (v := .slice q n cc) rfl (by kernel_rfl) (by kernel_rfl) (by kernel_rfl) (fun _ _ _ h => h) (Or.inl ⟨by kernel_rfl, fun w' _ => by go_simp⟩) trivial ?_
      refine wpAnyH_ready (rs := [1, 3]) (by kernel_rfl) (by simp) ?_
      refine AllReadyH.cons rfl (fun K hK => ?_) (AllReadyH.cons rfl (fun K hK => ?_) (AllReadyH.nil))
      · go_simp
        refine hK.out _ _ trivial (fun _ => ?_)
        clear hK
        refine wpAnyH_ready (rs := [3]) (by kernel_rfl) (by simp) ?_
        refine AllReadyH.cons rfl (fun K hK => ?_) (AllReadyH.nil)
        go_simp
        refine (HPK.out wr.drew hd0).mono ?_
        unfold pv
        rintro ex wo ⟨rfl, hbo⟩
        have hBo : Below wr.heap.size wr wo := hd0.trans (hbo.mono hd0.size)
        have x0 : wo.cell? ⟨w.heap.size + 1 + 1, 0, none⟩ = some (.slice rp k rc) := (hBo.cell (p := ⟨w.heap.size + 1 + 1, 0, none⟩) (by exact hsbl)).trans z0
        have x0a : (wo.alloc (.cells (i8s (pad r).l) 85)).cell? ⟨w.heap.size + 1 + 1, 0, none⟩ = some (.slice rp k rc) := (((Below.refl wo.heap.size wo).alloc (Nat.le_refl _) _).cell (p := ⟨w.heap.size + 1 + 1, 0, none⟩) (by have := hBo.size; show w.heap.size + 1 + 1 < wo.heap.size; omega)).trans x0
        refine hK.out _ _ trivial (fun _ => ?_)
        clear hK
        refine wpAnyH_ready (rs := [4]) (by kernel_rfl) (by simp) ?_
        refine AllReadyH.cons rfl (fun K hK => ?_) (AllReadyH.nil)
        refine sstep_build rfl _ rfl (pad r) rfl ?_
        refine hK.out _ _ trivial (fun _ => ?_)
        clear hK
        refine wpAnyH_ready (rs := [5]) (by kernel_rfl) (by simp) ?_
        refine AllReadyH.cons rfl (fun K hK => ?_) (AllReadyH.nil)
        have hown1 : wo.ownsRow w1.heap.size 85 12 (.slice rp k rc) k (flatP ((T.take k).map pad)) := by
          obtain ⟨e1, e2⟩ := hown.out
          refine ⟨e1, ?_⟩
          rcases e2 with e2 | ⟨g, cap, cur, ev, eg, eh, er⟩
          · exact Or.inl e2
          · exact Or.inr ⟨g, cap, cur, ev, eg, (hBo.block g (Array.getElem?_eq_some_iff.1 eh).1).trans eh, er⟩
        have hso := hBo.size
        have HNW : ∀ j u, ((pad r).l.map (Value.int .i8))[j]? = some u → (wo.alloc (.cells (i8s (pad r).l) 85)).cell? ((⟨wo.heap.size, 0, none⟩ : Addr).add j) = some u := fun j u hu => by
          have h9 := (SAr.new wo (pad r).l (pad r).len).range j u hu
          rw [Addr.add_lit]
          exact h9
        refine step_append_own rfl (.tmp 31) (.tmp 34) 82 rfl w1.heap.size 85 i0 (.agg (i8s zeros12)) 12 12 Try.underlying82 hi hz0 hz1 hz2 rfl (by decide) (.slice rp k rc) k (flatP ((T.take k).map pad)) rfl (hown1.alloc _) ⟨wo.heap.size, 0, none⟩ 1 1 ((pad r).l.map (Value.int .i8)) rfl (by rw [List.length_map, Pm.len]) HNW (by intro u hu; obtain ⟨z, _, rfl⟩ := List.mem_map.1 hu; rfl) (by unfold maxLen; omega) (by omega) (by simp; omega) ?_
        intro v' w4 hown4 hgrow
        refine hK.out _ _ trivial (fun _ => ?_)
        clear hK
        refine wpAnyH_take (i := 6) (v := .pointer (some ⟨w.heap.size + 1 + 1, 0, none⟩)) rfl (by kernel_rfl) (by kernel_rfl) (by kernel_rfl) (fun _ _ _ h => h) (Or.inl ⟨by kernel_rfl, fun w' _ => by go_simp⟩) trivial ?_
        refine wpAnyH_ready (rs := [7]) (by kernel_rfl) (by simp) ?_
        refine AllReadyH.cons rfl (fun K hK => ?_) (AllReadyH.nil)
        obtain ⟨vp4, vc4, hv4⟩ : ∃ p c, v' = .slice p (k + 1) c := by
          rcases hown4.2 with ⟨_, h9⟩ | ⟨g, cap, cur, ev, _⟩
          · omega
          · exact ⟨_, _, ev⟩
        subst hv4
        have hb4 : Below w1.heap.size wr w4 := ((hBo.mono hsw).alloc (by omega) _).grown hgrow (by simp; omega) (fun g hg => (hown1.lt g hg).1)
        have hk4 := (hb4.block (w.heap.size + 1 + 1) (by omega)).trans hblk.out
        have y0 : w4.cell? ⟨w.heap.size + 1 + 1, 0, none⟩ = some (.slice rp k rc) := by simp [World.cell?, hk4, zl]
        have f0 : w4.frozen? ⟨w.heap.size + 1 + 1, 0, none⟩ = false := by simp [World.frozen?, hk4]
        go_simp
        have HS5 : Hid ((w4.setCell ⟨w.heap.size + 1 + 1, 0, none⟩ (.slice vp4 (k + 1) vc4)).heap[w.heap.size + 1 + 1]? = some (.cells (zl vp4 (k + 1) vc4 zeros12) 87)) := by
          show _ = _
          simp [World.setCell, Array.getElem?_modify, hk4, zl]
        have HF5 : Hid (Frm w1.heap.size (w.heap.size + 1 + 1) (w.heap.size + 1 + 1) w1 (w4.setCell ⟨w.heap.size + 1 + 1, 0, none⟩ (.slice vp4 (k + 1) vc4))) := (hFr.out.trans (Frm.of_below hb4 (Nat.le_refl _))).set 0 _
        have HO5 : Hid ((w4.setCell ⟨w.heap.size + 1 + 1, 0, none⟩ (.slice vp4 (k + 1) vc4)).ownsRow w1.heap.size 85 12 (.slice vp4 (k + 1) vc4) (k + 1) (flatP ((T.take (k + 1)).map pad))) := by
          show World.ownsRow _ _ _ _ _ _ _
          rw [HTK.out, List.map_append, List.map_cons, List.map_nil, flatP_snoc]
          obtain ⟨e1, e2⟩ := hown4
          refine ⟨e1, ?_⟩
          rcases e2 with e2 | ⟨g, cap, cur, ev, eg, eh, er⟩
          · exact Or.inl e2
          · exact Or.inr ⟨g, cap, cur, ev, eg, (Below.heap_setCell _ _ _ _ (by show g ≠ w.heap.size + 1 + 1; omega)).trans eh, er⟩
        clear hb4 hk4 y0 f0 hown4 hgrow hown1 HNW
        generalize w4.setCell ⟨w.heap.size + 1 + 1, 0, none⟩ (.slice vp4 (k + 1) vc4) = w5 at *
        refine hK.out _ _ trivial (fun _ => ?_)
        clear hK
        refine wpAnyH_done (by kernel_rfl) ?_ _
        go_wp2
        go_roundw
        case rel => exact ⟨k + 1, vp4, vc4, by omega, by go_num, HS5, HO5, HF5⟩
        case measure => simp [intOf]; omega
      · go_simp
        refine (HPK.out wr.drew hd0).mono ?_
        unfold pv
        rintro ex wo ⟨rfl, hbo⟩
        have hBo : Below wr.heap.size wr wo := hd0.trans (hbo.mono hd0.size)
        have x0 : wo.cell? ⟨w.heap.size + 1 + 1, 0, none⟩ = some (.slice rp k rc) := (hBo.cell (p := ⟨w.heap.size + 1 + 1, 0, none⟩) (by exact hsbl)).trans z0
        have x0a : (wo.alloc (.cells (i8s (pad r).l) 85)).cell? ⟨w.heap.size + 1 + 1, 0, none⟩ = some (.slice rp k rc) := (((Below.refl wo.heap.size wo).alloc (Nat.le_refl _) _).cell (p := ⟨w.heap.size + 1 + 1, 0, none⟩) (by have := hBo.size; show w.heap.size + 1 + 1 < wo.heap.size; omega)).trans x0
        refine hK.out _ _ trivial (fun _ => ?_)
        clear hK
        refine wpAnyH_ready (rs := [1, 4]) (by kernel_rfl) (by simp) ?_
        refine AllReadyH.cons rfl (fun K hK => ?_) (AllReadyH.cons rfl (fun K hK => ?_) (AllReadyH.nil))
        · go_simp
          refine hK.out _ _ trivial (fun _ => ?_)
          clear hK
          refine wpAnyH_ready (rs := [4]) (by kernel_rfl) (by simp) ?_
          refine AllReadyH.cons rfl (fun K hK => ?_) (AllReadyH.nil)
          refine sstep_build rfl _ rfl (pad r) rfl ?_
          refine hK.out _ _ trivial (fun _ => ?_)
          clear hK
          refine wpAnyH_ready (rs := [5]) (by kernel_rfl) (by simp) ?_
          refine AllReadyH.cons rfl (fun K hK => ?_) (AllReadyH.nil)
          have hown1 : wo.ownsRow w1.heap.size 85 12 (.slice rp k rc) k (flatP ((T.take k).map pad)) := by
            obtain ⟨e1, e2⟩ := hown.out
            refine ⟨e1, ?_⟩
            rcases e2 with e2 | ⟨g, cap, cur, ev, eg, eh, er⟩
            · exact Or.inl e2
            · exact Or.inr ⟨g, cap, cur, ev, eg, (hBo.block g (Array.getElem?_eq_some_iff.1 eh).1).trans eh, er⟩
          have hso := hBo.size
          have HNW : ∀ j u, ((pad r).l.map (Value.int .i8))[j]? = some u → (wo.alloc (.cells (i8s (pad r).l) 85)).cell? ((⟨wo.heap.size, 0, none⟩ : Addr).add j) = some u := fun j u hu => by
            have h9 := (SAr.new wo (pad r).l (pad r).len).range j u hu
            rw [Addr.add_lit]
            exact h9
          refine step_append_own rfl (.tmp 31) (.tmp 34) 82 rfl w1.heap.size 85 i0 (.agg (i8s zeros12)) 12 12 Try.underlying82 hi hz0 hz1 hz2 rfl (by decide) (.slice rp k rc) k (flatP ((T.take k).map pad)) rfl (hown1.alloc _) ⟨wo.heap.size, 0, none⟩ 1 1 ((pad r).l.map (Value.int .i8)) rfl (by rw [List.length_map, Pm.len]) HNW (by intro u hu; obtain ⟨z, _, rfl⟩ := List.mem_map.1 hu; rfl) (by unfold maxLen; omega) (by omega) (by simp; omega) ?_
          intro v' w4 hown4 hgrow
          refine hK.out _ _ trivial (fun _ => ?_)
          clear hK
          refine wpAnyH_take (i := 6) (v := .pointer (some ⟨w.heap.size + 1 + 1, 0, none⟩)) rfl (by kernel_rfl) (by kernel_rfl) (by kernel_rfl) (fun _ _ _ h => h) (Or.inl ⟨by kernel_rfl, fun w' _ => by go_simp⟩) trivial ?_
          refine wpAnyH_ready (rs := [7]) (by kernel_rfl) (by simp) ?_
          refine AllReadyH.cons rfl (fun K hK => ?_) (AllReadyH.nil)
          obtain ⟨vp4, vc4, hv4⟩ : ∃ p c, v' = .slice p (k + 1) c := by
            rcases hown4.2 with ⟨_, h9⟩ | ⟨g, cap, cur, ev, _⟩
            · omega
            · exact ⟨_, _, ev⟩
          subst hv4
          have hb4 : Below w1.heap.size wr w4 := ((hBo.mono hsw).alloc (by omega) _).grown hgrow (by simp; omega) (fun g hg => (hown1.lt g hg).1)
          have hk4 := (hb4.block (w.heap.size + 1 + 1) (by omega)).trans hblk.out
          have y0 : w4.cell? ⟨w.heap.size + 1 + 1, 0, none⟩ = some (.slice rp k rc) := by simp [World.cell?, hk4, zl]
          have f0 : w4.frozen? ⟨w.heap.size + 1 + 1, 0, none⟩ = false := by simp [World.frozen?, hk4]
          go_simp
          have HS5 : Hid ((w4.setCell ⟨w.heap.size + 1 + 1, 0, none⟩ (.slice vp4 (k + 1) vc4)).heap[w.heap.size + 1 + 1]? = some (.cells (zl vp4 (k + 1) vc4 zeros12) 87)) := by
            show _ = _
            simp [World.setCell, Array.getElem?_modify, hk4, zl]
          have HF5 : Hid (Frm w1.heap.size (w.heap.size + 1 + 1) (w.heap.size + 1 + 1) w1 (w4.setCell ⟨w.heap.size + 1 + 1, 0, none⟩ (.slice vp4 (k + 1) vc4))) := (hFr.out.trans (Frm.of_below hb4 (Nat.le_refl _))).set 0 _
          have HO5 : Hid ((w4.setCell ⟨w.heap.size + 1 + 1, 0, none⟩ (.slice vp4 (k + 1) vc4)).ownsRow w1.heap.size 85 12 (.slice vp4 (k + 1) vc4) (k + 1) (flatP ((T.take (k + 1)).map pad))) := by
            show World.ownsRow _ _ _ _ _ _ _
            rw [HTK.out, List.map_append, List.map_cons, List.map_nil, flatP_snoc]
            obtain ⟨e1, e2⟩ := hown4
            refine ⟨e1, ?_⟩
            rcases e2 with e2 | ⟨g, cap, cur, ev, eg, eh, er⟩
            · exact Or.inl e2
            · exact Or.inr ⟨g, cap, cur, ev, eg, (Below.heap_setCell _ _ _ _ (by show g ≠ w.heap.size + 1 + 1; omega)).trans eh, er⟩
          clear hb4 hk4 y0 f0 hown4 hgrow hown1 HNW
          generalize w4.setCell ⟨w.heap.size + 1 + 1, 0, none⟩ (.slice vp4 (k + 1) vc4) = w5 at *
          refine hK.out _ _ trivial (fun _ => ?_)
          clear hK
          refine wpAnyH_done (by kernel_rfl) ?_ _
          go_wp2
          go_roundw
          case rel => exact ⟨k + 1, vp4, vc4, by omega, by go_num, HS5, HO5, HF5⟩
          case measure => simp [intOf]; omega
        · refine sstep_build rfl _ rfl (pad r) rfl ?_
          refine hK.out _ _ trivial (fun _ => ?_)
          clear hK
          refine wpAnyH_ready (rs := [1]) (by kernel_rfl) (by simp) ?_
          refine AllReadyH.cons rfl (fun K hK => ?_) (AllReadyH.nil)
          go_simp
          refine hK.out _ _ trivial (fun _ => ?_)
          clear hK
          refine wpAnyH_ready (rs := [5]) (by kernel_rfl) (by simp) ?_
          refine AllReadyH.cons rfl (fun K hK => ?_) (AllReadyH.nil)
          have hown1 : wo.ownsRow w1.heap.size 85 12 (.slice rp k rc) k (flatP ((T.take k).map pad)) := by
            obtain ⟨e1, e2⟩ := hown.out
            refine ⟨e1, ?_⟩
            rcases e2 with e2 | ⟨g, cap, cur, ev, eg, eh, er⟩
            · exact Or.inl e2
            · exact Or.inr ⟨g, cap, cur, ev, eg, (hBo.block g (Array.getElem?_eq_some_iff.1 eh).1).trans eh, er⟩
          have hso := hBo.size
          have HNW : ∀ j u, ((pad r).l.map (Value.int .i8))[j]? = some u → (wo.alloc (.cells (i8s (pad r).l) 85)).cell? ((⟨wo.heap.size, 0, none⟩ : Addr).add j) = some u := fun j u hu => by
            have h9 := (SAr.new wo (pad r).l (pad r).len).range j u hu
            rw [Addr.add_lit]
            exact h9
          refine step_append_own rfl (.tmp 31) (.tmp 34) 82 rfl w1.heap.size 85 i0 (.agg (i8s zeros12)) 12 12 Try.underlying82 hi hz0 hz1 hz2 rfl (by decide) (.slice rp k rc) k (flatP ((T.take k).map pad)) rfl (hown1.alloc _) ⟨wo.heap.size, 0, none⟩ 1 1 ((pad r).l.map (Value.int .i8)) rfl (by rw [List.length_map, Pm.len]) HNW (by intro u hu; obtain ⟨z, _, rfl⟩ := List.mem_map.1 hu; rfl) (by unfold maxLen; omega) (by omega) (by simp; omega) ?_
          intro v' w4 hown4 hgrow
          refine hK.out _ _ trivial (fun _ => ?_)
          clear hK
          refine wpAnyH_take (i := 6) (v := .pointer (some ⟨w.heap.size + 1 + 1, 0, none⟩)) rfl (by kernel_rfl) (by kernel_rfl) (by kernel_rfl) (fun _ _ _ h => h) (Or.inl ⟨by kernel_rfl, fun w' _ => by go_simp⟩) trivial ?_
          refine wpAnyH_ready (rs := [7]) (by kernel_rfl) (by simp) ?_
          refine AllReadyH.cons rfl (fun K hK => ?_) (AllReadyH.nil)
          obtain ⟨vp4, vc4, hv4⟩ : ∃ p c, v' = .slice p (k + 1) c := by
            rcases hown4.2 with ⟨_, h9⟩ | ⟨g, cap, cur, ev, _⟩
            · omega
            · exact ⟨_, _, ev⟩
          subst hv4
          have hb4 : Below w1.heap.size wr w4 := ((hBo.mono hsw).alloc (by omega) _).grown hgrow (by simp; omega) (fun g hg => (hown1.lt g hg).1)
          have hk4 := (hb4.block (w.heap.size + 1 + 1) (by omega)).trans hblk.out
          have y0 : w4.cell? ⟨w.heap.size + 1 + 1, 0, none⟩ = some (.slice rp k rc) := by simp [World.cell?, hk4, zl]
          have f0 : w4.frozen? ⟨w.heap.size + 1 + 1, 0, none⟩ = false := by simp [World.frozen?, hk4]
          go_simp
          have HS5 : Hid ((w4.setCell ⟨w.heap.size + 1 + 1, 0, none⟩ (.slice vp4 (k + 1) vc4)).heap[w.heap.size + 1 + 1]? = some (.cells (zl vp4 (k + 1) vc4 zeros12) 87)) := by
            show _ = _
            simp [World.setCell, Array.getElem?_modify, hk4, zl]
          have HF5 : Hid (Frm w1.heap.size (w.heap.size + 1 + 1) (w.heap.size + 1 + 1) w1 (w4.setCell ⟨w.heap.size + 1 + 1, 0, none⟩ (.slice vp4 (k + 1) vc4))) := (hFr.out.trans (Frm.of_below hb4 (Nat.le_refl _))).set 0 _
          have HO5 : Hid ((w4.setCell ⟨w.heap.size + 1 + 1, 0, none⟩ (.slice vp4 (k + 1) vc4)).ownsRow w1.heap.size 85 12 (.slice vp4 (k + 1) vc4) (k + 1) (flatP ((T.take (k + 1)).map pad))) := by
            show World.ownsRow _ _ _ _ _ _ _
            rw [HTK.out, List.map_append, List.map_cons, List.map_nil, flatP_snoc]
            obtain ⟨e1, e2⟩ := hown4
            refine ⟨e1, ?_⟩
            rcases e2 with e2 | ⟨g, cap, cur, ev, eg, eh, er⟩
            · exact Or.inl e2
            · exact Or.inr ⟨g, cap, cur, ev, eg, (Below.heap_setCell _ _ _ _ (by show g ≠ w.heap.size + 1 + 1; omega)).trans eh, er⟩
          clear hb4 hk4 y0 f0 hown4 hgrow hown1 HNW
          generalize w4.setCell ⟨w.heap.size + 1 + 1, 0, none⟩ (.slice vp4 (k + 1) vc4) = w5 at *
          refine hK.out _ _ trivial (fun _ => ?_)
          clear hK
          refine wpAnyH_done (by kernel_rfl) ?_ _
          go_wp2
          go_roundw
          case rel => exact ⟨k + 1, vp4, vc4, by omega, by go_num, HS5, HO5, HF5⟩
          case measure => simp [intOf]; omega
    · obtain rfl : k = K := by omega
      have hwF := hFr.out
      have hsw : w1.heap.size ≤ wr.heap.size := hwF.size
      have hLr := HL1.out.frm' (w' := wr) (fun b hb1 hb2 => hwF.block b hb2 (by omega) (by omega))
      have hrr := hLr.row
      rw [HVL.out] at hrr
      have hce := owns_val hrr (show k < k + 1 by omega)
      have hkT : k < T.length := by rw [HT.out]; omega
      have hri := Ints.own (hLr.at hkT)
      have hrm : T.getD k [] ∈ T := by rw [List.getD, List.getElem?_eq_getElem hkT]; exact List.getElem_mem hkT
      have hrw := HTR.out _ hrm
      have hBw : Below w.heap.size w wr := HB1.out.trans (hwF.below (by omega) (by omega) (by omega))
      have g3 : wr.cell? ⟨w.heap.size, 2, none⟩ = some (.slice vp k vc) := (World.cell?_of_block (w := w1) (a := ⟨w.heap.size, 2, none⟩) (hwF.block w.heap.size (by omega) (by omega) (by omega))).trans g2
      have HD1 := hide ((hwF.block (w.heap.size + 1) (by omega) (by omega) (by omega)).trans HK1.out)
      generalize hrE : T.getD k [] = r at *
      obtain ⟨q, cc, hqe⟩ := hri.form
      rw [hrw.len] at hqe
      rw [hqe] at hce hri
      have HPK := hide (spack_ok (.slice q n cc) r wr hri hrw.row (by rw [hrw.len]; exact h1) (by rw [hrw.len]; exact h12))
      have HRE := hide hrE
      clear hLr hrr hri hrm hqe hrE hwF g2 HL1 HK1 HK2 HBX HB1
      go_wp2_with fail
      refine HPK.out.mono ?_
      unfold pv
      rintro e w2 ⟨rfl, hb2⟩
      have hk2 := (hb2.block (w.heap.size + 1 + 1) (by omega)).trans hblk.out
      have hD2 := (hb2.block (w.heap.size + 1) (by omega)).trans HD1.out
      have hpl := (pad r).len
      have htr : w2.there (w.heap.size + 1 + 1) 1 (i8s (pad r).l).size := fun j hj => by
        rw [i8s_size, hpl] at hj
        constructor
        · simp [World.cell?, hk2, zl, zeros12]
          omega
        · simp [World.frozen?, hk2]
      go_upto_region 9 with (refine wpList_store_mid rfl _ _ _ rfl (w.heap.size + 1 + 1) 1 (i8s (pad r).l) rfl rfl htr (by rw [Try.size85, i8s_size, hpl]) (i8s_one _) ?_)
      have hr13 : (w2.setCells (w.heap.size + 1 + 1) 1 (i8s (pad r).l).toList).rangeAt (w.heap.size + 1 + 1) 0 (.slice rp k rc :: (pad r).l.map (Value.int .i8)) := fun j v hv => by
        cases j with
        | zero =>
          have h0 : w2.rangeAt (w.heap.size + 1 + 1) 0 [.slice rp k rc] := fun i u hu => by
            have hi0 : i = 0 := by have := (List.getElem?_eq_some_iff.1 hu).1; simp at this; omega
            subst hi0
            simp at hu
            subst hu
            simp [World.cell?, hk2, zl]
          have h9 := World.rangeAt_setCells_apart h0 (w.heap.size + 1 + 1) 1 (i8s (pad r).l).toList (Or.inr (Or.inl (by simp)))
          exact h9 0 v (by simpa using hv)
        | succ j =>
          have h9 := World.rangeAt_setCells_same w2 (w.heap.size + 1 + 1) 1 (i8s (pad r).l).toList (by rw [Array.length_toList]; exact htr)
          have h8 := h9 j v (by simpa [i8s] using hv)
          rw [show 0 + (j + 1) = 1 + j from by omega]
          exact h8
      have hD3 : (w2.setCells (w.heap.size + 1 + 1) 1 (i8s (pad r).l).toList).heap[w.heap.size + 1]? = some (.cells (zl none 0 0 zeros12) 87) := (heap_setCells_ne _ _ _ _ _ (by omega)).trans hD2
      have hB3 : Below w.heap.size w (w2.setCells (w.heap.size + 1 + 1) 1 (i8s (pad r).l).toList) := (hBw.trans (hb2.mono (by omega))).trans (sbelow_setCells _ _ _ _ (by omega))
      have hOw : Hid ((w2.setCells (w.heap.size + 1 + 1) 1 (i8s (pad r).l).toList).ownsRow w1.heap.size 85 12 (.slice rp k rc) k (flatP ((T.take k).map pad))) := by
        have hlt9 := hown.out.lt
        obtain ⟨e1, e2⟩ := hown.out
        refine ⟨e1, ?_⟩
        rcases e2 with e2 | ⟨g, cap, cur, ev, hb, hh, hn, hm, hs, ht⟩
        · exact Or.inl e2
        · have h9 := hlt9 g (by rw [ev]; rfl)
          exact Or.inr ⟨g, cap, cur, ev, hb, ((heap_setCells_ne _ _ _ _ _ (by omega)).trans (hb2.block g (by omega))).trans hh, hn, hm, hs, ht⟩
      have hs3 : (w2.setCells (w.heap.size + 1 + 1) 1 (i8s (pad r).l).toList).heap.size = w2.heap.size := ssize_setCells _ _ _ _
      have hs2 := hb2.size
      generalize w2.setCells (w.heap.size + 1 + 1) 1 (i8s (pad r).l).toList = w3 at *
      clear htr hk2 hD2 hb2 hown hblk hBw HPK g3 HD1 hFr hce
      go_wp2_with (first | refine wpList_load_mid rfl _ _ rfl (w.heap.size + 1 + 1) 0 rfl (.slice rp k rc :: (pad r).l.map (Value.int .i8)) _ hr13 Try.underlying87 rfl (by rw [Try.size87, List.length_cons, List.length_map, hpl]) ?_ | (refine wpList_store_lead rfl _ _ rfl (w.heap.size + 1) (zl none 0 0 zeros12) (.slice rp k rc) (pad r) hD3 rfl rfl rfl rfl ?_; intro w4 hb4 hg4))
      refine bodyPost_ret (results_cell_row rfl _ w4 (w.heap.size + 1) 87 _ (0, 0) _ rfl hb4 Try.underlying87 rfl (by rw [Try.size87]; simp [hpl])) rfl ?_
      have hO4 := hOw.out.kept hg4 (by
        rcases h9 : (Value.slice rp k rc).ownBlock with _ | g
        · exact Or.inl rfl
        · refine Or.inr (fun e => ?_)
          have h8 := (hOw.out.lt g h9).1
          cases e
          omega)
      refine ⟨.slice rp k rc, by rw [HRE.out], ?_, rfl, fun g hg => ⟨Nat.le_trans (by omega) (hOw.out.lt g hg).1, lobj_ty hO4 hg⟩, hB3.grown hg4 (by omega) (fun g hg => by cases hg; omega)⟩
      refine PmsAt.own (base := w1.heap.size) ?_
      rw [List.length_map, List.length_take, show min k T.length = k by omega]
      exact hO4

end Go.Proofs.Ytoiiadiimfohiaa

/- Leads of a search as they are laid: elements of thirteen cells. -/
namespace Go.Proofs.Ytoiiadiimfohiaa
open Go.RowKit

/-- Leads, cell by cell: the header of the rows, and the row that begins the next lead. -/
def flatL (L : List (Value × Pm)) : List Value := (L.map (fun p => p.1 :: p.2.l.map (Value.int .i8))).flatten

theorem flatL_length (L : List (Value × Pm)) : (flatL L).length = L.length * 13 := by
  unfold flatL
  rw [flat_length (K := 13) _ (fun g hg => by obtain ⟨p, _, rfl⟩ := List.mem_map.1 hg; rw [List.length_cons, List.length_map, p.2.len]), List.length_map]

theorem flatL_snoc (L : List (Value × Pm)) (p : Value × Pm) : flatL (L ++ [p]) = flatL L ++ (p.1 :: p.2.l.map (Value.int .i8)) := by simp [flatL]

theorem flatL_at {L : List (Value × Pm)} {j i : Nat} (hj : j < L.length) {v : Value} (hv : (L[j].1 :: L[j].2.l.map (Value.int .i8))[i]? = some v) : (flatL L)[j * 13 + i]? = some v := by
  have h1 := flat_drop (K := 13) (L.map (fun p => p.1 :: p.2.l.map (Value.int .i8))) j (fun g hg => by obtain ⟨p, _, rfl⟩ := List.mem_map.1 hg; rw [List.length_cons, List.length_map, p.2.len]) (by simpa using hj)
  have h2 : (flatL L)[j * 13 + i]? = ((flatL L).drop (j * 13))[i]? := by rw [List.getElem?_drop]
  rw [h2]
  unfold flatL
  rw [h1, List.getElem_map, List.getElem?_append_left (List.getElem?_eq_some_iff.1 hv).1]
  exact hv

/-- Rows where they lay, if their block stays. -/
theorem PmsAt.of_own {w w' : World} {v : Value} {X : List Pm} (h : PmsAt w v X) (hs : w.heap.size ≤ w'.heap.size) (hb : ∀ g, v.ownBlock = some g → g < w.heap.size → w'.heap[g]? = w.heap[g]?) : PmsAt w' v X := by
  rcases h with h | ⟨b, off, cap, h1, h2, h3, h4, h5, h6⟩
  · exact Or.inl h
  · exact Or.inr ⟨b, off, cap, h1, h2, h3, h4, Nat.lt_of_lt_of_le h5 hs, fun j hj => range_block (h6 j hj) (hb b (by rw [h1]; rfl) h5)⟩

/-- Leads that the call has laid are leads to read. -/
theorem LeadsAt.own {w : World} {base : Nat} {v : Value} {L : List (Value × Pm)} {G : List (List Pm × Pm)} (h : w.ownsRow base 87 13 v L.length (flatL L)) (hl : L.length = G.length) (h0 : 0 < G.length)
    (hp : ∀ c (hc : c < G.length), L[c].2 = G[c].2 ∧ PmsAt w L[c].1 G[c].1) : LeadsAt w v (fun c => (L.getD c (undef, 1)).1) G := by
  rcases h.2 with ⟨_, h1⟩ | ⟨g, cap, cur, hv, hb, hh, hn, hm, hs, ht⟩
  · omega
  · refine ⟨g, 0, cap, by rw [hv, hl], (Array.getElem?_eq_some_iff.1 hh).1, by omega, by unfold maxLen at hm; omega, fun c hc => ?_⟩
    have hcL : c < L.length := by omega
    have e : (L.getD c (undef, 1)) = L[c] := by rw [List.getD, List.getElem?_eq_getElem hcL]; rfl
    obtain ⟨h2, h3⟩ := hp c hc
    simp only [e]
    refine ⟨fun i u hu => ?_, h3⟩
    rw [← h2] at hu
    have hc' := h.cells (g := g) (by rw [hv]; rfl) (c * 13 + i) u (flatL_at hcL hu)
    rw [Addr.add_lit, Nat.zero_add] at hc'
    rw [Nat.zero_add]
    exact hc'

/-- They stay so while a search goes on. -/
theorem leads_mem {w : World} {base B sb mb : Nat} {v : Value} {L : List (Value × Pm)} {G : List (List Pm × Pm)} (h : w.ownsRow base 87 13 v L.length (flatL L)) (hl : L.length = G.length) (h0 : 0 < G.length)
    (hp : ∀ c (hc : c < G.length), L[c].2 = G[c].2 ∧ PmsAt w L[c].1 G[c].1) (ho : ∀ p, p ∈ L → ∀ g, p.1.ownBlock = some g → base ≤ g) (hB : w.heap.size ≤ B) (hsb : sb < base) (hmb : mb < base) :
    ∃ rvs : Nat → Value, ∀ W, Frm B sb mb w W → LeadsAt W v rvs G := by
  refine ⟨fun c => (L.getD c (undef, 1)).1, fun W hF => ?_⟩
  have hlt := h.lt
  refine LeadsAt.own (base := base) ?_ hl h0 (fun c hc => ⟨(hp c hc).1, (hp c hc).2.of_own hF.size (fun g hg hg2 => ?_)⟩)
  · obtain ⟨e1, e2⟩ := h
    refine ⟨e1, ?_⟩
    rcases e2 with e2 | ⟨g, cap, cur, ev, hb, hh, hr⟩
    · exact Or.inl e2
    · have h9 := hlt g (by rw [ev]; rfl)
      exact Or.inr ⟨g, cap, cur, ev, hb, (hF.block g (by omega) (by omega) (by omega)).trans hh, hr⟩
  · have h9 := ho _ (List.getElem_mem (by omega)) g hg
    exact hF.block g (by omega) (by omega) (by omega)

end Go.Proofs.Ytoiiadiimfohiaa

/- Steps of the loop of search's Touches. -/
namespace Go.Proofs.Ytoiiadiimfohiaa
open Go.RowKit
set_option maxRecDepth 20000

theorem Try.info87 : (Try.prog.info? 87).map (fun i => (i.zero, i.size, i.bytes)) = some (some (.agg (zl none 0 0 zeros12)), 13, 40) := by kernel_rfl

theorem PmsAt.slice {w : World} {v : Value} {X : List Pm} (h : PmsAt w v X) : ∃ p m c, v = .slice p m c := by
  rcases h with ⟨_, p, c, rfl⟩ | ⟨b, off, cap, rfl, _⟩
  · exact ⟨_, _, _, rfl⟩
  · exact ⟨_, _, _, rfl⟩

theorem lrun_build13 (lp : Option Addr) (lm lc : Nat) (a0 a1 a2 a3 a4 a5 a6 a7 a8 a9 a10 a11 : Int) (w : World) : (Instr.buildSlice 79 1 #[(0, .agg #[.slice lp lm lc, .int .i8 a0, .int .i8 a1, .int .i8 a2, .int .i8 a3, .int .i8 a4, .int .i8 a5, .int .i8 a6, .int .i8 a7, .int .i8 a8, .int .i8 a9, .int .i8 a10, .int .i8 a11])]).run Try.prog w =
    .ok (.slice (some ⟨w.heap.size, 0, none⟩) 1 1) (w.alloc (.cells #[.slice lp lm lc, .int .i8 a0, .int .i8 a1, .int .i8 a2, .int .i8 a3, .int .i8 a4, .int .i8 a5, .int .i8 a6, .int .i8 a7, .int .i8 a8, .int .i8 a9, .int .i8 a10, .int .i8 a11] 87)) := by kernel_rfl

/-- A lead as it is laid. -/
def lobj (lv : Value) (p : Pm) : Obj := .cells (lv :: p.l.map (Value.int .i8)).toArray 87

theorem lrun_build (lp : Option Addr) (lm lc : Nat) (p : Pm) (w : World) : (Instr.buildSlice 79 1 #[(0, .agg (.slice lp lm lc :: p.l.map (Value.int .i8)).toArray)]).run Try.prog w = .ok (.slice (some ⟨w.heap.size, 0, none⟩) 1 1) (w.alloc (lobj (.slice lp lm lc) p)) := by
  obtain ⟨a0, a1, a2, a3, a4, a5, a6, a7, a8, a9, a10, a11, e⟩ := slist12 p.len
  unfold lobj
  rw [e]
  exact lrun_build13 lp lm lc a0 a1 a2 a3 a4 a5 a6 a7 a8 a9 a10 a11 w

theorem lstep_build {ops : Array Oper} {o : Oper} {a : Act} {w : World} {K : Act → World → Prop} {Q : Exit → Act → World → Prop} {E : Prop} (hg : o.guard = none) (x : Operand) (hop : o.op = Op.buildSlice 79 1 #[(0, x)]) (lp : Option Addr) (lm lc : Nat) (p : Pm) (hx : a.eval x = .agg (.slice lp lm lc :: p.l.map (Value.int .i8)).toArray)
    (hK : K (a.put o.dst (.slice (some ⟨w.heap.size, 0, none⟩) 1 1)) (w.alloc (lobj (.slice lp lm lc) p))) : if Region.wanted o (yielded ops a.tmps) = true then Oper.wp Try.prog o a w K Q else E :=
  step_value hg (by unfold execOp; simp only [hop, List.map_toArray, List.map_cons, List.map_nil, hx, lrun_build, Sem.run_bind, Sem.run_pure, Result.andThen_ok]) hK

/-- One more lead is laid behind the others. -/
theorem lstep_append {ops : Array Oper} {o : Oper} {a : Act} {w : World} {K : Act → World → Prop} {Q : Exit → Act → World → Prop} {E : Prop} (hg : o.guard = none) (s x : Operand)
    (ho : o.op = .call { callee := .builtin .append, args := #[s, x], argTypes := #[79, 79] })
    (base : Nat) (tp : Option Addr) (k tc : Nat) (L : List (Value × Pm)) (hs : a.eval s = .slice tp k tc) (hown : w.ownsRow base 87 13 (.slice tp k tc) k (flatL L))
    (B : Nat) (lp : Option Addr) (lm lc : Nat) (pr : Pm) (hx : a.eval x = .slice (some ⟨B, 0, none⟩) 1 1) (hB : w.heap[B]? = some (lobj (.slice lp lm lc) pr)) (hk : k ≤ 1000) (hbase : base ≤ w.heap.size)
    (h : ∀ p4 c4 w4, w4.ownsRow base 87 13 (.slice p4 (k + 1) c4) (k + 1) (flatL (L ++ [(.slice lp lm lc, pr)])) → w.grownBy w4 (Value.slice tp k tc).ownBlock → K (a.put o.dst (.slice p4 (k + 1) c4)) w4) :
    if Region.wanted o (yielded ops a.tmps) = true then Oper.wp Try.prog o a w K Q else E := by
  obtain ⟨i0, hi, hz0, hz1, hz2⟩ := info_parts Try.info87
  refine step_append_own hg s x 79 ho base 87 i0 (.agg (zl none 0 0 zeros12)) 13 40 Try.underlying79 hi hz0 hz1 hz2 rfl (by decide) (.slice tp k tc) k (flatL L) hs hown ⟨B, 0, none⟩ 1 1 (.slice lp lm lc :: pr.l.map (Value.int .i8)) hx (by rw [List.length_cons, List.length_map, Pm.len]) (fun j u hu => ?_) (fun u hu => ?_) (by unfold maxLen; omega) (by omega) hbase (fun v' w4 h4 hg4 => ?_)
  · rw [Addr.add_lit, Nat.zero_add]
    unfold World.cell?
    rw [hB]
    unfold lobj
    simpa using hu
  · rcases List.mem_cons.1 hu with rfl | hu
    · rfl
    · obtain ⟨z, _, rfl⟩ := List.mem_map.1 hu; rfl
  · obtain ⟨p4, c4, rfl⟩ : ∃ p c, v' = .slice p (k + 1) c := by
      rcases h4.2 with ⟨_, h9⟩ | ⟨g, cap, cur, ev, _⟩
      · omega
      · exact ⟨_, _, ev⟩
    exact h p4 c4 w4 (by rw [flatL_snoc]; exact h4) hg4

theorem lrun_store (w : World) (ad : Addr) (vp : Option Addr) (vm vc : Nat) (old : Value) (hc : w.cell? ad = some old) (hf : w.frozen? ad = false) :
    (Instr.storeAt 79 (.pointer (some ad)) (.slice vp vm vc)).run Try.prog w = .ok () (w.setCell ad (.slice vp vm vc)) := by
  simp [go_sem, hc, hf]

/-- The header of the leads is stored. -/
theorem lstep_store {ops : Array Oper} {o : Oper} {a : Act} {w : World} {K : Act → World → Prop} {Q : Exit → Act → World → Prop} {E : Prop} (hg : o.guard = none) (p x : Operand) (hop : o.op = Op.store 79 p x)
    (ad : Addr) (vp : Option Addr) (vm vc : Nat) (hp : a.eval p = .pointer (some ad)) (hx : a.eval x = .slice vp vm vc) (old : Value) (hc : w.cell? ad = some old) (hf : w.frozen? ad = false) (hK : K (a.put o.dst undef) (w.setCell ad (.slice vp vm vc))) :
    if Region.wanted o (yielded ops a.tmps) = true then Oper.wp Try.prog o a w K Q else E :=
  step_skip hg (by unfold execOp; simp only [hop, hp, hx, lrun_store w ad vp vm vc old hc hf, Sem.run_bind, Sem.run_pure, Result.andThen_ok]) hK

/-- What the loop knows. -/
structure TRel (w1 wr : World) (leads many K : Nat) (Ts : Nat → List (List Int)) (k : Nat) (tp : Option Addr) (tc : Nat) (L : List (Value × Pm)) : Prop where
  blk : wr.heap[w1.heap.size + 1]? = some (.cells #[.int .i64 leads, .int .i64 many, .slice tp k tc, .map (some w1.heap.size), .slice none 0 0, .int .i64 0, .slice none 0 0] 81)
  set : PSet wr w1.heap.size []
  len : L.length = k
  own : wr.ownsRow (w1.heap.size + 1 + 1) 87 13 (.slice tp k tc) k (flatL L)
  pms : ∀ c (hc : c < L.length), L[c].2 = pad ((Ts c).getD K []) ∧ PmsAt wr L[c].1 (((Ts c).take K).map pad)
  obl : ∀ p, p ∈ L → ∀ g, p.1.ownBlock = some g → w1.heap.size + 1 + 1 ≤ g ∧ ∃ cur, wr.heap[g]? = some (.cells cur 85)
  below : Below w1.heap.size w1 wr

theorem TRel.lt {w1 wr : World} {leads many K : Nat} {Ts : Nat → List (List Int)} {k : Nat} {tp : Option Addr} {tc : Nat} {L : List (Value × Pm)} (h : TRel w1 wr leads many K Ts k tp tc L) : w1.heap.size + 1 < wr.heap.size := (Array.getElem?_eq_some_iff.1 h.blk).1

/-- One more lead: leadBy has run from wr to wo, then the lead is laid, appended, and the header stored. -/
theorem TRel.next {w1 wr wo w4 : World} {leads many K : Nat} {Ts : Nat → List (List Int)} {k : Nat} {tp : Option Addr} {tc : Nat} {L : List (Value × Pm)} (h : TRel w1 wr leads many K Ts k tp tc L)
    {lp : Option Addr} {lm lc : Nat} {p4 : Option Addr} {c4 : Nat} (hbo : Below wr.heap.size wr wo) (hpm : PmsAt wo (.slice lp lm lc) (((Ts k).take K).map pad)) (hob : ∀ g, (Value.slice lp lm lc).ownBlock = some g → wr.heap.size ≤ g ∧ ∃ cur, wo.heap[g]? = some (.cells cur 85))
    (hown4 : w4.ownsRow (w1.heap.size + 1 + 1) 87 13 (.slice p4 (k + 1) c4) (k + 1) (flatL (L ++ [(.slice lp lm lc, pad ((Ts k).getD K []))])))
    (hg : (wo.alloc (lobj (.slice lp lm lc) (pad ((Ts k).getD K [])))).grownBy w4 (Value.slice tp k tc).ownBlock) :
    TRel w1 (w4.setCell ⟨w1.heap.size + 1, 2, none⟩ (.slice p4 (k + 1) c4)) leads many K Ts (k + 1) p4 c4 (L ++ [(.slice lp lm lc, pad ((Ts k).getD K []))]) := by
  have hlt := h.lt
  have hso := hbo.size
  have hownw := h.own
  have hb4 : ∀ g, g < wo.heap.size → (Value.slice tp k tc).ownBlock ≠ some g → w4.heap[g]? = wo.heap[g]? := fun g h8 h9 => (hg.block g (by simp; omega) (fun e => h9 e.symm)).trans (Below.heap_alloc _ _ _ h8)
  have hnl : ∀ g, g < w1.heap.size + 1 + 1 → (Value.slice tp k tc).ownBlock ≠ some g := fun g hg9 e => by have := (hownw.lt g e).1; omega
  have hlow : ∀ g, g < w1.heap.size + 1 + 1 → w4.heap[g]? = wr.heap[g]? := fun g hg9 => (hb4 g (by omega) (hnl g hg9)).trans (hbo.block g (by omega))
  have hset : ∀ g, g ≠ w1.heap.size + 1 → (w4.setCell ⟨w1.heap.size + 1, 2, none⟩ (.slice p4 (k + 1) c4)).heap[g]? = w4.heap[g]? := fun g hg9 => Below.heap_setCell _ _ _ _ hg9
  have hsz : wo.heap.size + 1 ≤ w4.heap.size := by have := hg.size; simpa using this
  have hsz5 : (w4.setCell ⟨w1.heap.size + 1, 2, none⟩ (.slice p4 (k + 1) c4)).heap.size = w4.heap.size := by simp [World.setCell]
  -- blocks of packed rows are no block of leads
  have hty : ∀ g cur, wr.heap[g]? = some (.cells cur 85) → (Value.slice tp k tc).ownBlock ≠ some g := fun g cur hcur e => by
    obtain ⟨c2, hc2⟩ := lobj_ty hownw e
    rw [hcur] at hc2
    injection hc2 with hc2
    injection hc2 with _ e2 _
    exact absurd e2 (by decide)
  have hkeep : ∀ g, w1.heap.size + 1 + 1 ≤ g → (∃ cur, wr.heap[g]? = some (.cells cur 85)) → (w4.setCell ⟨w1.heap.size + 1, 2, none⟩ (.slice p4 (k + 1) c4)).heap[g]? = wr.heap[g]? := fun g h7 ⟨cur, hcur⟩ => by
    have h8 := (Array.getElem?_eq_some_iff.1 hcur).1
    rw [hset g (by omega), hb4 g (by omega) (hty g cur hcur), hbo.block g h8]
  have hnew : ∀ g, (Value.slice lp lm lc).ownBlock = some g → (w4.setCell ⟨w1.heap.size + 1, 2, none⟩ (.slice p4 (k + 1) c4)).heap[g]? = wo.heap[g]? := fun g hgo => by
    obtain ⟨h7, cur, hcur⟩ := hob g hgo
    have h8 := (Array.getElem?_eq_some_iff.1 hcur).1
    rw [hset g (by omega), hb4 g h8 (fun e => by have := (hownw.lt g e).2; omega)]
  refine ⟨?_, ?_, by rw [List.length_append, h.len]; rfl, ownsRow_setCell_below hown4 (by exact Nat.lt_succ_self _) _, fun c hc => ?_, fun p hp g hgo => ?_, ?_⟩
  · have h9 := (hlow (w1.heap.size + 1) (by omega)).trans h.blk
    simp [World.setCell, Array.getElem?_modify, h9]
  · exact h.set.of_block ((hset _ (by omega)).trans (hlow _ (by omega)))
  · rw [List.length_append, List.length_singleton] at hc
    rcases Nat.lt_or_ge c L.length with h9 | h9
    · rw [List.getElem_append_left h9]
      obtain ⟨e1, e2⟩ := h.pms c h9
      refine ⟨e1, e2.of_own (by rw [hsz5]; omega) (fun g hgo _ => ?_)⟩
      obtain ⟨h7, h8⟩ := h.obl _ (List.getElem_mem h9) g hgo
      exact hkeep g h7 h8
    · have hce : c = k := by have := h.len; omega
      subst hce
      rw [List.getElem_append_right h9]
      simp only [show c - L.length = 0 by omega, List.getElem_cons_zero]
      exact ⟨by first | rfl | trivial, hpm.of_own (by rw [hsz5]; omega) (fun g hgo _ => hnew g hgo)⟩
  · rcases List.mem_append.1 hp with hp | hp
    · obtain ⟨h7, h8⟩ := h.obl p hp g hgo
      refine ⟨h7, ?_⟩
      obtain ⟨cur, hcur⟩ := h8
      exact ⟨cur, (hkeep g h7 ⟨cur, hcur⟩).trans hcur⟩
    · simp at hp
      subst hp
      obtain ⟨h7, cur, hcur⟩ := hob g hgo
      exact ⟨by omega, cur, (hnew g hgo).trans hcur⟩
  · refine ((h.below.trans ((hbo.mono (by omega)).alloc (by omega) _)).grown hg (by simp; omega) (fun g hg9 => ?_)).setCell (p := ⟨w1.heap.size + 1, 2, none⟩) (Nat.le_succ _) _
    have := (hownw.lt g hg9).1
    omega

end Go.Proofs.Ytoiiadiimfohiaa
