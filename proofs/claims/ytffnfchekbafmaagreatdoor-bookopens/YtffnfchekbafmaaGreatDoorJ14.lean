/- Joined: BrN. -/
import Derived.Test.YtffnfchekbafmaaGreatDoorJ13
import Derived.Test.YtffnfchekbafmaaGreatDoorJ8
/- Contract: the law BookOpens: its walk. -/
namespace Go.Proofs.YtffnfchekbafmaaGreatDoor
open Go.RowKit Go.Lib
set_option maxRecDepth 100000
set_option linter.unusedVariables false

set_option maxHeartbeats 8000000 in
theorem bookOpens_walk (a : Option Addr) (cap : Nat) (t : ByteArray) (w : World) (hb : BySl w (.slice a t.size cap) t) (hg : Glk w) :
    Calls Tryz.prog 3 #[.slice a t.size cap] w fun e w' => e = .returned (.bool true) ∧ Below w.heap.size w w' := by
  have hcb : t.size ≤ cap ∧ cap ≤ 9223372036854775807 := by
    obtain ⟨a', cap', e, h1, h2, _⟩ := hb
    injection e with _ _ e
    subst e
    exact ⟨h1, h2⟩
  by_cases hs : 4000 < t.size
  · generalize t.size = n at *
    have hs1 : (4000 : Int) < (n : Int) := by omega
    clear hb hg
    go_enter Tryz.func3, Tryz.ntmps3
    go_wp2
    go_ret
    exact ⟨rfl, Below.refl _ _⟩
  · obtain ⟨A, hO⟩ := opn_exists t.data.toList.length t.data.toList (Nat.le_refl _)
    have hfew := opn_few hO
    have hsl : t.data.toList.length = t.size := by rw [Array.length_toList]; rfl
    have hA : A.length ≤ 400 := by omega
    have HOP := hide (open_ok (.slice a t.size cap) t A w hb hg (by omega) hO (by omega))
    have HRO : Hid (∀ V, Below w.heap.size w V → Calls Tryz.prog 5 #[.slice a t.size cap] V fun e w' => ∃ (u : Value) (qs : List (List Value)), e = .returned (.tuple #[u, .int .i64 ((lns A).length : Int)]) ∧ w'.ownsRow V.heap.size 44 4 u A.length qs.flatten ∧ Rcs w' qs A ∧ Below V.heap.size V w') := fun V hV => ropen_ok _ t A V (hb.below hV) (by omega) hO
    have hpre := opn_pre hO
    have hE : (lns A).length ≤ t.size := by
      have := congrArg List.length hpre
      rw [List.length_take] at this
      omega
    have HCV : Hid (∀ V, Below w.heap.size w V → (convert 22 9 (.slice a (lns A).length cap)).run Tryz.prog V = .ok (.string ⟨(lns A).toArray⟩) V) := fun V hV => by
      have h1 : BySl V (.slice a t.data.toList.length cap) ⟨t.data.toList.toArray⟩ := by rw [hsl]; exact hb.below hV
      have h2 := by_take h1 (lns A).length (by omega)
      rw [hpre] at h2
      exact by_conv h2
    have HG := hide (fun V (hV : Below w.heap.size w V) => (hg.below hV).tab)
    have HA := hide hA
    have hE9 : (lns A).length ≤ 4000 := by omega
    obtain ⟨E, hEE⟩ : ∃ E, (lns A).length = E := ⟨_, rfl⟩
    have HEE := hide hEE
    rw [hEE] at HOP HRO HCV hE hE9
    have hs1 : ¬ (4000 : Int) < (t.size : Int) := by omega
    generalize t.size = n at *
    clear hb hg hO hfew hsl hpre hEE hs
    go_enter Tryz.func3, Tryz.ntmps3
    go_wp2_with fail
    refine HOP.out.mono ?_
    rintro e W1 ⟨p, u, xs, rfl, hp1, hp2, hO1, hE1, hb1⟩
    have HB1 := hide hb1
    have HP1 := hide hp2
    have HO1 := hide hO1
    have HE1 := hide hE1
    clear hb1 hp1 hp2 hO1 hE1 HOP
    go_wp2_with fail
    refine (HRO.out W1 HB1.out).mono ?_
    rintro e W2 ⟨u2, qs, rfl, hO2, hR2, hb2⟩
    have HB12 := hide hb2
    have HB2 := hide (HB1.out.trans (hb2.mono HB1.out.size))
    have HX : Hid (xs.length = A.length) := HE1.out.1
    have HALL : Hid (∀ V, Below W2.heap.size W2 V → Calls Tryz.prog 7 #[.pointer (some ⟨p, 0, none⟩)] V fun e w' => ∃ (v' : Value) (qs : List (List Value)) (f' : TagF Value), e = .returned v' ∧ w'.ownsRow V.heap.size 44 4 v' xs.length qs.flatten ∧ Rcs w' qs (reT A xs.length f') ∧ Pw xs.length 0 xs.length (tagE xs) f' ∧ Srd kOf f' 0 xs.length ∧ Below V.heap.size V w') := fun V hV => by
      have hW := HB12.out.trans (hV.mono HB12.out.size)
      exact all_ok p u xs A V ((hW.block p (Array.getElem?_eq_some_iff.1 HP1.out).1).trans HP1.out) ((SlAt.own HO1.out).below hW) (HE1.out.keep (StrK.of hW)) (by rw [HX.out]; have := HA.out; omega)
    have HBD : Hid (∀ V, Below W2.heap.size W2 V → Calls Tryz.prog 8 #[u2] V fun e w' => ∃ (v : Value) (l : List Nat), e = .returned v ∧ w'.ownsRow V.heap.size 44 4 v A.length ((l.map (fun x => qs.getD x [])).flatten) ∧ Ins (fun x => kQ (qs.getD x [])) A.length l ∧ Below V.heap.size V w') := fun V hV =>
      rbyDay_ok W1.heap.size A.length u2 qs V hR2.1.symm (by have := HA.out; omega) (fr4 hO2 (fun g hg => hV.block g (hO2.lt g hg).2)) hR2.gq
    have HBY : Hid (∀ V, Below W2.heap.size W2 V → Calls Tryz.prog 9 #[.pointer (some ⟨p, 0, none⟩)] V fun e w' => ∃ u, e = .returned u ∧ w'.ownsRow V.heap.size 5 1 u (lns A).length (bcs (lns A)) ∧ Below V.heap.size V w') := fun V hV => by
      have hW := HB12.out.trans (hV.mono HB12.out.size)
      exact bytes_ok p _ u xs A V ((hW.block p (Array.getElem?_eq_some_iff.1 HP1.out).1).trans HP1.out) ((SlAt.own HO1.out).below hW) (HE1.out.keep (StrK.of hW)) (HG.out V (HB1.out.trans (hW.mono HB1.out.size))) (by rw [HX.out]; have := HA.out; omega)
    have HSAME : Hid (∀ (V V1 V2 : World) (v v2 : Value) (q9 : List (List Value)) (f : TagF Value) (l : List Nat) (b1 b2 : Nat), Below W2.heap.size W2 V → V.ownsRow b1 44 4 v xs.length q9.flatten → Rcs V1 q9 (reT A xs.length f) → Below V1.heap.size V1 V → Pw xs.length 0 xs.length (tagE xs) f → Srd kOf f 0 xs.length → V.ownsRow b2 44 4 v2 A.length ((l.map (fun x => qs.getD x [])).flatten) → Ins (fun x => kQ (qs.getD x [])) A.length l → Calls Tryz.prog 6 #[v, v2] V fun e w' => e = .returned (.bool true) ∧ Below V.heap.size V w') := fun V V1 V2 v v2 q9 f l b1 b2 hV h1 h2 h3 h4 h5 h6 h7 => by
      have hI := ins_of HE1.out hR2 h4 h5
      rw [HX.out] at hI
      have hl := hI.unique h7
      have h8 : Rcs V q9 (l.map (fun x => A.getD x [])) := by
        have h9 := h2.keep (StrK.of h3)
        rw [reT_map, HX.out, hl] at h9
        exact h9
      have h10 := rcs_map (hR2.keep (StrK.of hV)) (l := l) (fun x hx => h7.lt hx)
      rw [HX.out] at h1
      exact sameRecs_ok b1 b2 A.length v v2 q9 _ (l.map (fun x => A.getD x [])) V (by rw [List.length_map]; exact h7.len.symm) (by have := HA.out; omega) h1 h6 h8 h10
    obtain ⟨ua2, uc2, eu2⟩ := form4 hO2
    have HXA := hide hA
    obtain ⟨M, hM⟩ : ∃ M, A.length = M := ⟨_, rfl⟩
    rw [hM] at eu2
    subst eu2
    clear hO2 hR2 hb2 hM hA
    have heq : ((⟨(lns A).toArray⟩ : ByteArray).toList == (⟨(lns A).toArray⟩ : ByteArray).toList) = true := eqs_t rfl
    generalize hBA : (⟨(lns A).toArray⟩ : ByteArray) = BA at *
    have HBA := hide hBA
    clear hBA
    have hle : (0 : Int) ≤ (E : Int) ∧ (E : Int) ≤ (n : Int) ∧ (E : Int) ≤ (cap : Int) := ⟨by omega, by omega, by omega⟩
    go_wp2_with fail
    go_upto_region 5 with fail
    refine wp_region_held_drew (S := fun W' => Below W2.heap.size W2 W') (by kernel_rfl) ((Below.refl _ _).drew) (fun hS => ?_)
    refine wpAnyH_take (i := 0) (v := .pointer (some ⟨p, 0, none⟩)) rfl (by kernel_rfl) (by kernel_rfl) (by kernel_rfl) (fun _ _ _ h => h) (Or.inl ⟨by kernel_rfl, fun w' hS' => by clear hS'; go_simp⟩) hS ?_
    refine wpAnyH_take (i := 1) (v := .bool true) rfl (by kernel_rfl) (by kernel_rfl) (by kernel_rfl) (fun _ _ _ h => h) (Or.inl ⟨by kernel_rfl, fun w' hS' => by clear hS'; go_simp⟩) hS ?_
    refine wpAnyH_take (i := 2) (v := .bool true) rfl (by kernel_rfl) (by kernel_rfl) (by kernel_rfl) (fun _ _ _ h => h) (Or.inl ⟨by kernel_rfl, fun w' hS' => by clear hS'; go_simp⟩) hS ?_
    refine wpAnyH_take (i := 3) (v := .int .i64 (E : Int)) rfl (by kernel_rfl) (by kernel_rfl) (by kernel_rfl) (fun _ _ _ h => h) (Or.inl ⟨by kernel_rfl, fun w' hS' => by clear hS'; go_simp⟩) hS ?_
    refine wpAnyH_take (i := 4) (v := .int .i64 (E : Int)) rfl (by kernel_rfl) (by kernel_rfl) (by kernel_rfl) (fun _ _ _ h => h) (Or.inl ⟨by kernel_rfl, fun w' hS' => by clear hS'; go_simp⟩) hS ?_
    refine wpAnyH_take (i := 5) (v := .bool true) rfl (by kernel_rfl) (by kernel_rfl) (by kernel_rfl) (fun _ _ _ h => h) (Or.inl ⟨by kernel_rfl, fun w' hS' => by clear hS'; go_simp⟩) hS ?_
    refine wpAnyH_take (i := 6) (v := .bool true) rfl (by kernel_rfl) (by kernel_rfl) (by kernel_rfl) (fun _ _ _ h => h) (Or.inl ⟨by kernel_rfl, fun w' hS' => by clear hS'; go_simp⟩) hS ?_
    refine wpAnyH_take (i := 7) (v := .bool true) rfl (by kernel_rfl) (by kernel_rfl) (by kernel_rfl) (fun _ _ _ h => h) (Or.inl ⟨by kernel_rfl, fun w' hS' => by clear hS'; go_simp⟩) hS ?_
    refine wpAnyH_take (i := 8) (v := .pointer (some ⟨p, 0, none⟩)) rfl (by kernel_rfl) (by kernel_rfl) (by kernel_rfl) (fun _ _ _ h => h) (Or.inl ⟨by kernel_rfl, fun w' hS' => by clear hS'; go_simp⟩) hS ?_
    refine wpAnyH_take (i := 10) (v := .slice ua2 M uc2) rfl (by kernel_rfl) (by kernel_rfl) (by kernel_rfl) (fun _ _ _ h => h) (Or.inl ⟨by kernel_rfl, fun w' hS' => by clear hS'; go_simp⟩) hS ?_
    refine wpAnyH_ready (rs := [9]) (by kernel_rfl) (by simp) ?_
    refine AllReadyH.cons rfl (fun K hK => ?_) AllReadyH.nil
    go_simp
    refine (HALL.out W2.drew (Below.refl _ _).drew).mono ?_
    rintro e W3 ⟨v3, q9, f9, rfl, hO3, hR3, hPw, hSr, hb3⟩
    have hB3 : Below W2.heap.size W2 W3 := ((Below.refl W2.heap.size W2).drew).trans hb3
    refine hK.out _ _ hB3 (fun hS => ?_)
    clear hK
    refine wpAnyH_ready (rs := [11]) (by kernel_rfl) (by simp) ?_
    refine AllReadyH.cons rfl (fun K hK => ?_) AllReadyH.nil
    go_simp
    refine (HBD.out W3 hB3).mono ?_
    rintro e W4 ⟨v4, l4, rfl, hO4, hI4, hb4⟩
    have hB4 : Below W2.heap.size W2 W4 := hB3.trans (hb4.mono hB3.size)
    refine hK.out _ _ hB4 (fun hS => ?_)
    clear hK
    refine wpAnyH_ready (rs := [12]) (by kernel_rfl) (by simp) ?_
    refine AllReadyH.cons rfl (fun K hK => ?_) AllReadyH.nil
    go_simp
    refine (HSAME.out W4 W3 W4 v3 v4 q9 f9 l4 _ _ hB4 (fr4 hO3 (fun g hg => hb4.block g (hO3.lt g hg).2)) hR3 hb4 hPw hSr hO4 hI4).mono ?_
    rintro e W5 ⟨rfl, hb5⟩
    have hB5 : Below W2.heap.size W2 W5 := hB4.trans (hb5.mono hB4.size)
    refine hK.out _ _ hB5 (fun hS => ?_)
    clear hK hO3 hR3 hPw hSr hO4 hI4 hb3 hb4 hb5
    refine wpAnyH_take (i := 13) (v := .bool true) rfl (by kernel_rfl) (by kernel_rfl) (by kernel_rfl) (fun _ _ _ h => h) (Or.inl ⟨by kernel_rfl, fun w' hS' => by clear hS'; go_simp⟩) hS ?_
    refine wpAnyH_take (i := 14) (v := .bool true) rfl (by kernel_rfl) (by kernel_rfl) (by kernel_rfl) (fun _ _ _ h => h) (Or.inl ⟨by kernel_rfl, fun w' hS' => by clear hS'; go_simp⟩) hS ?_
    refine wpAnyH_take (i := 15) (v := .pointer (some ⟨p, 0, none⟩)) rfl (by kernel_rfl) (by kernel_rfl) (by kernel_rfl) (fun _ _ _ h => h) (Or.inl ⟨by kernel_rfl, fun w' hS' => by clear hS'; go_simp⟩) hS ?_
    refine wpAnyH_take (i := 18) (v := .slice a n cap) rfl (by kernel_rfl) (by kernel_rfl) (by kernel_rfl) (fun _ _ _ h => h) (Or.inl ⟨by kernel_rfl, fun w' hS' => by clear hS'; go_simp⟩) hS ?_
    refine wpAnyH_take (i := 19) (v := .int .i64 (E : Int)) rfl (by kernel_rfl) (by kernel_rfl) (by kernel_rfl) (fun _ _ _ h => h) (Or.inl ⟨by kernel_rfl, fun w' hS' => by clear hS'; go_simp⟩) hS ?_
    refine wpAnyH_take (i := 20) (v := .slice a E cap) rfl (by kernel_rfl) (by kernel_rfl) (by kernel_rfl) (fun _ _ _ h => h) (Or.inl ⟨by kernel_rfl, fun w' hS' => by clear hS'; go_simp⟩) hS ?_
    refine wpAnyH_take (i := 21) (v := .string BA) rfl (by kernel_rfl) (by kernel_rfl) (by kernel_rfl) (fun _ _ _ h => h) (Or.inl ⟨by kernel_rfl, fun w' hS' => by have hq := HCV.out w' (HB2.out.trans (hS'.mono HB2.out.size)); clear hS'; go_simp⟩) hS ?_
    refine wpAnyH_ready (rs := [16]) (by kernel_rfl) (by simp) ?_
    refine AllReadyH.cons rfl (fun K hK => ?_) AllReadyH.nil
    go_simp
    refine (HBY.out W5 hB5).mono ?_
    rintro e W6 ⟨u6, rfl, hO6, hb6⟩
    have hB6 : Below W2.heap.size W2 W6 := hB5.trans (hb6.mono hB5.size)
    have hcv6 : (convert 22 9 u6).run Tryz.prog W6 = .ok (.string BA) W6 := by
      obtain ⟨a6, c6, e6⟩ := row_form hO6
      have h7 := BySl.own hO6
      rw [e6] at h7 ⊢
      rw [← HBA.out]
      exact by_conv h7
    refine hK.out _ _ hB6 (fun hS => ?_)
    clear hK hb6
    obtain ⟨a6, c6, e6⟩ := row_form hO6
    subst e6
    refine wpAnyH_ready (rs := [17]) (by kernel_rfl) (by simp) ?_
    refine AllReadyH.cons rfl (fun K hK => ?_) AllReadyH.nil
    go_simp
    refine hK.out _ _ hB6 (fun hS => ?_)
    clear hK hcv6 hO6
    refine wpAnyH_take (i := 22) (v := .bool true) rfl (by kernel_rfl) (by kernel_rfl) (by kernel_rfl) (fun _ _ _ h => h) (Or.inl ⟨by kernel_rfl, fun w' hS' => by clear hS'; go_simp⟩) hS ?_
    refine wpAnyH_take (i := 23) (v := .bool true) rfl (by kernel_rfl) (by kernel_rfl) (by kernel_rfl) (fun _ _ _ h => h) (Or.inl ⟨by kernel_rfl, fun w' hS' => by clear hS'; go_simp⟩) hS ?_
    refine wpAnyH_take (i := 24) (v := .bool true) rfl (by kernel_rfl) (by kernel_rfl) (by kernel_rfl) (fun _ _ _ h => h) (Or.inl ⟨by kernel_rfl, fun w' hS' => by clear hS'; go_simp⟩) hS ?_
    refine wpAnyH_done (by kernel_rfl) ?_ _
    have HF := hide (HB2.out.trans (hB6.mono HB2.out.size))
    clear hS hB3 hB4 hB5 hB6
    go_wp2
    go_ret
    exact ⟨rfl, HF.out⟩

end Go.Proofs.YtffnfchekbafmaaGreatDoor
