/- Joined: Gzw, GeO, Cnt. -/
import Derived.Test.YtimfoggjocajiaaJ5
import Derived.Test.YtimfoggjocajiaaJ4
import Derived.Deep.QuietTactic
/- Contract: a row's shortest word. -/
namespace Go.Proofs.Ytimfoggjocajiaa
open Go.RowKit Go.Maps

theorem prounds_raw (w : World) : Calls Try.prog 65 #[] w fun e w' => e = .returned (.agg ((1 : Pm).l.map (Value.int .i8)).toArray) ∧ Below w.heap.size w w' := prounds_ok w

theorem run_two0 (a b : Int) (w : World) : (Instr.index 161 (.agg #[.int .i64 a, .int .i64 b]) (.int .i64 0)).run Try.prog w = .ok (.int .i64 a) w := by kernel_rfl
theorem run_two1 (a b : Int) (w : World) : (Instr.index 161 (.agg #[.int .i64 a, .int .i64 b]) (.int .i64 1)).run Try.prog w = .ok (.int .i64 b) w := by kernel_rfl

/-- What is asked of the search for a word. -/
def ShPost (gs : List Pm) (to : Pm) (w : World) (e : Ending) (w' : World) : Prop :=
  ∃ (u : Value) (wd : List Int) (i : Nat) (S : List (Pm × List Int)), e = .returned u ∧ Run (glet 0 gs) i S ∧ (to, wd) ∈ S ∧ w'.ownsRow w.heap.size 3 1 u wd.length (wd.map (Value.int .i64)) ∧ Below w.heap.size w w'

theorem change_is {n : Nat} {v : Value} {gs : List Pm} {k : Int} {q : Pm} (w : World) (hG : GroupAt w v n gs) (hgl : gs.length ≤ 1000000) (hk : I64 k) (hq : lett gs k = some q) :
    Calls Try.prog 66 #[v, .int .i64 k] w fun e w' => e = .returned (.tuple #[.agg (q.l.map (Value.int .i8)).toArray, .bool true]) ∧ Below w.heap.size w w' := by
  refine (change_any n v gs k w hG hgl hk).mono ?_
  rintro e w' ⟨zs, t, hz, rfl, hh, hb⟩
  obtain ⟨h1, h2⟩ := hh.out
  cases t with
  | true =>
    obtain ⟨q', e1, e2⟩ := h1 rfl
    rw [hq] at e1
    rw [e2, ← Option.some.inj e1]
    exact ⟨rfl, hb⟩
  | false => rw [h2 rfl] at hq; cases hq

theorem slot_len {w : World} {base e size n : Nat} {v : Value} {xs : List Value} (h : w.ownsRow base e size v n xs) : slenV v = n := by
  rcases h.2 with ⟨h0, h1⟩ | ⟨g, cap, cur, hv, _⟩
  · rw [h0, h1]; rfl
  · rw [hv]; rfl

set_option maxRecDepth 20000 in
set_option maxHeartbeats 1500000 in
theorem shortest_ok (n : Nat) (v : Value) (gs : List Pm) (to : Pm) (w : World) (hgl : gs.length ≤ 1000000) (hG : GroupAt w v n gs) (hto : Gen (fun y => y ∈ gs) to) (X : List Pm) (hX : ∀ x, Gen (fun y => y ∈ gs) x → x ∈ X) (hXl : X.length ≤ 1000000) :
    Calls Try.prog 100 #[v, .agg (to.l.map (Value.int .i8)).toArray] w fun e w' => ShPost gs to w e w' := by
  have HG := hide hG
  obtain ⟨g1, vg1, B1, c1, bs1, C1, st1, rfl, hg1, a10, a11, a12, hP1, hC1, hb1, rfl⟩ := hG
  obtain ⟨pp, pcap, rfl⟩ := hP1.form
  clear hP1 hC1 hb1 a10 a12
  have htl := to.len
  obtain ⟨L, hL⟩ : ∃ L, L = glet 0 gs := ⟨_, rfl⟩
  have HL := hide hL
  have HXX : Hid (∀ x, Gen (fun x => ∃ l, l ∈ L ∧ l.2 = x) x → x ∈ X) := fun x hx => hX x ((glet_gen 0 gs x).1 (by rw [← hL]; exact hx))
  have HTO : Hid (Gen (fun x => ∃ l, l ∈ L ∧ l.2 = x) to) := by show Gen _ _; rw [hL]; exact (glet_gen 0 gs to).2 hto
  have HXL := hide hXl
  have hmm := @run_makeMap Try.prog
  have ht0 := run_two0
  have ht1 := run_two1
  have hA0 : Arr (w.alloc (.cells (i8s to.l) 91)) w.heap.size to.l := Arr.new w to.l htl
  have hM0 : KMap 91 .i8 ((w.alloc (.cells (i8s to.l) 91)).alloc (.map #[] 0)) (w.heap.size + 1) 0 (fun _ => none) := by
    have := KMap.made 91 .i8 (w.alloc (.cells (i8s to.l) 91))
    rwa [show (w.alloc (.cells (i8s to.l) 91)).heap.size = w.heap.size + 1 from by simp] at this
  have hs0 : ((w.alloc (.cells (i8s to.l) 91)).alloc (.map #[] 0)).heap.size = w.heap.size + 2 := by simp
  have hB0 : Below w.heap.size w ((w.alloc (.cells (i8s to.l) 91)).alloc (.map #[] 0)) := ((Below.refl _ _).alloc (Nat.le_refl _) _).alloc (by simp) _
  have hA1 := hA0.alloc (.map #[] 0)
  have HS0 : Hid (∀ w1 w2 w3 : World, Below (w.heap.size + 2) ((w.alloc (.cells (i8s to.l) 91)).alloc (.map #[] 0)) w1 → KMap 91 .i8 w2 (w.heap.size + 1) 1 (kupd (fun _ => none) (1 : Pm).l zeros13) → w1.grownBy w2 (some (w.heap.size + 1)) → Below w2.heap.size w2 w3 → Hid (ShR w (w3.alloc (.cells (i8s (1 : Pm).l) 91)) (w.heap.size + 1) (.slice (some ⟨w3.heap.size, 0, none⟩) 1 1) [(1, [])] (kupd (fun _ => none) (1 : Pm).l zeros13) to)) := fun w1 w2 w3 hb1 hm2 hg2 hb3 => by
    have hs1 := hb1.size
    rw [hs0] at hs1
    have hbm : Below (w.heap.size + 1) w1 w2 := ⟨hg2.os, hg2.tape, hg2.output, hg2.size, fun b hb => hg2.block b (by omega) (fun e => by have := Option.some.inj e; omega)⟩
    have hs2 := hg2.size
    have hs3 := hb3.size
    have hb4 : Below w2.heap.size w2 (w3.alloc (.cells (i8s (1 : Pm).l) 91)) := hb3.alloc hb3.size _
    refine ⟨?_, hm2.below hb4 hm2.lt, ((hA1.below hb1 (by omega)).below hbm (by omega)).below hb4 (by omega), ?_, ?_, by omega, ?_⟩
    · have := (one_pack w3 (1 : Pm)).own
      exact ownsE_lw (by simpa using this) (by omega)
    · intro zs u hu
      unfold kupd at hu
      by_cases hz : zs = (1 : Pm).l
      · rw [if_pos hz] at hu; rw [← Option.some.inj hu]; exact Stp.zero
      · rw [if_neg hz] at hu; cases hu
    · exact Came.start zeros13
    · exact ((hB0.trans (hb1.mono (by omega))).trans (hbm.mono (by omega))).trans (hb4.mono (by omega))
  have HGk : Hid (∀ W, Below w.heap.size w W → GroupAt W (.pointer (some ⟨g1, 0, none⟩)) n gs) := fun W hb => HG.out.below hb (Nat.le_refl _)
  clear hX hto hL hXl hA0 HG hA1
  go_enter Try.func100, Try.ntmps100
  go_wp2_with fail
  refine (prounds_raw _).mono ?_
  rintro e w1 ⟨rfl, hb1⟩
  have hbq : Below (w.heap.size + 2) ((w.alloc (.cells (i8s to.l) 91)).alloc (.map #[] 0)) w1 := hs0 ▸ hb1
  have hM1 := hM0.below hbq (by omega)
  have HBQ := hide hbq
  clear hb1 hbq hM0
  go_wp2_with (first
    | refine wpList_step_zero rfl rfl ?_
    | (refine wpList_kinsert rfl _ _ _ 160 rfl 159 Try.underlying160 gkeyT hM1 (by unfold maxLen; omega) (1 : Pm).l (okK_pm 1) zeros13 rfl rfl rfl ?_; intro w2 hM2 hg2))
  refine (prounds_raw _).mono ?_
  rintro e w3 ⟨rfl, hb3⟩
  have HR0 := HS0.out w1 w2 w3 HBQ.out hM2 hg2 hb3
  clear hM1 hM2 hg2 hb3 HBQ HS0 hB0 hs0
  go_wp2_with (refine wpList_build rfl _ rfl 1 rfl ?_)
  generalize kupd (fun _ => none) (1 : Pm).l zeros13 = f0 at *
  generalize hw4 : w3.alloc (.cells (i8s (1 : Pm).l) 91) = w4 at *
  clear hw4
  go_loopw [6, 7] (fun so si wr => ∃ (i : Nat) (u : Value) (S : List (Pm × List Int)) (f : List Int → Option Value), so = u ∧ si = .int .i64 i ∧ Run L i S ∧ Hid (∀ k e, k < i → S[k]? = some e → e.1 ≠ to) ∧ ShR w wr (w.heap.size + 1) u S f to) (fun _ si _ => X.length - (intOf si).toNat)
  case atStart => exact ⟨0, _, _, f0, rfl, rfl, Run.start, fun k e hk => by omega, HR0.out⟩
  case round =>
    clear HR0
    obtain ⟨i, u, S, f, rfl, rfl, hRun, hNo, hR⟩ := hrel
    have hSl := hRun.len HXX.out
    have hX1 := HXL.out
    have hlt : i < S.length := by
      rcases Nat.lt_or_ge i S.length with h | h
      · exact h
      · obtain ⟨e, he, e1⟩ := List.mem_map.1 ((hRun.all h to).2 HTO.out)
        obtain ⟨j, hj, ej⟩ := List.getElem_of_mem he
        exact absurd e1 (hNo.out j e (by omega) (by rw [List.getElem?_eq_getElem hj, ej]))
    obtain ⟨e, he⟩ : ∃ e, S[i]? = some e := ⟨_, List.getElem?_eq_getElem hlt⟩
    obtain ⟨rb, rc, erv, hrc1, hrc2, hrb1, hrb2⟩ := hR.all.form (by rw [List.length_map]; omega)
    rw [List.length_map] at erv hrc1
    subst erv
    have hrange : wr.rangeAt rb (i * 12) (e.1.l.map (Value.int .i8)) := hR.all.at (by rw [List.getElem?_map, he]; rfl)
    have hbox := hR.box
    have hel := e.1.len
    have hin : (Try.prog.info? 91).map (·.size) = some (e.1.l.map (Value.int .i8)).length := by rw [List.length_map, hel]; exact Try.size91
    have hin2 : (Try.prog.info? 91).map (·.size) = some (to.l.map (Value.int .i8)).length := by rw [List.length_map, htl]; exact Try.size91
    obtain ⟨rr, hrr⟩ : ∃ rr : Bool, rr = false ↔ e.1 = to := by
      by_cases h : e.1 = to
      · exact ⟨false, by simp [h]⟩
      · exact ⟨true, by simp [h]⟩
    have hne := gpne' e.1 to rr hrr
    have HR := hide hR
    have HRUN := hide hRun
    have HE := hide he
    have HRR := hide hrr
    have hltI : (i : Int) < (S.length : Int) := by omega
    have HLT := hide hlt
    generalize hsl : S.length = sl at *
    have HSL := hide hsl
    clear hR hRun he hrr hsl
    go_wp2_with fail
    refine wp_region_held_drew (S := fun W' => W'.rangeAt rb (i * 12) (e.1.l.map (Value.int .i8)) ∧ Arr W' w.heap.size to.l) (by kernel_rfl) ⟨hrange, hbox⟩ (fun hS => ?_)
    refine wpAnyH_take (i := 0) (v := .int .i64 (i : Int)) rfl (by kernel_rfl) (by kernel_rfl) (by kernel_rfl) (fun _ _ _ h => h) (Or.inl ⟨by kernel_rfl, fun w' hS' => by clear hS'; go_simp⟩) hS ?_
    refine wpAnyH_take (i := 1) (v := .slice (some ⟨rb, 0, none⟩) sl rc) rfl (by kernel_rfl) (by kernel_rfl) (by kernel_rfl) (fun _ _ _ h => h) (Or.inl ⟨by kernel_rfl, fun w' hS' => by clear hS'; go_simp⟩) hS ?_
    refine wpAnyH_take (i := 2) (v := .int .i64 (sl : Int)) rfl (by kernel_rfl) (by kernel_rfl) (by kernel_rfl) (fun _ _ _ h => h) (Or.inl ⟨by kernel_rfl, fun w' hS' => by clear hS'; go_simp⟩) hS ?_
    refine wpAnyH_take (i := 3) (v := .bool true) rfl (by kernel_rfl) (by kernel_rfl) (by kernel_rfl) (fun _ _ _ h => h) (Or.inl ⟨by kernel_rfl, fun w' hS' => by clear hS'; go_simp⟩) hS ?_
    refine wpAnyH_take (i := 4) (v := .bool true) rfl (by kernel_rfl) (by kernel_rfl) (by kernel_rfl) (fun _ _ _ h => h) (Or.inl ⟨by kernel_rfl, fun w' hS' => by clear hS'; go_simp⟩) hS ?_
    refine wpAnyH_take (i := 5) (v := .slice (some ⟨rb, 0, none⟩) sl rc) rfl (by kernel_rfl) (by kernel_rfl) (by kernel_rfl) (fun _ _ _ h => h) (Or.inl ⟨by kernel_rfl, fun w' hS' => by clear hS'; go_simp⟩) hS ?_
    refine wpAnyH_take (i := 6) (v := .int .i64 (i : Int)) rfl (by kernel_rfl) (by kernel_rfl) (by kernel_rfl) (fun _ _ _ h => h) (Or.inl ⟨by kernel_rfl, fun w' hS' => by clear hS'; go_simp⟩) hS ?_
    refine wpAnyH_take (i := 7) (v := .pointer (some ⟨rb, i * 12, none⟩)) rfl (by kernel_rfl) (by kernel_rfl) (by kernel_rfl) (fun _ _ _ h => h) (Or.inl ⟨by kernel_rfl, fun w' hS' => by clear hS'; go_simp⟩) hS ?_
    refine wpAnyH_take (i := 8) rfl (by kernel_rfl) (by kernel_rfl) (by kernel_rfl) (fun _ _ _ h => h) (yieldsIf_load_mid (by kernel_rfl) _ _ rfl rb (i * 12) (by kernel_rfl) (e.1.l.map (Value.int .i8)) _ (fun w' h => h.1) Try.underlying91 rfl hin) hS ?_
    refine wpAnyH_take (i := 9) rfl (by kernel_rfl) (by kernel_rfl) (by kernel_rfl) (fun _ _ _ h => h) (yieldsIf_load_mid (by kernel_rfl) _ _ rfl w.heap.size (0) (by kernel_rfl) (to.l.map (Value.int .i8)) _ (fun w' h => Arr.range h.2) Try.underlying91 rfl hin2) hS ?_
    refine wpAnyH_take (i := 10) (v := .bool rr) rfl (by kernel_rfl) (by kernel_rfl) (by kernel_rfl) (fun _ _ _ h => h) (Or.inl ⟨by kernel_rfl, fun w' hS' => by clear hS'; go_simp⟩) hS ?_
    refine wpAnyH_take (i := 11) (v := .bool rr) rfl (by kernel_rfl) (by kernel_rfl) (by kernel_rfl) (fun _ _ _ h => h) (Or.inl ⟨by kernel_rfl, fun w' hS' => by clear hS'; go_simp⟩) hS ?_
    refine wpAnyH_done (by kernel_rfl) ?_ _
    cases rr with
    | false =>
      have hto : e.1 = to := HRR.out.1 rfl
      have hR1 : ShR w wr.drew (w.heap.size + 1) (.slice (some ⟨rb, 0, none⟩) sl rc) S f to := HR.out.later ((Below.refl _ _).drew)
      generalize wr.drew = wd at *
      have hbox1 := hR1.box
      have HR1 := hide hR1
      have HMEM : Hid ((to, e.2) ∈ S) := by show _ ∈ _; rw [← hto]; exact List.mem_of_getElem? HE.out
      have HSLX : Hid (S.length ≤ X.length) := by show _ ≤ _; rw [HSL.out]; exact hSl
      have HWL : Hid (e.2.length < S.length) := run_words HRUN.out e (List.mem_of_getElem? HE.out)
      have HND := hide HRUN.out.ok.nodup
      have HFST := hide HRUN.out.ok.first
      have HW2 : Hid (∀ (o : Obj) (w2 : World), (wd.alloc o).grownBy w2 (some wd.heap.size) → Hid (Below wd.heap.size wd w2)) := fun o w2 hg => ((Below.refl _ _).alloc (Nat.le_refl _) o).grown hg (by simp) (fun k h => by have := Option.some.inj h; omega)
      clear hR1 hrange hbox hS hne HR hto hin hel
      go_simp
      go_wp2_with (first
        | refine wpList_load_arr rfl _ rfl w.heap.size to.l hbox1 rfl ?_
        | (refine wpList_store_arr rfl _ _ rfl wd.heap.size zeros12 to.l (zeros_new wd) rfl rfl htl ?_; intro w2 hX2 hg2; have HB2 := HW2.out _ w2 hg2; clear hg2))
      have HR2 := hide (HR1.out.later HB2.out)
      have HX2 := hide hX2
      obtain ⟨i0, hi0, hz0, hz1, hz2⟩ := info_parts Try.info3
      clear HR1 HW2 hX2 hbox1
      go_loopw [16, 17] (fun s16 s17 wi => ∃ (vw : Value) (b : Nat) (y : Pm) (wo done : List Int), s16 = vw ∧ s17 = .pointer (some ⟨b, 0, none⟩) ∧ Hid ((y, wo) ∈ S) ∧ Hid (e.2 = wo ++ done.reverse) ∧ wi.ownsRow (w.heap.size + 1 + 1) 3 1 vw done.length (done.map (Value.int .i64)) ∧ Arr wi b y.l ∧ KMap 91 .i8 wi (w.heap.size + 1) sl f ∧ Below w.heap.size w wi) (fun s16 _ _ => e.2.length - slenV s16)
      case atStart => exact ⟨_, _, to, e.2, [], rfl, rfl, HMEM, (List.append_nil _).symm, World.ownsRow_nil _ _ _ _, HX2.out, by have := HR2.out.mp; rw [HSL.out] at this; exact this, HR2.out.below⟩
      case round =>
        have HCM := hide HR2.out.came
        clear HR2 HX2 HB2
        obtain ⟨vw, b, y, wo, done, rfl, rfl, hym, hwd, hown, hA, hmp, hB⟩ := hrel
        have hyl := y.len
        have hiny : (Try.prog.info? 91).map (·.size) = some (y.l.map (Value.int .i8)).length := by rw [List.length_map, hyl]; exact Try.size91
        obtain ⟨r2, hr2⟩ : ∃ r2 : Bool, r2 = false ↔ y = 1 := by
          by_cases h : y = 1
          · exact ⟨false, by simp [h]⟩
          · exact ⟨true, by simp [h]⟩
        have hne2 := gpne' y 1 r2 hr2
        have HR2 := hide hr2
        have HOWN := hide hown
        have hwl : done.length ≤ e.2.length := by have := congrArg List.length hwd.out; rw [List.length_append, List.length_reverse] at this; omega
        have hblt := hA.lt
        have HMPX := hide hmp
        have HBB := hide hB
        clear hr2 hown hmp hB
        go_wp2_with fail
        refine wp_region_held_drew (S := fun W' => Arr W' b y.l) (by kernel_rfl) hA (fun hS => ?_)
        refine wpAnyH_take (i := 0) rfl (by kernel_rfl) (by kernel_rfl) (by kernel_rfl) (fun _ _ _ h => h) (yieldsIf_load_mid (by kernel_rfl) _ _ rfl b 0 (by kernel_rfl) (y.l.map (Value.int .i8)) _ (fun w' h => Arr.range h) Try.underlying91 rfl hiny) hS ?_
        refine wpAnyH_ready (rs := [1]) (by kernel_rfl) (by simp) ?_
        refine AllReadyH.cons rfl (fun K hK => ?_) AllReadyH.nil
        go_simp
        refine (prounds_raw wr.drew).mono ?_
        rintro ex w4 ⟨rfl, hb4⟩
        replace hb4 := undrew hb4
        have hA4 := hA.below hb4 hblt
        refine hK.out _ _ hA4 (fun hS => ?_)
        clear hK
        refine wpAnyH_take (i := 2) (v := .bool r2) rfl (by kernel_rfl) (by kernel_rfl) (by kernel_rfl) (fun _ _ _ h => h) (Or.inl ⟨by kernel_rfl, fun w' hS' => by clear hS'; go_simp⟩) hS ?_
        refine wpAnyH_done (by kernel_rfl) ?_ _
        have hown4 := owns_below HOWN.out hb4 (Nat.le_refl _)
        have hmp4 := HMPX.out.below hb4 HMPX.out.lt
        have hB4 : Below w.heap.size w w4 := HBB.out.trans (hb4.mono HBB.out.size)
        have hm4 := HMPX.out.lt
        clear hne2 HOWN HMPX HBB hb4 hS hA
        cases r2 with
        | false =>
          have hy1 : y = 1 := HR2.out.1 rfl
          subst hy1
          have hwo : wo = [] := pair_eq HND.out hym.out HFST.out
          subst hwo
          have hrev : Hid (done.reverse = e.2) := hwd.out.symm
          have HRV := hide (revI_ok _ _ done w4 hown4 (by have := HWL.out; have := HSLX.out; omega))
          obtain ⟨dp, dc, ev⟩ := owns_slice hown4
          have HB4 := hide hB4
          subst ev
          clear hown4 hmp4 hB4 hA4
          go_simp
          go_wp2_with fail
          refine HRV.out.mono ?_
          rintro ex w5 ⟨rfl, hown5, hb5⟩
          have HO5 : Hid (w5.ownsRow w.heap.size 3 1 (.slice dp done.length dc) e.2.length (e.2.map (Value.int .i64))) := by
            show World.ownsRow _ _ _ _ _ _ _
            rw [← hrev.out, List.length_reverse]
            exact owns_base hown5 (by omega)
          have HB5 : Hid (Below w.heap.size w w5) := HB4.out.trans (hb5.mono (by omega))
          clear hown5 hb5
          go_wp2
          go_ret
          refine ⟨_, e.2, i, S, rfl, ?_, HMEM.out, HO5.out, HB5.out⟩
          rw [← HL.out]
          exact HRUN.out
        | true =>
          have hy1 : y ≠ 1 := fun h => by have := HR2.out.2 h; cases this
          obtain ⟨y', wo', lt, hm', hw', hf'⟩ := HCM.out.back (y, wo) hym.out hy1
          have hy'l := y'.len
          have hwd' : Hid (e.2 = wo' ++ (done ++ [lt]).reverse) := by
            show _ = _
            rw [hwd.out, show wo = wo' ++ [lt] from hw', List.reverse_append, List.append_assoc]
            rfl
          have hf2 : (f y.l).getD zeros13 = sv y' lt := by rw [show f y.l = some (sv y' lt) from hf']; rfl
          have HF2 := hide hf2
          have hoky := okK_pm y
          have hwl2 : done.length + 1 ≤ e.2.length := by have := congrArg List.length hwd'.out; rw [List.length_append, List.length_reverse, List.length_append] at this; simp at this; omega
          have hbnd : done.length + 1 ≤ 1000000 := by have := HWL.out; have := HSLX.out; omega
          have hz13 := zeroStep
          have HMP4 := hide hmp4
          have HB4 := hide hB4
          have hs4 := hB4.size
          have HM' := hide hm'
          have hblt4 := hA4.lt
          have hm4' := hmp4.lt
          obtain ⟨dp, dc, ev⟩ := owns_slice hown4
          rw [ev] at hown4
          have HSV : Hid (∀ o : Obj, (w4.alloc o).ownsRow (w.heap.size + 1 + 1) 3 1 (.slice dp done.length dc) done.length (done.map (Value.int .i64))) := fun o => hown4.alloc o
          have HAK : Hid (∀ (o : Obj) (w6 : World), (w4.alloc o).grownBy w6 (Value.slice dp done.length dc).ownBlock → Arr w6 b y.l ∧ Hid (KMap 91 .i8 w6 (w.heap.size + 1) sl f) ∧ Hid (Below w.heap.size w w6) ∧ w4.heap.size < w6.heap.size) := fun o w6 hg => by
            have hl := hown4.alloc o
            refine ⟨(hA4.alloc o).kept_own hl hg, ?_, ?_, by have := hg.size; simp at this; omega⟩
            · exact (HMP4.out.alloc o).of_block (hg.block _ (by simp; omega) (fun e => by have := (hl.lt _ e.symm).1; omega))
            · exact (HB4.out.alloc hs4 o).grown hg (by simp; omega) (fun k hk => by have := (hl.lt k hk).1; omega)
          subst ev
          clear hmp4 hB4 hf' hf2 hw' hm' hown4
          go_simp
          go_wp2_with (first
            | refine wpList_load_arr rfl _ rfl b y.l hA4 rfl ?_
            | refine wpList_klook1 rfl _ _ 160 rfl 159 Try.underlying160 (hz13 _) gkeyT HMP4.out y.l hoky rfl rfl HF2.out ?_
            | refine wpList_field_letter rfl _ rfl y' lt rfl ?_
            | (at_builtin; refine wpList_append_own _ rfl _ _ 23 rfl (w.heap.size + 1 + 1) 3 i0 (.int .i64 0) 1 8 Try.underlying23 hi0 hz0 hz1 hz2 rfl (by decide) _ _ _ rfl (HSV.out _) ⟨w4.heap.size, 0, none⟩ 1 1 [.int .i64 lt] rfl rfl ?c1 ?c2 ?c3 ?c4 ?c5 ?_))
          case c1 => exact cell_one_new _ _ _
          case c2 => intro u hu; simp at hu; subst hu; rfl
          case c3 => unfold maxLen; omega
          case c4 => omega
          case c5 => simp; omega
          intro v6 w6 hown6 hg6 _
          obtain ⟨hA6, HM6, HB6, hs6⟩ := HAK.out _ w6 hg6
          have HOW6 : Hid (w6.ownsRow (w.heap.size + 1 + 1) 3 1 v6 (done ++ [lt]).length ((done ++ [lt]).map (Value.int .i64))) := by
            show World.ownsRow _ _ _ _ _ _ _
            rw [List.length_append, List.map_append]
            exact hown6
          have HSL6 : Hid (slenV v6 = done.length + 1) := slot_len hown6
          have hb6lt := HB6.out.size
          have HW7 : Hid (∀ (o : Obj) (w7 : World), (w6.alloc o).grownBy w7 (some w6.heap.size) → Hid (Below w6.heap.size w6 w7) ∧ Hid (KMap 91 .i8 w7 (w.heap.size + 1) sl f)) := fun o w7 hg => by
            have hb : Below w6.heap.size w6 w7 := ((Below.refl _ _).alloc (Nat.le_refl _) o).grown hg (by simp) (fun k h => by have := Option.some.inj h; omega)
            exact ⟨hb, HM6.out.below hb HM6.out.lt⟩
          clear hown6 hg6 HAK HSV HMP4 HB4 hA4
          go_wp2_with (first
            | refine wpList_load_arr rfl _ rfl b y.l hA6 rfl ?_
            | (refine wpList_store_arr rfl _ _ rfl w6.heap.size zeros12 y.l (zeros_new w6) rfl rfl hyl ?_; intro w7 hX7 hg7; obtain ⟨HB7, HM7⟩ := HW7.out _ w7 hg7; clear hg7)
            | refine wpList_load_arr rfl _ rfl w6.heap.size y.l hX7 rfl ?_
            | refine wpList_klook1 rfl _ _ 160 rfl 159 Try.underlying160 (hz13 _) gkeyT HM7.out y.l hoky rfl rfl HF2.out ?_
            | refine wpList_field_from rfl _ rfl y' lt rfl ?_
            | (refine wpList_store_arr rfl _ _ rfl w6.heap.size y.l y'.l hX7 rfl rfl hy'l ?_; intro w8 hX8 hg8))
          have hb8 : Below w6.heap.size w6 w8 := HB7.out.grown hg8 HB7.out.size (fun k h => by have := Option.some.inj h; omega)
          have HM8 := hide (HM6.out.below hb8 HM6.out.lt)
          have HB8 : Hid (Below w.heap.size w w8) := HB6.out.trans (hb8.mono HB6.out.size)
          have HOW8 := hide (owns_below HOW6.out hb8 (Nat.le_refl _))
          have HX8 := hide hX8
          clear hX8 hg8 hb8 hX7 hA6
          go_roundw
          case rel =>
            have hfin : ∃ (vw : Value) (b : Nat) (y : Pm) (wo done : List Int), v6 = vw ∧ Value.pointer (some ⟨w6.heap.size, 0, none⟩) = .pointer (some ⟨b, 0, none⟩) ∧ Hid ((y, wo) ∈ S) ∧ Hid (e.2 = wo ++ done.reverse) ∧ w8.ownsRow (w.heap.size + 1 + 1) 3 1 vw done.length (done.map (Value.int .i64)) ∧ Arr w8 b y.l ∧ KMap 91 .i8 w8 (w.heap.size + 1) sl f ∧ Below w.heap.size w w8 := ⟨_, _, y', wo', done ++ [lt], rfl, rfl, HM', hwd', HOW8.out, HX8.out, HM8.out, HB8.out⟩
            first
              | exact hfin
              | ((repeat apply Exists.intro); exact ⟨hfin, rfl⟩)
          case measure =>
            have hms : e.2.length - slenV v6 < e.2.length - slenV (Value.slice dp done.length dc) := by rw [HSL6.out]; simp [slenV]; omega
            exact hms
    | true =>
      have hR1 : ShR w wr.drew (w.heap.size + 1) (.slice (some ⟨rb, 0, none⟩) sl rc) S f to := HR.out.later ((Below.refl _ _).drew)
      generalize wr.drew = wd at *
      have hc1 : wd.cell? ⟨g1, 1, none⟩ = some (.slice pp gs.length pcap) := (hR1.below.cell (p := ⟨g1, 1, none⟩) hg1).trans a11
      have HR1 := hide hR1
      have HNE : Hid (¬ e.1 = to) := fun h => by have := HRR.out.2 h; cases this
      clear hR1 hrange hbox hS hne HR
      go_simp
      go_wp2
      go_loopw [6, 43] (fun so sk wi => ∃ (k : Nat) (u : Value) (f : List Int → Option Value), k ≤ gs.length ∧ so = u ∧ sk = .int .i64 k ∧ ShR w wi (w.heap.size + 1) u (tryTo L e S (2 * k)) f to) (fun _ sk _ => gs.length - (intOf sk).toNat)
      case atStart => exact ⟨0, _, f, Nat.zero_le _, rfl, rfl, HR1.out⟩
      case round =>
        clear HR1 hc1
        obtain ⟨k, u2, f2, hk, rfl, rfl, hR2⟩ := hrel
        by_cases hkt : k < gs.length
        · obtain ⟨q, hq⟩ : ∃ q, gs[k]? = some q := ⟨_, List.getElem?_eq_getElem hkt⟩
          have HR2 := hide hR2
          clear hR2
          go_wp2
          go_loopw [6, 52] (fun so st wi => ∃ (t : Nat) (u : Value) (f : List Int → Option Value), t ≤ 2 ∧ so = u ∧ st = .int .i64 t ∧ ShR w wi (w.heap.size + 1) u (tryTo L e S (2 * k + t)) f to) (fun _ st _ => 2 - (intOf st).toNat)
          case atStart => exact ⟨0, _, f2, by omega, rfl, rfl, HR2.out⟩
          case round =>
            clear HR2
            obtain ⟨t, u3, f3, ht, rfl, rfl, hR3⟩ := hrel
            by_cases htt : t < 2
            · obtain rfl | rfl : t = 0 ∨ t = 1 := by omega
              · have hIX : L[2 * k]? = some (((k : Int) + 1), q) := by rw [HL.out]; have := glet_even (k := 0) hq; rwa [Nat.zero_add] at this
                obtain ⟨xx, hl⟩ : ∃ xx, L[2 * k]? = some (((k : Int) + 1), xx) := ⟨_, hIX⟩
                clear hIX
                have hxl := xx.len
                have hlett : lett gs ((k : Int) + 1) = some xx := by have := glet_lett (gs := gs) (l := (((k : Int) + 1), xx)) (by rw [← HL.out]; exact List.mem_of_getElem? hl); exact this
                have HCH := hide (change_is wr (HGk.out wr hR3.below) hgl (k := ((k : Int) + 1)) ⟨by omega, by omega⟩ hlett)
                have HTS := hide (tryTo_succ (e := e) (S := S) hl)
                have HLEN : Hid ((tryTo L e S (2 * k)).length ≤ X.length) := HRUN.out.lenTo HE.out _ HXX.out
                obtain ⟨more, hmore⟩ := tryTo_more L e S (2 * k)
                have hS3i : (tryTo L e S (2 * k))[i]? = some e := by rw [hmore, List.getElem?_append_left (List.getElem?_eq_some_iff.1 HE.out).1]; exact HE.out
                have hR3' : ShR w wr (w.heap.size + 1) u6 (tryTo L e S (2 * k)) f3 to := hR3
                clear hR3 hmore hlett hl
                generalize hS3 : tryTo L e S (2 * k) = S3 at *
                have HS3 := hide hS3
                clear hS3
                have hS3l : i < S3.length := (List.getElem?_eq_some_iff.1 hS3i).1
                obtain ⟨rb3, rc3, erv3, q1, q2, q3, q4⟩ := hR3'.all.form (by rw [List.length_map]; omega)
                rw [List.length_map] at erv3 q1
                subst erv3
                have hem : e ∈ S3 := List.mem_of_getElem? hS3i
                have hix : (i : Int) < (S3.length : Int) := by omega
                have HRG : Hid (∀ W, Below wr.heap.size wr W → Hid (ShR w W (w.heap.size + 1) (.slice (some ⟨rb3, 0, none⟩) S3.length rc3) S3 f3 to) ∧ W.rangeAt rb3 (i * 12) (e.1.l.map (Value.int .i8))) := fun W hb => by
                  have h1 := hR3'.later hb
                  exact ⟨h1, h1.all.at (by rw [List.getElem?_map, hS3i]; rfl)⟩
                have HR3 := hide hR3'
                have HI3 := hide hS3i
                have HEM := hide hem
                have HLN := hide hS3l
                generalize hsl3 : S3.length = sl3 at *
                have HSL3 := hide hsl3
                clear hR3' hS3i hem hS3l hsl3
                have hinx : (Try.prog.info? 91).map (·.size) = some (xx.l.map (Value.int .i8)).length := by rw [List.length_map, hxl]; exact Try.size91
                have hpl := (e.1 * xx).len
                have hinp : (Try.prog.info? 91).map (·.size) = some ((e.1 * xx).l.map (Value.int .i8)).length := by rw [List.length_map, hpl]; exact Try.size91
                go_wp2_with fail
                refine HCH.out.mono ?_
                rintro ex w5 ⟨rfl, hb5⟩
                have HW6 : Hid (∀ (o : Obj) (w6 : World), (w5.alloc o).grownBy w6 (some w5.heap.size) → Hid (Below wr.heap.size wr w6)) := fun o w6 hg6 => by
                  have hs5 := hb5.size
                  exact (hb5.alloc hb5.size o).grown hg6 (by simp; omega) (fun k h => by have := Option.some.inj h; omega)
                clear HCH
                go_wp2_with (refine wpList_store_arr rfl _ _ rfl w5.heap.size zeros12 xx.l (zeros_new w5) rfl rfl hxl ?_; intro w6 hX6 hg6; have HB6 := HW6.out _ w6 hg6; clear hg6)
                obtain ⟨HR6, hrg6⟩ := HRG.out w6 HB6.out
                refine wp_region_held_drew (S := fun W' => Arr W' w5.heap.size xx.l ∧ W'.rangeAt rb3 (i * 12) (e.1.l.map (Value.int .i8))) (by kernel_rfl) ⟨hX6, hrg6⟩ (fun hS => ?_)
                refine wpAnyH_take (i := 0) (v := .slice (some ⟨rb3, 0, none⟩) sl3 rc3) rfl (by kernel_rfl) (by kernel_rfl) (by kernel_rfl) (fun _ _ _ h => h) (Or.inl ⟨by kernel_rfl, fun w' hS' => by clear hS'; go_simp⟩) hS ?_
                refine wpAnyH_take (i := 1) (v := .int .i64 (i : Int)) rfl (by kernel_rfl) (by kernel_rfl) (by kernel_rfl) (fun _ _ _ h => h) (Or.inl ⟨by kernel_rfl, fun w' hS' => by clear hS'; go_simp⟩) hS ?_
                refine wpAnyH_take (i := 2) (v := .pointer (some ⟨rb3, i * 12, none⟩)) rfl (by kernel_rfl) (by kernel_rfl) (by kernel_rfl) (fun _ _ _ h => h) (Or.inl ⟨by kernel_rfl, fun w' hS' => by clear hS'; go_simp⟩) hS ?_
                refine wpAnyH_take (i := 3) rfl (by kernel_rfl) (by kernel_rfl) (by kernel_rfl) (fun _ _ _ h => h) (yieldsIf_load_mid (by kernel_rfl) _ _ rfl (rb3) (i * 12) (by kernel_rfl) ((e.1).l.map (Value.int .i8)) _ (fun w' h => h.2) Try.underlying91 rfl hin) hS ?_
                refine wpAnyH_take (i := 4) rfl (by kernel_rfl) (by kernel_rfl) (by kernel_rfl) (fun _ _ _ h => h) (yieldsIf_load_mid (by kernel_rfl) _ _ rfl (w5.heap.size) (0) (by kernel_rfl) ((xx).l.map (Value.int .i8)) _ (fun w' h => Arr.range h.1) Try.underlying91 rfl hinx) hS ?_
                refine wpAnyH_ready (rs := [5, 6]) (by kernel_rfl) (by simp) ?_
                refine AllReadyH.cons rfl (fun K hK => ?_) (AllReadyH.cons rfl (fun K hK => ?_) AllReadyH.nil)
                · go_simp
                  refine (ptimes_raw e.1 xx w6.drew).mono ?_
                  rintro ex w7 ⟨rfl, hb7⟩
                  replace hb7 := undrew hb7
                  have hB7 : Below wr.heap.size wr w7 := HB6.out.trans (hb7.mono HB6.out.size)
                  have hX7 : Arr w7 w5.heap.size xx.l := hX6.below hb7 hX6.lt
                  refine hK.out _ _ ⟨hX7, (HRG.out w7 hB7).2⟩ (fun hS => ?_)
                  clear hK
                  generalize hprod : e.1 * xx = px at *
                  have HPX := hide hprod
                  clear hprod
                  refine wpAnyH_ready (rs := [6]) (by kernel_rfl) (by simp) ?_
                  refine AllReadyH.cons rfl (fun K hK => ?_) AllReadyH.nil
                  go_simp
                  have hB8 : Below wr.heap.size wr (w7.alloc (.cells #[.int .i8 0, .int .i8 0, .int .i8 0, .int .i8 0, .int .i8 0, .int .i8 0, .int .i8 0, .int .i8 0, .int .i8 0, .int .i8 0, .int .i8 0, .int .i8 0] 91)) := hB7.alloc hB7.size _
                  refine hK.out _ _ ⟨hX7.alloc _, (HRG.out _ hB8).2⟩ (fun hS => ?_)
                  clear hK
                  refine wpAnyH_ready (rs := [7]) (by kernel_rfl) (by simp) ?_
                  refine AllReadyH.cons rfl (fun K hK => ?_) AllReadyH.nil
                  refine step_store_arr rfl _ _ rfl w7.heap.size zeros12 px.l (zeros_new w7) (by kernel_rfl) (by kernel_rfl) hpl ?_
                  intro w9 hP9 hg9
                  have hs7 := hB7.size
                  have hB9 : Below wr.heap.size wr w9 := hB8.grown hg9 hB8.size (fun k h => by have := Option.some.inj h; omega)
                  refine hK.out _ _ ⟨(hX7.alloc _).kept hg9 (fun h => by have := Option.some.inj h; have := hX7.lt; omega), (HRG.out _ hB9).2⟩ (fun hS => ?_)
                  clear hK
                  have h13 : wr.heap.size ≤ w7.heap.size := hs7
                  clear hX6 hrg6 HR6 HB6 hb7 hB7 hX7 hB8 hg9 hs7
                  refine wpAnyH_done (by kernel_rfl) ?_ _
                  obtain ⟨HR9, hrg9⟩ := HRG.out w9 hB9
                  have HB9 := hide hB9
                  clear hS
                  go_simp
                  have hst : Stp ((f3 px.l).getD zeros13) := by
                    cases hfx : f3 px.l with
                    | none => exact Stp.zero
                    | some u => exact HR9.out.form _ _ hfx
                  have hcm := HR9.out.came.some px
                  obtain ⟨u0, hu0⟩ : ∃ u0, (f3 px.l).getD zeros13 = u0 := ⟨_, rfl⟩
                  rw [hu0] at hst
                  have HU0 := hide hu0
                  have HST := hide hst
                  clear hst hu0
                  have hok := okK_pm px
                  have hz13 := zeroStep w9
                  have HNW : Hid ((w9.alloc (.cells #[.int .i8 0, .int .i8 0, .int .i8 0, .int .i8 0, .int .i8 0, .int .i8 0, .int .i8 0, .int .i8 0, .int .i8 0, .int .i8 0, .int .i8 0, .int .i8 0, .int .i64 0] 159)).heap[w9.heap.size]? = some (.cells #[.int .i8 0, .int .i8 0, .int .i8 0, .int .i8 0, .int .i8 0, .int .i8 0, .int .i8 0, .int .i8 0, .int .i8 0, .int .i8 0, .int .i8 0, .int .i8 0, .int .i64 0] 159)) := heap_alloc_new _ _
                  have HW10 : Hid (∀ (o : Obj) (w10 : World), (w9.alloc o).grownBy w10 (some w9.heap.size) → Hid (Below w9.heap.size w9 w10)) := fun o w10 hg => ((Below.refl _ _).alloc (Nat.le_refl _) o).grown hg (by simp) (fun k h => by have := Option.some.inj h; omega)
                  by_cases hmem : px ∈ S3.map (·.1)
                  · have HT : Hid ((f3 px.l).isSome = true) := hcm.2 hmem
                    have hsame : tryL e S3 (((k : Int) + 1), xx) = S3 := tryL_old (by show e.1 * xx ∈ _; rw [HPX.out]; exact hmem)
                    have HNX : Hid (tryTo L e S (2 * k + 1) = S3) := by show _ = _; rw [HTS.out]; exact hsame
                    clear hcm hmem hsame
                    go_wp2_with (first
                      | refine wpList_load_arr rfl _ rfl w7.heap.size px.l hP9 rfl ?_
                      | refine wpList_klook2 rfl _ _ 160 rfl 159 Try.underlying160 hz13 gkeyT HR9.out.mp px.l hok rfl rfl HU0.out HT.out ?_
                      | (refine wpList_store_step rfl _ _ rfl w9.heap.size _ u0 HNW.out rfl HST.out rfl rfl ?_; intro w10 hg10; have HB10 := HW10.out _ w10 hg10; clear hg10))
                    have HR10 := hide (HR9.out.later HB10.out)
                    go_roundw
                    case rel =>
                      have hfin : ∃ (t : Nat) (u : Value) (f : List Int → Option Value), t ≤ 2 ∧ Value.slice (some ⟨rb3, 0, none⟩) sl3 rc3 = u ∧ Value.int .i64 (1) = .int .i64 (t : Int) ∧ ShR w w10 (w.heap.size + 1) u (tryTo L e S (2 * k + t)) f to := ⟨1, _, f3, by omega, rfl, by go_num, by rw [show 2 * k + 1 = 2 * k + 1 by omega, HNX.out]; exact HR10.out⟩
                      first
                        | exact hfin
                        | ((repeat apply Exists.intro); exact ⟨hfin, rfl⟩)
                    case measure => simp [intOf]
                  · have HT : Hid ((f3 px.l).isSome = false) := by show _ = _; cases hb : (f3 px.l).isSome with | false => rfl | true => exact absurd (hcm.1 hb) hmem
                    have hnew : tryL e S3 (((k : Int) + 1), xx) = S3 ++ [(e.1 * xx, e.2 ++ [((k : Int) + 1)])] := tryL_new (by show ¬ e.1 * xx ∈ _; rw [HPX.out]; exact hmem)
                    have HNX : Hid (tryTo L e S (2 * k + 1) = S3 ++ [(e.1 * xx, e.2 ++ [((k : Int) + 1)])]) := by show _ = _; rw [HTS.out]; exact hnew
                    have HNM : Hid (¬ px ∈ S3.map (·.1)) := hmem
                    have HLEN2 : Hid ((tryTo L e S (2 * k + 1)).length ≤ X.length) := HRUN.out.lenTo HE.out _ HXX.out
                    clear hcm hmem hnew
                    go_wp2_with (first
                      | refine wpList_load_arr rfl _ rfl w7.heap.size px.l hP9 rfl ?_
                      | refine wpList_klook2 rfl _ _ 160 rfl 159 Try.underlying160 hz13 gkeyT HR9.out.mp px.l hok rfl rfl HU0.out HT.out ?_
                      | (refine wpList_store_step rfl _ _ rfl w9.heap.size _ u0 HNW.out rfl HST.out rfl rfl ?_; intro w10 hg10; have HB10 := HW10.out _ w10 hg10; clear hg10))
                    have hb9' : Below wr.heap.size wr w10 := HB9.out.trans (HB10.out.mono HB9.out.size)
                    obtain ⟨HR10, hrg10⟩ := HRG.out w10 hb9'
                    have hP10 : Arr w10 w7.heap.size px.l := hP9.below HB10.out hP9.lt
                    have hmp : KMap 91 .i8 w10.drew (w.heap.size + 1) sl3 f3 := by have := HR10.out.mp; rw [HSL3.out] at this; exact this.of_block rfl
                    have hlt10 := hP10.lt
                    obtain ⟨w11, hrun, hM11, hg11⟩ := hmp.put gkeyT Try.underlying160 (by unfold maxLen; have := HLEN.out; omega) hok (sv e.1 ((k : Int) + 1))
                    unfold kv at hrun
                    refine wp_region_held_drew (S := fun W' => Arr W' w7.heap.size px.l ∧ W'.rangeAt rb3 (i * 12) (e.1.l.map (Value.int .i8))) (by kernel_rfl) ⟨hP10, hrg10⟩ (fun hS => ?_)
                    refine wpAnyH_take (i := 0) (v := .map (some (w.heap.size + 1))) rfl (by kernel_rfl) (by kernel_rfl) (by kernel_rfl) (fun _ _ _ h => h) (Or.inl ⟨by kernel_rfl, fun w' hS' => by clear hS'; go_simp⟩) hS ?_
                    refine wpAnyH_take (i := 1) rfl (by kernel_rfl) (by kernel_rfl) (by kernel_rfl) (fun _ _ _ h => h) (yieldsIf_load_mid (by kernel_rfl) _ _ rfl (w7.heap.size) (0) (by kernel_rfl) ((px).l.map (Value.int .i8)) _ (fun w' h => Arr.range h.1) Try.underlying91 rfl hinp) hS ?_
                    refine wpAnyH_take (i := 2) (v := .slice (some ⟨rb3, 0, none⟩) sl3 rc3) rfl (by kernel_rfl) (by kernel_rfl) (by kernel_rfl) (fun _ _ _ h => h) (Or.inl ⟨by kernel_rfl, fun w' hS' => by clear hS'; go_simp⟩) hS ?_
                    refine wpAnyH_take (i := 3) (v := .int .i64 (i : Int)) rfl (by kernel_rfl) (by kernel_rfl) (by kernel_rfl) (fun _ _ _ h => h) (Or.inl ⟨by kernel_rfl, fun w' hS' => by clear hS'; go_simp⟩) hS ?_
                    refine wpAnyH_take (i := 4) (v := .pointer (some ⟨rb3, i * 12, none⟩)) rfl (by kernel_rfl) (by kernel_rfl) (by kernel_rfl) (fun _ _ _ h => h) (Or.inl ⟨by kernel_rfl, fun w' hS' => by clear hS'; go_simp⟩) hS ?_
                    refine wpAnyH_take (i := 5) rfl (by kernel_rfl) (by kernel_rfl) (by kernel_rfl) (fun _ _ _ h => h) (yieldsIf_load_mid (by kernel_rfl) _ _ rfl (rb3) (i * 12) (by kernel_rfl) ((e.1).l.map (Value.int .i8)) _ (fun w' h => h.2) Try.underlying91 rfl hin) hS ?_
                    refine wpAnyH_take (i := 6) (v := .int .i64 ((k : Int) + 1)) rfl (by kernel_rfl) (by kernel_rfl) (by kernel_rfl) (fun _ _ _ h => h) (Or.inl ⟨by kernel_rfl, fun w' hS' => by clear hS'; go_simp⟩) hS ?_
                    refine wpAnyH_take (i := 7) rfl (by kernel_rfl) (by kernel_rfl) (by kernel_rfl) (fun _ _ _ h => h) (yieldsIf_step_build (by kernel_rfl) _ _ rfl e.1 ((k : Int) + 1) (by kernel_rfl) (by kernel_rfl)) hS ?_
                    refine wpAnyH_ready (rs := [8]) (by kernel_rfl) (by simp) ?_
                    refine AllReadyH.cons rfl (fun K hK => ?_) AllReadyH.nil
                    go_simp
                    replace hg11 : w10.grownBy w11 (some (w.heap.size + 1)) := ⟨hg11.os, hg11.tape, hg11.output, hg11.size, hg11.block⟩
                    have hP11 : Arr w11 w7.heap.size px.l := hP10.kept hg11 (fun h => by have := Option.some.inj h; have := HR3.out.mp.lt; omega)
                    have hrg11 : w11.rangeAt rb3 (i * 12) (e.1.l.map (Value.int .i8)) := fun j v hv => by
                      have h1 := hrg10 j v hv
                      rw [← h1]
                      exact World.cell?_of_block (hg11.block rb3 (by have := hb9'.size; omega) (fun h => by have := Option.some.inj h; have := (HR10.out.rows.lt rb3 rfl).1; omega))
                    refine hK.out _ _ ⟨hP11, hrg11⟩ (fun hS => ?_)
                    clear hK
                    refine wpAnyH_done (by kernel_rfl) ?_ _
                    obtain ⟨r1, r2, r3⟩ := HR10.out.put hg11
                    rw [HSL3.out] at r1
                    obtain ⟨j0, hj0, jz0, jz1, jz2⟩ := info_parts Try.info91
                    have HPL : Hid ((px.l.map (Value.int .i8)).length = 1 * 12) := by show _ = _; rw [List.length_map, Pm.len]
                    have HO1 : Hid (∀ u ∈ px.l.map (Value.int .i8), u.oneCell' = true) := i8_one _
                    have HM1 : Hid (sl3 + 1 ≤ maxLen) := by have := HLEN.out; show sl3 + 1 ≤ maxLen; unfold maxLen; omega
                    have HY1 : Hid ((sl3 + 1) * 12 ≤ 140737488355328) := by have := HLEN.out; show (sl3 + 1) * 12 ≤ _; omega
                    have HS1 : Hid (w.heap.size + 1 + 1 ≤ (w11.alloc (.cells (i8s px.l) 91)).heap.size) := by have := hM11.lt; show _ ≤ _; simp; omega
                    have HNW2 : Hid (∀ j u, (px.l.map (Value.int .i8))[j]? = some u → (w11.alloc (.cells (i8s px.l) 91)).cell? ((⟨w11.heap.size, 0, none⟩ : Addr).add j) = some u) := fun j u hu => by
                      rw [Addr.add_mid]; exact (Arr.new w11 px.l (Pm.len _)).range j u hu
                    have HR1 := hide (r1.alloc (.cells (i8s px.l) 91))
                    have HM11 := hide hM11
                    have HG11 := hide hg11
                    clear r1 r2 r3 hM11 hg11 hrg11 hrg10 hP10 hmp hS hb9'
                    go_simp
                    go_wp2_with (first
                      | refine wpList_load_arr rfl _ rfl w7.heap.size px.l hP11 rfl ?_
                      | refine wpList_build rfl _ rfl px rfl ?_
                      | (refine wpList_append_keep (w11.alloc (.cells (i8s px.l) 91)) rfl _ _ 88 rfl (w.heap.size + 1 + 1) 91 j0 (.agg (i8s zeros12)) 12 12 Try.underlying88 hj0 jz0 jz1 jz2 rfl (by decide) _ sl3 _ rfl HR1.out ⟨w11.heap.size, 0, none⟩ 1 1 (px.l.map (Value.int .i8)) rfl HPL.out HNW2.out HO1.out HM1.out HY1.out HS1.out ?_; intro v12 w12 hown12 hg12 hloc12))
                    have hR12 : ShR w w12 (w.heap.size + 1) v12 (tryTo L e S (2 * k + 1)) (kupd f3 px.l (sv e.1 ((k : Int) + 1))) to := by
                      have hh := HPX.out
                      subst hh
                      rw [HNX.out]
                      have hm := HM11.out
                      rw [← HSL3.out] at hm hown12
                      exact HR10.out.push (l := (((k : Int) + 1), xx)) HEM.out HNM.out hm HG11.out (Below.refl _ _) hown12 hg12
                    have HR12 := hide hR12
                    clear hR12 hown12 hg12 hloc12
                    go_wp2
                    go_roundw
                    case rel =>
                      have hfin : ∃ (t : Nat) (u : Value) (f : List Int → Option Value), t ≤ 2 ∧ v12 = u ∧ Value.int .i64 (1) = .int .i64 (t : Int) ∧ ShR w w12 (w.heap.size + 1) u (tryTo L e S (2 * k + t)) f to := ⟨1, _, _, by omega, rfl, by go_num, by rw [show 2 * k + 1 = 2 * k + 1 by omega]; exact HR12.out⟩
                      first
                        | exact hfin
                        | ((repeat apply Exists.intro); exact ⟨hfin, rfl⟩)
                    case measure => simp [intOf]
                · go_simp
                  have hB8 : Below wr.heap.size wr (w6.alloc (.cells #[.int .i8 0, .int .i8 0, .int .i8 0, .int .i8 0, .int .i8 0, .int .i8 0, .int .i8 0, .int .i8 0, .int .i8 0, .int .i8 0, .int .i8 0, .int .i8 0] 91)) := HB6.out.alloc HB6.out.size _
                  have hY8 : Arr (w6.alloc (.cells #[.int .i8 0, .int .i8 0, .int .i8 0, .int .i8 0, .int .i8 0, .int .i8 0, .int .i8 0, .int .i8 0, .int .i8 0, .int .i8 0, .int .i8 0, .int .i8 0] 91)) w6.heap.size zeros12 := zeros_new w6
                  refine hK.out _ _ ⟨hX6.alloc _, (HRG.out _ hB8).2⟩ (fun hS => ?_)
                  clear hK
                  refine wpAnyH_ready (rs := [5]) (by kernel_rfl) (by simp) ?_
                  refine AllReadyH.cons rfl (fun K hK => ?_) AllReadyH.nil
                  go_simp
                  refine (ptimes_raw e.1 xx _).mono ?_
                  rintro ex w7 ⟨rfl, hb7⟩
                  have hb7' : Below (w6.alloc (.cells #[.int .i8 0, .int .i8 0, .int .i8 0, .int .i8 0, .int .i8 0, .int .i8 0, .int .i8 0, .int .i8 0, .int .i8 0, .int .i8 0, .int .i8 0, .int .i8 0] 91)).heap.size (w6.alloc (.cells #[.int .i8 0, .int .i8 0, .int .i8 0, .int .i8 0, .int .i8 0, .int .i8 0, .int .i8 0, .int .i8 0, .int .i8 0, .int .i8 0, .int .i8 0, .int .i8 0] 91)) w7 := ⟨hb7.os, hb7.tape, hb7.output, hb7.size, hb7.block⟩
                  have hX7 : Arr w7 w5.heap.size xx.l := (hX6.alloc _).below hb7' (by have := hX6.lt; simp; omega)
                  have hY7 : Arr w7 w6.heap.size zeros12 := hY8.below hb7' (by simp)
                  have hB7 : Below wr.heap.size wr w7 := hB8.trans (hb7'.mono hB8.size)
                  refine hK.out _ _ ⟨hX7, (HRG.out w7 hB7).2⟩ (fun hS => ?_)
                  clear hK
                  generalize hprod : e.1 * xx = px at *
                  have HPX := hide hprod
                  clear hprod
                  refine wpAnyH_ready (rs := [7]) (by kernel_rfl) (by simp) ?_
                  refine AllReadyH.cons rfl (fun K hK => ?_) AllReadyH.nil
                  refine step_store_arr rfl _ _ rfl w6.heap.size zeros12 px.l hY7 (by kernel_rfl) (by kernel_rfl) hpl ?_
                  intro w9 hP9 hg9
                  have hs6 := HB6.out.size
                  have hB9 : Below wr.heap.size wr w9 := hB7.grown hg9 hB7.size (fun k h => by have := Option.some.inj h; omega)
                  refine hK.out _ _ ⟨hX7.kept hg9 (fun h => by have := Option.some.inj h; have := hX6.lt; omega), (HRG.out _ hB9).2⟩ (fun hS => ?_)
                  clear hK
                  have h13 : wr.heap.size ≤ w6.heap.size := hs6
                  clear hX6 hrg6 HR6 HB6 hb7 hb7' hB7 hX7 hB8 hY7 hY8 hg9 hs6
                  refine wpAnyH_done (by kernel_rfl) ?_ _
                  obtain ⟨HR9, hrg9⟩ := HRG.out w9 hB9
                  have HB9 := hide hB9
                  clear hS
                  go_simp
                  have hst : Stp ((f3 px.l).getD zeros13) := by
                    cases hfx : f3 px.l with
                    | none => exact Stp.zero
                    | some u => exact HR9.out.form _ _ hfx
                  have hcm := HR9.out.came.some px
                  obtain ⟨u0, hu0⟩ : ∃ u0, (f3 px.l).getD zeros13 = u0 := ⟨_, rfl⟩
                  rw [hu0] at hst
                  have HU0 := hide hu0
                  have HST := hide hst
                  clear hst hu0
                  have hok := okK_pm px
                  have hz13 := zeroStep w9
                  have HNW : Hid ((w9.alloc (.cells #[.int .i8 0, .int .i8 0, .int .i8 0, .int .i8 0, .int .i8 0, .int .i8 0, .int .i8 0, .int .i8 0, .int .i8 0, .int .i8 0, .int .i8 0, .int .i8 0, .int .i64 0] 159)).heap[w9.heap.size]? = some (.cells #[.int .i8 0, .int .i8 0, .int .i8 0, .int .i8 0, .int .i8 0, .int .i8 0, .int .i8 0, .int .i8 0, .int .i8 0, .int .i8 0, .int .i8 0, .int .i8 0, .int .i64 0] 159)) := heap_alloc_new _ _
                  have HW10 : Hid (∀ (o : Obj) (w10 : World), (w9.alloc o).grownBy w10 (some w9.heap.size) → Hid (Below w9.heap.size w9 w10)) := fun o w10 hg => ((Below.refl _ _).alloc (Nat.le_refl _) o).grown hg (by simp) (fun k h => by have := Option.some.inj h; omega)
                  by_cases hmem : px ∈ S3.map (·.1)
                  · have HT : Hid ((f3 px.l).isSome = true) := hcm.2 hmem
                    have hsame : tryL e S3 (((k : Int) + 1), xx) = S3 := tryL_old (by show e.1 * xx ∈ _; rw [HPX.out]; exact hmem)
                    have HNX : Hid (tryTo L e S (2 * k + 1) = S3) := by show _ = _; rw [HTS.out]; exact hsame
                    clear hcm hmem hsame
                    go_wp2_with (first
                      | refine wpList_load_arr rfl _ rfl w6.heap.size px.l hP9 rfl ?_
                      | refine wpList_klook2 rfl _ _ 160 rfl 159 Try.underlying160 hz13 gkeyT HR9.out.mp px.l hok rfl rfl HU0.out HT.out ?_
                      | (refine wpList_store_step rfl _ _ rfl w9.heap.size _ u0 HNW.out rfl HST.out rfl rfl ?_; intro w10 hg10; have HB10 := HW10.out _ w10 hg10; clear hg10))
                    have HR10 := hide (HR9.out.later HB10.out)
                    go_roundw
                    case rel =>
                      have hfin : ∃ (t : Nat) (u : Value) (f : List Int → Option Value), t ≤ 2 ∧ Value.slice (some ⟨rb3, 0, none⟩) sl3 rc3 = u ∧ Value.int .i64 (1) = .int .i64 (t : Int) ∧ ShR w w10 (w.heap.size + 1) u (tryTo L e S (2 * k + t)) f to := ⟨1, _, f3, by omega, rfl, by go_num, by rw [show 2 * k + 1 = 2 * k + 1 by omega, HNX.out]; exact HR10.out⟩
                      first
                        | exact hfin
                        | ((repeat apply Exists.intro); exact ⟨hfin, rfl⟩)
                    case measure => simp [intOf]
                  · have HT : Hid ((f3 px.l).isSome = false) := by show _ = _; cases hb : (f3 px.l).isSome with | false => rfl | true => exact absurd (hcm.1 hb) hmem
                    have hnew : tryL e S3 (((k : Int) + 1), xx) = S3 ++ [(e.1 * xx, e.2 ++ [((k : Int) + 1)])] := tryL_new (by show ¬ e.1 * xx ∈ _; rw [HPX.out]; exact hmem)
                    have HNX : Hid (tryTo L e S (2 * k + 1) = S3 ++ [(e.1 * xx, e.2 ++ [((k : Int) + 1)])]) := by show _ = _; rw [HTS.out]; exact hnew
                    have HNM : Hid (¬ px ∈ S3.map (·.1)) := hmem
                    have HLEN2 : Hid ((tryTo L e S (2 * k + 1)).length ≤ X.length) := HRUN.out.lenTo HE.out _ HXX.out
                    clear hcm hmem hnew
                    go_wp2_with (first
                      | refine wpList_load_arr rfl _ rfl w6.heap.size px.l hP9 rfl ?_
                      | refine wpList_klook2 rfl _ _ 160 rfl 159 Try.underlying160 hz13 gkeyT HR9.out.mp px.l hok rfl rfl HU0.out HT.out ?_
                      | (refine wpList_store_step rfl _ _ rfl w9.heap.size _ u0 HNW.out rfl HST.out rfl rfl ?_; intro w10 hg10; have HB10 := HW10.out _ w10 hg10; clear hg10))
                    have hb9' : Below wr.heap.size wr w10 := HB9.out.trans (HB10.out.mono HB9.out.size)
                    obtain ⟨HR10, hrg10⟩ := HRG.out w10 hb9'
                    have hP10 : Arr w10 w6.heap.size px.l := hP9.below HB10.out hP9.lt
                    have hmp : KMap 91 .i8 w10.drew (w.heap.size + 1) sl3 f3 := by have := HR10.out.mp; rw [HSL3.out] at this; exact this.of_block rfl
                    have hlt10 := hP10.lt
                    obtain ⟨w11, hrun, hM11, hg11⟩ := hmp.put gkeyT Try.underlying160 (by unfold maxLen; have := HLEN.out; omega) hok (sv e.1 ((k : Int) + 1))
                    unfold kv at hrun
                    refine wp_region_held_drew (S := fun W' => Arr W' w6.heap.size px.l ∧ W'.rangeAt rb3 (i * 12) (e.1.l.map (Value.int .i8))) (by kernel_rfl) ⟨hP10, hrg10⟩ (fun hS => ?_)
                    refine wpAnyH_take (i := 0) (v := .map (some (w.heap.size + 1))) rfl (by kernel_rfl) (by kernel_rfl) (by kernel_rfl) (fun _ _ _ h => h) (Or.inl ⟨by kernel_rfl, fun w' hS' => by clear hS'; go_simp⟩) hS ?_
                    refine wpAnyH_take (i := 1) rfl (by kernel_rfl) (by kernel_rfl) (by kernel_rfl) (fun _ _ _ h => h) (yieldsIf_load_mid (by kernel_rfl) _ _ rfl (w6.heap.size) (0) (by kernel_rfl) ((px).l.map (Value.int .i8)) _ (fun w' h => Arr.range h.1) Try.underlying91 rfl hinp) hS ?_
                    refine wpAnyH_take (i := 2) (v := .slice (some ⟨rb3, 0, none⟩) sl3 rc3) rfl (by kernel_rfl) (by kernel_rfl) (by kernel_rfl) (fun _ _ _ h => h) (Or.inl ⟨by kernel_rfl, fun w' hS' => by clear hS'; go_simp⟩) hS ?_
                    refine wpAnyH_take (i := 3) (v := .int .i64 (i : Int)) rfl (by kernel_rfl) (by kernel_rfl) (by kernel_rfl) (fun _ _ _ h => h) (Or.inl ⟨by kernel_rfl, fun w' hS' => by clear hS'; go_simp⟩) hS ?_
                    refine wpAnyH_take (i := 4) (v := .pointer (some ⟨rb3, i * 12, none⟩)) rfl (by kernel_rfl) (by kernel_rfl) (by kernel_rfl) (fun _ _ _ h => h) (Or.inl ⟨by kernel_rfl, fun w' hS' => by clear hS'; go_simp⟩) hS ?_
                    refine wpAnyH_take (i := 5) rfl (by kernel_rfl) (by kernel_rfl) (by kernel_rfl) (fun _ _ _ h => h) (yieldsIf_load_mid (by kernel_rfl) _ _ rfl (rb3) (i * 12) (by kernel_rfl) ((e.1).l.map (Value.int .i8)) _ (fun w' h => h.2) Try.underlying91 rfl hin) hS ?_
                    refine wpAnyH_take (i := 6) (v := .int .i64 ((k : Int) + 1)) rfl (by kernel_rfl) (by kernel_rfl) (by kernel_rfl) (fun _ _ _ h => h) (Or.inl ⟨by kernel_rfl, fun w' hS' => by clear hS'; go_simp⟩) hS ?_
                    refine wpAnyH_take (i := 7) rfl (by kernel_rfl) (by kernel_rfl) (by kernel_rfl) (fun _ _ _ h => h) (yieldsIf_step_build (by kernel_rfl) _ _ rfl e.1 ((k : Int) + 1) (by kernel_rfl) (by kernel_rfl)) hS ?_
                    refine wpAnyH_ready (rs := [8]) (by kernel_rfl) (by simp) ?_
                    refine AllReadyH.cons rfl (fun K hK => ?_) AllReadyH.nil
                    go_simp
                    replace hg11 : w10.grownBy w11 (some (w.heap.size + 1)) := ⟨hg11.os, hg11.tape, hg11.output, hg11.size, hg11.block⟩
                    have hP11 : Arr w11 w6.heap.size px.l := hP10.kept hg11 (fun h => by have := Option.some.inj h; have := HR3.out.mp.lt; omega)
                    have hrg11 : w11.rangeAt rb3 (i * 12) (e.1.l.map (Value.int .i8)) := fun j v hv => by
                      have h1 := hrg10 j v hv
                      rw [← h1]
                      exact World.cell?_of_block (hg11.block rb3 (by have := hb9'.size; omega) (fun h => by have := Option.some.inj h; have := (HR10.out.rows.lt rb3 rfl).1; omega))
                    refine hK.out _ _ ⟨hP11, hrg11⟩ (fun hS => ?_)
                    clear hK
                    refine wpAnyH_done (by kernel_rfl) ?_ _
                    obtain ⟨r1, r2, r3⟩ := HR10.out.put hg11
                    rw [HSL3.out] at r1
                    obtain ⟨j0, hj0, jz0, jz1, jz2⟩ := info_parts Try.info91
                    have HPL : Hid ((px.l.map (Value.int .i8)).length = 1 * 12) := by show _ = _; rw [List.length_map, Pm.len]
                    have HO1 : Hid (∀ u ∈ px.l.map (Value.int .i8), u.oneCell' = true) := i8_one _
                    have HM1 : Hid (sl3 + 1 ≤ maxLen) := by have := HLEN.out; show sl3 + 1 ≤ maxLen; unfold maxLen; omega
                    have HY1 : Hid ((sl3 + 1) * 12 ≤ 140737488355328) := by have := HLEN.out; show (sl3 + 1) * 12 ≤ _; omega
                    have HS1 : Hid (w.heap.size + 1 + 1 ≤ (w11.alloc (.cells (i8s px.l) 91)).heap.size) := by have := hM11.lt; show _ ≤ _; simp; omega
                    have HNW2 : Hid (∀ j u, (px.l.map (Value.int .i8))[j]? = some u → (w11.alloc (.cells (i8s px.l) 91)).cell? ((⟨w11.heap.size, 0, none⟩ : Addr).add j) = some u) := fun j u hu => by
                      rw [Addr.add_mid]; exact (Arr.new w11 px.l (Pm.len _)).range j u hu
                    have HR1 := hide (r1.alloc (.cells (i8s px.l) 91))
                    have HM11 := hide hM11
                    have HG11 := hide hg11
                    clear r1 r2 r3 hM11 hg11 hrg11 hrg10 hP10 hmp hS hb9'
                    go_simp
                    go_wp2_with (first
                      | refine wpList_load_arr rfl _ rfl w6.heap.size px.l hP11 rfl ?_
                      | refine wpList_build rfl _ rfl px rfl ?_
                      | (refine wpList_append_keep (w11.alloc (.cells (i8s px.l) 91)) rfl _ _ 88 rfl (w.heap.size + 1 + 1) 91 j0 (.agg (i8s zeros12)) 12 12 Try.underlying88 hj0 jz0 jz1 jz2 rfl (by decide) _ sl3 _ rfl HR1.out ⟨w11.heap.size, 0, none⟩ 1 1 (px.l.map (Value.int .i8)) rfl HPL.out HNW2.out HO1.out HM1.out HY1.out HS1.out ?_; intro v12 w12 hown12 hg12 hloc12))
                    have hR12 : ShR w w12 (w.heap.size + 1) v12 (tryTo L e S (2 * k + 1)) (kupd f3 px.l (sv e.1 ((k : Int) + 1))) to := by
                      have hh := HPX.out
                      subst hh
                      rw [HNX.out]
                      have hm := HM11.out
                      rw [← HSL3.out] at hm hown12
                      exact HR10.out.push (l := (((k : Int) + 1), xx)) HEM.out HNM.out hm HG11.out (Below.refl _ _) hown12 hg12
                    have HR12 := hide hR12
                    clear hR12 hown12 hg12 hloc12
                    go_wp2
                    go_roundw
                    case rel =>
                      have hfin : ∃ (t : Nat) (u : Value) (f : List Int → Option Value), t ≤ 2 ∧ v12 = u ∧ Value.int .i64 (1) = .int .i64 (t : Int) ∧ ShR w w12 (w.heap.size + 1) u (tryTo L e S (2 * k + t)) f to := ⟨1, _, _, by omega, rfl, by go_num, by rw [show 2 * k + 1 = 2 * k + 1 by omega]; exact HR12.out⟩
                      first
                        | exact hfin
                        | ((repeat apply Exists.intro); exact ⟨hfin, rfl⟩)
                    case measure => simp [intOf]
              · have hIX : L[2 * k + 1]? = some ((-(k : Int) - 1), q⁻¹) := by rw [HL.out]; have := glet_odd (k := 0) hq; rwa [Nat.zero_add] at this
                obtain ⟨xx, hl⟩ : ∃ xx, L[2 * k + 1]? = some ((-(k : Int) - 1), xx) := ⟨_, hIX⟩
                clear hIX
                have hxl := xx.len
                have hlett : lett gs (-(k : Int) - 1) = some xx := by have := glet_lett (gs := gs) (l := ((-(k : Int) - 1), xx)) (by rw [← HL.out]; exact List.mem_of_getElem? hl); exact this
                have HCH := hide (change_is wr (HGk.out wr hR3.below) hgl (k := (-(k : Int) - 1)) ⟨by omega, by omega⟩ hlett)
                have HTS := hide (tryTo_succ (e := e) (S := S) hl)
                have HLEN : Hid ((tryTo L e S (2 * k + 1)).length ≤ X.length) := HRUN.out.lenTo HE.out _ HXX.out
                obtain ⟨more, hmore⟩ := tryTo_more L e S (2 * k + 1)
                have hS3i : (tryTo L e S (2 * k + 1))[i]? = some e := by rw [hmore, List.getElem?_append_left (List.getElem?_eq_some_iff.1 HE.out).1]; exact HE.out
                have hR3' : ShR w wr (w.heap.size + 1) u6 (tryTo L e S (2 * k + 1)) f3 to := hR3
                clear hR3 hmore hlett hl
                generalize hS3 : tryTo L e S (2 * k + 1) = S3 at *
                have HS3 := hide hS3
                clear hS3
                have hS3l : i < S3.length := (List.getElem?_eq_some_iff.1 hS3i).1
                obtain ⟨rb3, rc3, erv3, q1, q2, q3, q4⟩ := hR3'.all.form (by rw [List.length_map]; omega)
                rw [List.length_map] at erv3 q1
                subst erv3
                have hem : e ∈ S3 := List.mem_of_getElem? hS3i
                have hix : (i : Int) < (S3.length : Int) := by omega
                have HRG : Hid (∀ W, Below wr.heap.size wr W → Hid (ShR w W (w.heap.size + 1) (.slice (some ⟨rb3, 0, none⟩) S3.length rc3) S3 f3 to) ∧ W.rangeAt rb3 (i * 12) (e.1.l.map (Value.int .i8))) := fun W hb => by
                  have h1 := hR3'.later hb
                  exact ⟨h1, h1.all.at (by rw [List.getElem?_map, hS3i]; rfl)⟩
                have HR3 := hide hR3'
                have HI3 := hide hS3i
                have HEM := hide hem
                have HLN := hide hS3l
                generalize hsl3 : S3.length = sl3 at *
                have HSL3 := hide hsl3
                clear hR3' hS3i hem hS3l hsl3
                have hinx : (Try.prog.info? 91).map (·.size) = some (xx.l.map (Value.int .i8)).length := by rw [List.length_map, hxl]; exact Try.size91
                have hpl := (e.1 * xx).len
                have hinp : (Try.prog.info? 91).map (·.size) = some ((e.1 * xx).l.map (Value.int .i8)).length := by rw [List.length_map, hpl]; exact Try.size91
                go_wp2_with fail
                refine HCH.out.mono ?_
                rintro ex w5 ⟨rfl, hb5⟩
                have HW6 : Hid (∀ (o : Obj) (w6 : World), (w5.alloc o).grownBy w6 (some w5.heap.size) → Hid (Below wr.heap.size wr w6)) := fun o w6 hg6 => by
                  have hs5 := hb5.size
                  exact (hb5.alloc hb5.size o).grown hg6 (by simp; omega) (fun k h => by have := Option.some.inj h; omega)
                clear HCH
                go_wp2_with (refine wpList_store_arr rfl _ _ rfl w5.heap.size zeros12 xx.l (zeros_new w5) rfl rfl hxl ?_; intro w6 hX6 hg6; have HB6 := HW6.out _ w6 hg6; clear hg6)
                obtain ⟨HR6, hrg6⟩ := HRG.out w6 HB6.out
                refine wp_region_held_drew (S := fun W' => Arr W' w5.heap.size xx.l ∧ W'.rangeAt rb3 (i * 12) (e.1.l.map (Value.int .i8))) (by kernel_rfl) ⟨hX6, hrg6⟩ (fun hS => ?_)
                refine wpAnyH_take (i := 0) (v := .slice (some ⟨rb3, 0, none⟩) sl3 rc3) rfl (by kernel_rfl) (by kernel_rfl) (by kernel_rfl) (fun _ _ _ h => h) (Or.inl ⟨by kernel_rfl, fun w' hS' => by clear hS'; go_simp⟩) hS ?_
                refine wpAnyH_take (i := 1) (v := .int .i64 (i : Int)) rfl (by kernel_rfl) (by kernel_rfl) (by kernel_rfl) (fun _ _ _ h => h) (Or.inl ⟨by kernel_rfl, fun w' hS' => by clear hS'; go_simp⟩) hS ?_
                refine wpAnyH_take (i := 2) (v := .pointer (some ⟨rb3, i * 12, none⟩)) rfl (by kernel_rfl) (by kernel_rfl) (by kernel_rfl) (fun _ _ _ h => h) (Or.inl ⟨by kernel_rfl, fun w' hS' => by clear hS'; go_simp⟩) hS ?_
                refine wpAnyH_take (i := 3) rfl (by kernel_rfl) (by kernel_rfl) (by kernel_rfl) (fun _ _ _ h => h) (yieldsIf_load_mid (by kernel_rfl) _ _ rfl (rb3) (i * 12) (by kernel_rfl) ((e.1).l.map (Value.int .i8)) _ (fun w' h => h.2) Try.underlying91 rfl hin) hS ?_
                refine wpAnyH_take (i := 4) rfl (by kernel_rfl) (by kernel_rfl) (by kernel_rfl) (fun _ _ _ h => h) (yieldsIf_load_mid (by kernel_rfl) _ _ rfl (w5.heap.size) (0) (by kernel_rfl) ((xx).l.map (Value.int .i8)) _ (fun w' h => Arr.range h.1) Try.underlying91 rfl hinx) hS ?_
                refine wpAnyH_ready (rs := [5, 6]) (by kernel_rfl) (by simp) ?_
                refine AllReadyH.cons rfl (fun K hK => ?_) (AllReadyH.cons rfl (fun K hK => ?_) AllReadyH.nil)
                · go_simp
                  refine (ptimes_raw e.1 xx w6.drew).mono ?_
                  rintro ex w7 ⟨rfl, hb7⟩
                  replace hb7 := undrew hb7
                  have hB7 : Below wr.heap.size wr w7 := HB6.out.trans (hb7.mono HB6.out.size)
                  have hX7 : Arr w7 w5.heap.size xx.l := hX6.below hb7 hX6.lt
                  refine hK.out _ _ ⟨hX7, (HRG.out w7 hB7).2⟩ (fun hS => ?_)
                  clear hK
                  generalize hprod : e.1 * xx = px at *
                  have HPX := hide hprod
                  clear hprod
                  refine wpAnyH_ready (rs := [6]) (by kernel_rfl) (by simp) ?_
                  refine AllReadyH.cons rfl (fun K hK => ?_) AllReadyH.nil
                  go_simp
                  have hB8 : Below wr.heap.size wr (w7.alloc (.cells #[.int .i8 0, .int .i8 0, .int .i8 0, .int .i8 0, .int .i8 0, .int .i8 0, .int .i8 0, .int .i8 0, .int .i8 0, .int .i8 0, .int .i8 0, .int .i8 0] 91)) := hB7.alloc hB7.size _
                  refine hK.out _ _ ⟨hX7.alloc _, (HRG.out _ hB8).2⟩ (fun hS => ?_)
                  clear hK
                  refine wpAnyH_ready (rs := [7]) (by kernel_rfl) (by simp) ?_
                  refine AllReadyH.cons rfl (fun K hK => ?_) AllReadyH.nil
                  refine step_store_arr rfl _ _ rfl w7.heap.size zeros12 px.l (zeros_new w7) (by kernel_rfl) (by kernel_rfl) hpl ?_
                  intro w9 hP9 hg9
                  have hs7 := hB7.size
                  have hB9 : Below wr.heap.size wr w9 := hB8.grown hg9 hB8.size (fun k h => by have := Option.some.inj h; omega)
                  refine hK.out _ _ ⟨(hX7.alloc _).kept hg9 (fun h => by have := Option.some.inj h; have := hX7.lt; omega), (HRG.out _ hB9).2⟩ (fun hS => ?_)
                  clear hK
                  have h13 : wr.heap.size ≤ w7.heap.size := hs7
                  clear hX6 hrg6 HR6 HB6 hb7 hB7 hX7 hB8 hg9 hs7
                  refine wpAnyH_done (by kernel_rfl) ?_ _
                  obtain ⟨HR9, hrg9⟩ := HRG.out w9 hB9
                  have HB9 := hide hB9
                  clear hS
                  go_simp
                  have hst : Stp ((f3 px.l).getD zeros13) := by
                    cases hfx : f3 px.l with
                    | none => exact Stp.zero
                    | some u => exact HR9.out.form _ _ hfx
                  have hcm := HR9.out.came.some px
                  obtain ⟨u0, hu0⟩ : ∃ u0, (f3 px.l).getD zeros13 = u0 := ⟨_, rfl⟩
                  rw [hu0] at hst
                  have HU0 := hide hu0
                  have HST := hide hst
                  clear hst hu0
                  have hok := okK_pm px
                  have hz13 := zeroStep w9
                  have HNW : Hid ((w9.alloc (.cells #[.int .i8 0, .int .i8 0, .int .i8 0, .int .i8 0, .int .i8 0, .int .i8 0, .int .i8 0, .int .i8 0, .int .i8 0, .int .i8 0, .int .i8 0, .int .i8 0, .int .i64 0] 159)).heap[w9.heap.size]? = some (.cells #[.int .i8 0, .int .i8 0, .int .i8 0, .int .i8 0, .int .i8 0, .int .i8 0, .int .i8 0, .int .i8 0, .int .i8 0, .int .i8 0, .int .i8 0, .int .i8 0, .int .i64 0] 159)) := heap_alloc_new _ _
                  have HW10 : Hid (∀ (o : Obj) (w10 : World), (w9.alloc o).grownBy w10 (some w9.heap.size) → Hid (Below w9.heap.size w9 w10)) := fun o w10 hg => ((Below.refl _ _).alloc (Nat.le_refl _) o).grown hg (by simp) (fun k h => by have := Option.some.inj h; omega)
                  by_cases hmem : px ∈ S3.map (·.1)
                  · have HT : Hid ((f3 px.l).isSome = true) := hcm.2 hmem
                    have hsame : tryL e S3 ((-(k : Int) - 1), xx) = S3 := tryL_old (by show e.1 * xx ∈ _; rw [HPX.out]; exact hmem)
                    have HNX : Hid (tryTo L e S (2 * k + 1 + 1) = S3) := by show _ = _; rw [HTS.out]; exact hsame
                    clear hcm hmem hsame
                    go_wp2_with (first
                      | refine wpList_load_arr rfl _ rfl w7.heap.size px.l hP9 rfl ?_
                      | refine wpList_klook2 rfl _ _ 160 rfl 159 Try.underlying160 hz13 gkeyT HR9.out.mp px.l hok rfl rfl HU0.out HT.out ?_
                      | (refine wpList_store_step rfl _ _ rfl w9.heap.size _ u0 HNW.out rfl HST.out rfl rfl ?_; intro w10 hg10; have HB10 := HW10.out _ w10 hg10; clear hg10))
                    have HR10 := hide (HR9.out.later HB10.out)
                    go_roundw
                    case rel =>
                      have hfin : ∃ (t : Nat) (u : Value) (f : List Int → Option Value), t ≤ 2 ∧ Value.slice (some ⟨rb3, 0, none⟩) sl3 rc3 = u ∧ Value.int .i64 (2) = .int .i64 (t : Int) ∧ ShR w w10 (w.heap.size + 1) u (tryTo L e S (2 * k + t)) f to := ⟨2, _, f3, by omega, rfl, by go_num, by rw [show 2 * k + 2 = 2 * k + 1 + 1 by omega, HNX.out]; exact HR10.out⟩
                      first
                        | exact hfin
                        | ((repeat apply Exists.intro); exact ⟨hfin, rfl⟩)
                    case measure => simp [intOf]
                  · have HT : Hid ((f3 px.l).isSome = false) := by show _ = _; cases hb : (f3 px.l).isSome with | false => rfl | true => exact absurd (hcm.1 hb) hmem
                    have hnew : tryL e S3 ((-(k : Int) - 1), xx) = S3 ++ [(e.1 * xx, e.2 ++ [(-(k : Int) - 1)])] := tryL_new (by show ¬ e.1 * xx ∈ _; rw [HPX.out]; exact hmem)
                    have HNX : Hid (tryTo L e S (2 * k + 1 + 1) = S3 ++ [(e.1 * xx, e.2 ++ [(-(k : Int) - 1)])]) := by show _ = _; rw [HTS.out]; exact hnew
                    have HNM : Hid (¬ px ∈ S3.map (·.1)) := hmem
                    have HLEN2 : Hid ((tryTo L e S (2 * k + 1 + 1)).length ≤ X.length) := HRUN.out.lenTo HE.out _ HXX.out
                    clear hcm hmem hnew
                    go_wp2_with (first
                      | refine wpList_load_arr rfl _ rfl w7.heap.size px.l hP9 rfl ?_
                      | refine wpList_klook2 rfl _ _ 160 rfl 159 Try.underlying160 hz13 gkeyT HR9.out.mp px.l hok rfl rfl HU0.out HT.out ?_
                      | (refine wpList_store_step rfl _ _ rfl w9.heap.size _ u0 HNW.out rfl HST.out rfl rfl ?_; intro w10 hg10; have HB10 := HW10.out _ w10 hg10; clear hg10))
                    have hb9' : Below wr.heap.size wr w10 := HB9.out.trans (HB10.out.mono HB9.out.size)
                    obtain ⟨HR10, hrg10⟩ := HRG.out w10 hb9'
                    have hP10 : Arr w10 w7.heap.size px.l := hP9.below HB10.out hP9.lt
                    have hmp : KMap 91 .i8 w10.drew (w.heap.size + 1) sl3 f3 := by have := HR10.out.mp; rw [HSL3.out] at this; exact this.of_block rfl
                    have hlt10 := hP10.lt
                    obtain ⟨w11, hrun, hM11, hg11⟩ := hmp.put gkeyT Try.underlying160 (by unfold maxLen; have := HLEN.out; omega) hok (sv e.1 (-(k : Int) - 1))
                    unfold kv at hrun
                    refine wp_region_held_drew (S := fun W' => Arr W' w7.heap.size px.l ∧ W'.rangeAt rb3 (i * 12) (e.1.l.map (Value.int .i8))) (by kernel_rfl) ⟨hP10, hrg10⟩ (fun hS => ?_)
                    refine wpAnyH_take (i := 0) (v := .map (some (w.heap.size + 1))) rfl (by kernel_rfl) (by kernel_rfl) (by kernel_rfl) (fun _ _ _ h => h) (Or.inl ⟨by kernel_rfl, fun w' hS' => by clear hS'; go_simp⟩) hS ?_
                    refine wpAnyH_take (i := 1) rfl (by kernel_rfl) (by kernel_rfl) (by kernel_rfl) (fun _ _ _ h => h) (yieldsIf_load_mid (by kernel_rfl) _ _ rfl (w7.heap.size) (0) (by kernel_rfl) ((px).l.map (Value.int .i8)) _ (fun w' h => Arr.range h.1) Try.underlying91 rfl hinp) hS ?_
                    refine wpAnyH_take (i := 2) (v := .slice (some ⟨rb3, 0, none⟩) sl3 rc3) rfl (by kernel_rfl) (by kernel_rfl) (by kernel_rfl) (fun _ _ _ h => h) (Or.inl ⟨by kernel_rfl, fun w' hS' => by clear hS'; go_simp⟩) hS ?_
                    refine wpAnyH_take (i := 3) (v := .int .i64 (i : Int)) rfl (by kernel_rfl) (by kernel_rfl) (by kernel_rfl) (fun _ _ _ h => h) (Or.inl ⟨by kernel_rfl, fun w' hS' => by clear hS'; go_simp⟩) hS ?_
                    refine wpAnyH_take (i := 4) (v := .pointer (some ⟨rb3, i * 12, none⟩)) rfl (by kernel_rfl) (by kernel_rfl) (by kernel_rfl) (fun _ _ _ h => h) (Or.inl ⟨by kernel_rfl, fun w' hS' => by clear hS'; go_simp⟩) hS ?_
                    refine wpAnyH_take (i := 5) rfl (by kernel_rfl) (by kernel_rfl) (by kernel_rfl) (fun _ _ _ h => h) (yieldsIf_load_mid (by kernel_rfl) _ _ rfl (rb3) (i * 12) (by kernel_rfl) ((e.1).l.map (Value.int .i8)) _ (fun w' h => h.2) Try.underlying91 rfl hin) hS ?_
                    refine wpAnyH_take (i := 6) (v := .int .i64 (-(k : Int) - 1)) rfl (by kernel_rfl) (by kernel_rfl) (by kernel_rfl) (fun _ _ _ h => h) (Or.inl ⟨by kernel_rfl, fun w' hS' => by clear hS'; go_simp⟩) hS ?_
                    refine wpAnyH_take (i := 7) rfl (by kernel_rfl) (by kernel_rfl) (by kernel_rfl) (fun _ _ _ h => h) (yieldsIf_step_build (by kernel_rfl) _ _ rfl e.1 (-(k : Int) - 1) (by kernel_rfl) (by kernel_rfl)) hS ?_
                    refine wpAnyH_ready (rs := [8]) (by kernel_rfl) (by simp) ?_
                    refine AllReadyH.cons rfl (fun K hK => ?_) AllReadyH.nil
                    go_simp
                    replace hg11 : w10.grownBy w11 (some (w.heap.size + 1)) := ⟨hg11.os, hg11.tape, hg11.output, hg11.size, hg11.block⟩
                    have hP11 : Arr w11 w7.heap.size px.l := hP10.kept hg11 (fun h => by have := Option.some.inj h; have := HR3.out.mp.lt; omega)
                    have hrg11 : w11.rangeAt rb3 (i * 12) (e.1.l.map (Value.int .i8)) := fun j v hv => by
                      have h1 := hrg10 j v hv
                      rw [← h1]
                      exact World.cell?_of_block (hg11.block rb3 (by have := hb9'.size; omega) (fun h => by have := Option.some.inj h; have := (HR10.out.rows.lt rb3 rfl).1; omega))
                    refine hK.out _ _ ⟨hP11, hrg11⟩ (fun hS => ?_)
                    clear hK
                    refine wpAnyH_done (by kernel_rfl) ?_ _
                    obtain ⟨r1, r2, r3⟩ := HR10.out.put hg11
                    rw [HSL3.out] at r1
                    obtain ⟨j0, hj0, jz0, jz1, jz2⟩ := info_parts Try.info91
                    have HPL : Hid ((px.l.map (Value.int .i8)).length = 1 * 12) := by show _ = _; rw [List.length_map, Pm.len]
                    have HO1 : Hid (∀ u ∈ px.l.map (Value.int .i8), u.oneCell' = true) := i8_one _
                    have HM1 : Hid (sl3 + 1 ≤ maxLen) := by have := HLEN.out; show sl3 + 1 ≤ maxLen; unfold maxLen; omega
                    have HY1 : Hid ((sl3 + 1) * 12 ≤ 140737488355328) := by have := HLEN.out; show (sl3 + 1) * 12 ≤ _; omega
                    have HS1 : Hid (w.heap.size + 1 + 1 ≤ (w11.alloc (.cells (i8s px.l) 91)).heap.size) := by have := hM11.lt; show _ ≤ _; simp; omega
                    have HNW2 : Hid (∀ j u, (px.l.map (Value.int .i8))[j]? = some u → (w11.alloc (.cells (i8s px.l) 91)).cell? ((⟨w11.heap.size, 0, none⟩ : Addr).add j) = some u) := fun j u hu => by
                      rw [Addr.add_mid]; exact (Arr.new w11 px.l (Pm.len _)).range j u hu
                    have HR1 := hide (r1.alloc (.cells (i8s px.l) 91))
                    have HM11 := hide hM11
                    have HG11 := hide hg11
                    clear r1 r2 r3 hM11 hg11 hrg11 hrg10 hP10 hmp hS hb9'
                    go_simp
                    go_wp2_with (first
                      | refine wpList_load_arr rfl _ rfl w7.heap.size px.l hP11 rfl ?_
                      | refine wpList_build rfl _ rfl px rfl ?_
                      | (refine wpList_append_keep (w11.alloc (.cells (i8s px.l) 91)) rfl _ _ 88 rfl (w.heap.size + 1 + 1) 91 j0 (.agg (i8s zeros12)) 12 12 Try.underlying88 hj0 jz0 jz1 jz2 rfl (by decide) _ sl3 _ rfl HR1.out ⟨w11.heap.size, 0, none⟩ 1 1 (px.l.map (Value.int .i8)) rfl HPL.out HNW2.out HO1.out HM1.out HY1.out HS1.out ?_; intro v12 w12 hown12 hg12 hloc12))
                    have hR12 : ShR w w12 (w.heap.size + 1) v12 (tryTo L e S (2 * k + 1 + 1)) (kupd f3 px.l (sv e.1 (-(k : Int) - 1))) to := by
                      have hh := HPX.out
                      subst hh
                      rw [HNX.out]
                      have hm := HM11.out
                      rw [← HSL3.out] at hm hown12
                      exact HR10.out.push (l := ((-(k : Int) - 1), xx)) HEM.out HNM.out hm HG11.out (Below.refl _ _) hown12 hg12
                    have HR12 := hide hR12
                    clear hR12 hown12 hg12 hloc12
                    go_wp2
                    go_roundw
                    case rel =>
                      have hfin : ∃ (t : Nat) (u : Value) (f : List Int → Option Value), t ≤ 2 ∧ v12 = u ∧ Value.int .i64 (2) = .int .i64 (t : Int) ∧ ShR w w12 (w.heap.size + 1) u (tryTo L e S (2 * k + t)) f to := ⟨2, _, _, by omega, rfl, by go_num, by rw [show 2 * k + 2 = 2 * k + 1 + 1 by omega]; exact HR12.out⟩
                      first
                        | exact hfin
                        | ((repeat apply Exists.intro); exact ⟨hfin, rfl⟩)
                    case measure => simp [intOf]
                · go_simp
                  have hB8 : Below wr.heap.size wr (w6.alloc (.cells #[.int .i8 0, .int .i8 0, .int .i8 0, .int .i8 0, .int .i8 0, .int .i8 0, .int .i8 0, .int .i8 0, .int .i8 0, .int .i8 0, .int .i8 0, .int .i8 0] 91)) := HB6.out.alloc HB6.out.size _
                  have hY8 : Arr (w6.alloc (.cells #[.int .i8 0, .int .i8 0, .int .i8 0, .int .i8 0, .int .i8 0, .int .i8 0, .int .i8 0, .int .i8 0, .int .i8 0, .int .i8 0, .int .i8 0, .int .i8 0] 91)) w6.heap.size zeros12 := zeros_new w6
                  refine hK.out _ _ ⟨hX6.alloc _, (HRG.out _ hB8).2⟩ (fun hS => ?_)
                  clear hK
                  refine wpAnyH_ready (rs := [5]) (by kernel_rfl) (by simp) ?_
                  refine AllReadyH.cons rfl (fun K hK => ?_) AllReadyH.nil
                  go_simp
                  refine (ptimes_raw e.1 xx _).mono ?_
                  rintro ex w7 ⟨rfl, hb7⟩
                  have hb7' : Below (w6.alloc (.cells #[.int .i8 0, .int .i8 0, .int .i8 0, .int .i8 0, .int .i8 0, .int .i8 0, .int .i8 0, .int .i8 0, .int .i8 0, .int .i8 0, .int .i8 0, .int .i8 0] 91)).heap.size (w6.alloc (.cells #[.int .i8 0, .int .i8 0, .int .i8 0, .int .i8 0, .int .i8 0, .int .i8 0, .int .i8 0, .int .i8 0, .int .i8 0, .int .i8 0, .int .i8 0, .int .i8 0] 91)) w7 := ⟨hb7.os, hb7.tape, hb7.output, hb7.size, hb7.block⟩
                  have hX7 : Arr w7 w5.heap.size xx.l := (hX6.alloc _).below hb7' (by have := hX6.lt; simp; omega)
                  have hY7 : Arr w7 w6.heap.size zeros12 := hY8.below hb7' (by simp)
                  have hB7 : Below wr.heap.size wr w7 := hB8.trans (hb7'.mono hB8.size)
                  refine hK.out _ _ ⟨hX7, (HRG.out w7 hB7).2⟩ (fun hS => ?_)
                  clear hK
                  generalize hprod : e.1 * xx = px at *
                  have HPX := hide hprod
                  clear hprod
                  refine wpAnyH_ready (rs := [7]) (by kernel_rfl) (by simp) ?_
                  refine AllReadyH.cons rfl (fun K hK => ?_) AllReadyH.nil
                  refine step_store_arr rfl _ _ rfl w6.heap.size zeros12 px.l hY7 (by kernel_rfl) (by kernel_rfl) hpl ?_
                  intro w9 hP9 hg9
                  have hs6 := HB6.out.size
                  have hB9 : Below wr.heap.size wr w9 := hB7.grown hg9 hB7.size (fun k h => by have := Option.some.inj h; omega)
                  refine hK.out _ _ ⟨hX7.kept hg9 (fun h => by have := Option.some.inj h; have := hX6.lt; omega), (HRG.out _ hB9).2⟩ (fun hS => ?_)
                  clear hK
                  have h13 : wr.heap.size ≤ w6.heap.size := hs6
                  clear hX6 hrg6 HR6 HB6 hb7 hb7' hB7 hX7 hB8 hY7 hY8 hg9 hs6
                  refine wpAnyH_done (by kernel_rfl) ?_ _
                  obtain ⟨HR9, hrg9⟩ := HRG.out w9 hB9
                  have HB9 := hide hB9
                  clear hS
                  go_simp
                  have hst : Stp ((f3 px.l).getD zeros13) := by
                    cases hfx : f3 px.l with
                    | none => exact Stp.zero
                    | some u => exact HR9.out.form _ _ hfx
                  have hcm := HR9.out.came.some px
                  obtain ⟨u0, hu0⟩ : ∃ u0, (f3 px.l).getD zeros13 = u0 := ⟨_, rfl⟩
                  rw [hu0] at hst
                  have HU0 := hide hu0
                  have HST := hide hst
                  clear hst hu0
                  have hok := okK_pm px
                  have hz13 := zeroStep w9
                  have HNW : Hid ((w9.alloc (.cells #[.int .i8 0, .int .i8 0, .int .i8 0, .int .i8 0, .int .i8 0, .int .i8 0, .int .i8 0, .int .i8 0, .int .i8 0, .int .i8 0, .int .i8 0, .int .i8 0, .int .i64 0] 159)).heap[w9.heap.size]? = some (.cells #[.int .i8 0, .int .i8 0, .int .i8 0, .int .i8 0, .int .i8 0, .int .i8 0, .int .i8 0, .int .i8 0, .int .i8 0, .int .i8 0, .int .i8 0, .int .i8 0, .int .i64 0] 159)) := heap_alloc_new _ _
                  have HW10 : Hid (∀ (o : Obj) (w10 : World), (w9.alloc o).grownBy w10 (some w9.heap.size) → Hid (Below w9.heap.size w9 w10)) := fun o w10 hg => ((Below.refl _ _).alloc (Nat.le_refl _) o).grown hg (by simp) (fun k h => by have := Option.some.inj h; omega)
                  by_cases hmem : px ∈ S3.map (·.1)
                  · have HT : Hid ((f3 px.l).isSome = true) := hcm.2 hmem
                    have hsame : tryL e S3 ((-(k : Int) - 1), xx) = S3 := tryL_old (by show e.1 * xx ∈ _; rw [HPX.out]; exact hmem)
                    have HNX : Hid (tryTo L e S (2 * k + 1 + 1) = S3) := by show _ = _; rw [HTS.out]; exact hsame
                    clear hcm hmem hsame
                    go_wp2_with (first
                      | refine wpList_load_arr rfl _ rfl w6.heap.size px.l hP9 rfl ?_
                      | refine wpList_klook2 rfl _ _ 160 rfl 159 Try.underlying160 hz13 gkeyT HR9.out.mp px.l hok rfl rfl HU0.out HT.out ?_
                      | (refine wpList_store_step rfl _ _ rfl w9.heap.size _ u0 HNW.out rfl HST.out rfl rfl ?_; intro w10 hg10; have HB10 := HW10.out _ w10 hg10; clear hg10))
                    have HR10 := hide (HR9.out.later HB10.out)
                    go_roundw
                    case rel =>
                      have hfin : ∃ (t : Nat) (u : Value) (f : List Int → Option Value), t ≤ 2 ∧ Value.slice (some ⟨rb3, 0, none⟩) sl3 rc3 = u ∧ Value.int .i64 (2) = .int .i64 (t : Int) ∧ ShR w w10 (w.heap.size + 1) u (tryTo L e S (2 * k + t)) f to := ⟨2, _, f3, by omega, rfl, by go_num, by rw [show 2 * k + 2 = 2 * k + 1 + 1 by omega, HNX.out]; exact HR10.out⟩
                      first
                        | exact hfin
                        | ((repeat apply Exists.intro); exact ⟨hfin, rfl⟩)
                    case measure => simp [intOf]
                  · have HT : Hid ((f3 px.l).isSome = false) := by show _ = _; cases hb : (f3 px.l).isSome with | false => rfl | true => exact absurd (hcm.1 hb) hmem
                    have hnew : tryL e S3 ((-(k : Int) - 1), xx) = S3 ++ [(e.1 * xx, e.2 ++ [(-(k : Int) - 1)])] := tryL_new (by show ¬ e.1 * xx ∈ _; rw [HPX.out]; exact hmem)
                    have HNX : Hid (tryTo L e S (2 * k + 1 + 1) = S3 ++ [(e.1 * xx, e.2 ++ [(-(k : Int) - 1)])]) := by show _ = _; rw [HTS.out]; exact hnew
                    have HNM : Hid (¬ px ∈ S3.map (·.1)) := hmem
                    have HLEN2 : Hid ((tryTo L e S (2 * k + 1 + 1)).length ≤ X.length) := HRUN.out.lenTo HE.out _ HXX.out
                    clear hcm hmem hnew
                    go_wp2_with (first
                      | refine wpList_load_arr rfl _ rfl w6.heap.size px.l hP9 rfl ?_
                      | refine wpList_klook2 rfl _ _ 160 rfl 159 Try.underlying160 hz13 gkeyT HR9.out.mp px.l hok rfl rfl HU0.out HT.out ?_
                      | (refine wpList_store_step rfl _ _ rfl w9.heap.size _ u0 HNW.out rfl HST.out rfl rfl ?_; intro w10 hg10; have HB10 := HW10.out _ w10 hg10; clear hg10))
                    have hb9' : Below wr.heap.size wr w10 := HB9.out.trans (HB10.out.mono HB9.out.size)
                    obtain ⟨HR10, hrg10⟩ := HRG.out w10 hb9'
                    have hP10 : Arr w10 w6.heap.size px.l := hP9.below HB10.out hP9.lt
                    have hmp : KMap 91 .i8 w10.drew (w.heap.size + 1) sl3 f3 := by have := HR10.out.mp; rw [HSL3.out] at this; exact this.of_block rfl
                    have hlt10 := hP10.lt
                    obtain ⟨w11, hrun, hM11, hg11⟩ := hmp.put gkeyT Try.underlying160 (by unfold maxLen; have := HLEN.out; omega) hok (sv e.1 (-(k : Int) - 1))
                    unfold kv at hrun
                    refine wp_region_held_drew (S := fun W' => Arr W' w6.heap.size px.l ∧ W'.rangeAt rb3 (i * 12) (e.1.l.map (Value.int .i8))) (by kernel_rfl) ⟨hP10, hrg10⟩ (fun hS => ?_)
                    refine wpAnyH_take (i := 0) (v := .map (some (w.heap.size + 1))) rfl (by kernel_rfl) (by kernel_rfl) (by kernel_rfl) (fun _ _ _ h => h) (Or.inl ⟨by kernel_rfl, fun w' hS' => by clear hS'; go_simp⟩) hS ?_
                    refine wpAnyH_take (i := 1) rfl (by kernel_rfl) (by kernel_rfl) (by kernel_rfl) (fun _ _ _ h => h) (yieldsIf_load_mid (by kernel_rfl) _ _ rfl (w6.heap.size) (0) (by kernel_rfl) ((px).l.map (Value.int .i8)) _ (fun w' h => Arr.range h.1) Try.underlying91 rfl hinp) hS ?_
                    refine wpAnyH_take (i := 2) (v := .slice (some ⟨rb3, 0, none⟩) sl3 rc3) rfl (by kernel_rfl) (by kernel_rfl) (by kernel_rfl) (fun _ _ _ h => h) (Or.inl ⟨by kernel_rfl, fun w' hS' => by clear hS'; go_simp⟩) hS ?_
                    refine wpAnyH_take (i := 3) (v := .int .i64 (i : Int)) rfl (by kernel_rfl) (by kernel_rfl) (by kernel_rfl) (fun _ _ _ h => h) (Or.inl ⟨by kernel_rfl, fun w' hS' => by clear hS'; go_simp⟩) hS ?_
                    refine wpAnyH_take (i := 4) (v := .pointer (some ⟨rb3, i * 12, none⟩)) rfl (by kernel_rfl) (by kernel_rfl) (by kernel_rfl) (fun _ _ _ h => h) (Or.inl ⟨by kernel_rfl, fun w' hS' => by clear hS'; go_simp⟩) hS ?_
                    refine wpAnyH_take (i := 5) rfl (by kernel_rfl) (by kernel_rfl) (by kernel_rfl) (fun _ _ _ h => h) (yieldsIf_load_mid (by kernel_rfl) _ _ rfl (rb3) (i * 12) (by kernel_rfl) ((e.1).l.map (Value.int .i8)) _ (fun w' h => h.2) Try.underlying91 rfl hin) hS ?_
                    refine wpAnyH_take (i := 6) (v := .int .i64 (-(k : Int) - 1)) rfl (by kernel_rfl) (by kernel_rfl) (by kernel_rfl) (fun _ _ _ h => h) (Or.inl ⟨by kernel_rfl, fun w' hS' => by clear hS'; go_simp⟩) hS ?_
                    refine wpAnyH_take (i := 7) rfl (by kernel_rfl) (by kernel_rfl) (by kernel_rfl) (fun _ _ _ h => h) (yieldsIf_step_build (by kernel_rfl) _ _ rfl e.1 (-(k : Int) - 1) (by kernel_rfl) (by kernel_rfl)) hS ?_
                    refine wpAnyH_ready (rs := [8]) (by kernel_rfl) (by simp) ?_
                    refine AllReadyH.cons rfl (fun K hK => ?_) AllReadyH.nil
                    go_simp
                    replace hg11 : w10.grownBy w11 (some (w.heap.size + 1)) := ⟨hg11.os, hg11.tape, hg11.output, hg11.size, hg11.block⟩
                    have hP11 : Arr w11 w6.heap.size px.l := hP10.kept hg11 (fun h => by have := Option.some.inj h; have := HR3.out.mp.lt; omega)
                    have hrg11 : w11.rangeAt rb3 (i * 12) (e.1.l.map (Value.int .i8)) := fun j v hv => by
                      have h1 := hrg10 j v hv
                      rw [← h1]
                      exact World.cell?_of_block (hg11.block rb3 (by have := hb9'.size; omega) (fun h => by have := Option.some.inj h; have := (HR10.out.rows.lt rb3 rfl).1; omega))
                    refine hK.out _ _ ⟨hP11, hrg11⟩ (fun hS => ?_)
                    clear hK
                    refine wpAnyH_done (by kernel_rfl) ?_ _
                    obtain ⟨r1, r2, r3⟩ := HR10.out.put hg11
                    rw [HSL3.out] at r1
                    obtain ⟨j0, hj0, jz0, jz1, jz2⟩ := info_parts Try.info91
                    have HPL : Hid ((px.l.map (Value.int .i8)).length = 1 * 12) := by show _ = _; rw [List.length_map, Pm.len]
                    have HO1 : Hid (∀ u ∈ px.l.map (Value.int .i8), u.oneCell' = true) := i8_one _
                    have HM1 : Hid (sl3 + 1 ≤ maxLen) := by have := HLEN.out; show sl3 + 1 ≤ maxLen; unfold maxLen; omega
                    have HY1 : Hid ((sl3 + 1) * 12 ≤ 140737488355328) := by have := HLEN.out; show (sl3 + 1) * 12 ≤ _; omega
                    have HS1 : Hid (w.heap.size + 1 + 1 ≤ (w11.alloc (.cells (i8s px.l) 91)).heap.size) := by have := hM11.lt; show _ ≤ _; simp; omega
                    have HNW2 : Hid (∀ j u, (px.l.map (Value.int .i8))[j]? = some u → (w11.alloc (.cells (i8s px.l) 91)).cell? ((⟨w11.heap.size, 0, none⟩ : Addr).add j) = some u) := fun j u hu => by
                      rw [Addr.add_mid]; exact (Arr.new w11 px.l (Pm.len _)).range j u hu
                    have HR1 := hide (r1.alloc (.cells (i8s px.l) 91))
                    have HM11 := hide hM11
                    have HG11 := hide hg11
                    clear r1 r2 r3 hM11 hg11 hrg11 hrg10 hP10 hmp hS hb9'
                    go_simp
                    go_wp2_with (first
                      | refine wpList_load_arr rfl _ rfl w6.heap.size px.l hP11 rfl ?_
                      | refine wpList_build rfl _ rfl px rfl ?_
                      | (refine wpList_append_keep (w11.alloc (.cells (i8s px.l) 91)) rfl _ _ 88 rfl (w.heap.size + 1 + 1) 91 j0 (.agg (i8s zeros12)) 12 12 Try.underlying88 hj0 jz0 jz1 jz2 rfl (by decide) _ sl3 _ rfl HR1.out ⟨w11.heap.size, 0, none⟩ 1 1 (px.l.map (Value.int .i8)) rfl HPL.out HNW2.out HO1.out HM1.out HY1.out HS1.out ?_; intro v12 w12 hown12 hg12 hloc12))
                    have hR12 : ShR w w12 (w.heap.size + 1) v12 (tryTo L e S (2 * k + 1 + 1)) (kupd f3 px.l (sv e.1 (-(k : Int) - 1))) to := by
                      have hh := HPX.out
                      subst hh
                      rw [HNX.out]
                      have hm := HM11.out
                      rw [← HSL3.out] at hm hown12
                      exact HR10.out.push (l := ((-(k : Int) - 1), xx)) HEM.out HNM.out hm HG11.out (Below.refl _ _) hown12 hg12
                    have HR12 := hide hR12
                    clear hR12 hown12 hg12 hloc12
                    go_wp2
                    go_roundw
                    case rel =>
                      have hfin : ∃ (t : Nat) (u : Value) (f : List Int → Option Value), t ≤ 2 ∧ v12 = u ∧ Value.int .i64 (2) = .int .i64 (t : Int) ∧ ShR w w12 (w.heap.size + 1) u (tryTo L e S (2 * k + t)) f to := ⟨2, _, _, by omega, rfl, by go_num, by rw [show 2 * k + 2 = 2 * k + 1 + 1 by omega]; exact HR12.out⟩
                      first
                        | exact hfin
                        | ((repeat apply Exists.intro); exact ⟨hfin, rfl⟩)
                    case measure => simp [intOf]
            · obtain rfl : t = 2 := by omega
              have HR3 : Hid (ShR w wr (w.heap.size + 1) u6 (tryTo L e S (2 * (k + 1))) f3 to) := hR3
              clear hR3
              go_wp2
              go_roundw
              case rel =>
                have hfin : ∃ (k' : Nat) (u : Value) (f : List Int → Option Value), k' ≤ gs.length ∧ u6 = u ∧ Value.int .i64 ((k : Int) + 1) = .int .i64 (k' : Int) ∧ ShR w wr (w.heap.size + 1) u (tryTo L e S (2 * k')) f to := ⟨k + 1, _, f3, hkt, rfl, by go_num, HR3.out⟩
                first
                  | exact hfin
                  | ((repeat apply Exists.intro); exact ⟨hfin, rfl⟩)
              case measure => simp [intOf]; omega
        · obtain rfl : k = gs.length := by omega
          have hRn : Run L (i + 1) (tryTo L e S (2 * gs.length)) := by
            have := Run.step HRUN.out HE.out
            rwa [show L.length = 2 * gs.length by rw [HL.out]; exact glet_length 0 gs] at this
          obtain ⟨more, hmore⟩ := tryTo_more L e S (2 * gs.length)
          have hNo2 : Hid (∀ k d, k < i + 1 → (tryTo L e S (2 * gs.length))[k]? = some d → d.1 ≠ to) := fun k d hk2 hd => by
            rw [hmore, List.getElem?_append_left (by have := HLT.out; have := HSL.out; omega)] at hd
            by_cases hki : k = i
            · rw [hki, HE.out] at hd
              rw [← Option.some.inj hd]
              exact HNE.out
            · exact hNo.out k d (by omega) hd
          have HRn := hide hRn
          have HR2 := hide hR2
          clear hRn hR2 hmore
          go_wp2
          go_roundw
          case rel =>
            have hfin : ∃ (i' : Nat) (u : Value) (S : List (Pm × List Int)) (f : List Int → Option Value), u6 = u ∧ Value.int .i64 ((i : Int) + 1) = .int .i64 (i' : Int) ∧ Run L i' S ∧ Hid (∀ k e, k < i' → S[k]? = some e → e.1 ≠ to) ∧ ShR w wr (w.heap.size + 1) u S f to := ⟨i + 1, _, _, f2, rfl, by go_num, HRn.out, hNo2, HR2.out⟩
            first
              | exact hfin
              | ((repeat apply Exists.intro); exact ⟨hfin, rfl⟩)
          case measure => simp [intOf]; have := HLT.out; omega
end Go.Proofs.Ytimfoggjocajiaa

/- Plain: which bells come to each other's places. -/
namespace Go.Proofs.Ytimfoggjocajiaa

/-- A bell comes to another's place by a row of the group. -/
def Reach (gs : List Pm) (a b : Nat) : Prop := ∃ x, Gen (fun y => y ∈ gs) x ∧ x.act a = b

structure OrbIn (gs : List Pm) (n a : Nat) (O : List Nat) (i j : Nat) : Prop where
  nodup : O.Nodup
  lt : ∀ b, b ∈ O → b < n
  fst : a ∈ O
  reach : ∀ b, b ∈ O → Reach gs a b
  done : ∀ k l c s, (k < i ∨ (k = i ∧ l < j)) → O[k]? = some c → gs[l]? = some s → s.act c ∈ O

theorem OrbIn.start (gs : List Pm) {n a : Nat} (h : a < n) : OrbIn gs n a [a] 0 0 :=
  ⟨by simp, fun b hb => by rw [List.mem_singleton.1 hb]; exact h, by simp, fun b hb => by rw [List.mem_singleton.1 hb]; exact ⟨1, Gen.one, Pm.act_one a⟩, fun k l c s h => by omega⟩

theorem nodup_le {n : Nat} {O : List Nat} (h : O.Nodup) (hl : ∀ b, b ∈ O → b < n) : O.length ≤ n := by
  have := h.length_le_of_subset (l₂ := List.range n) (fun b hb => List.mem_range.2 (hl b hb))
  simpa using this

theorem OrbIn.len {gs : List Pm} {n a i j : Nat} {O : List Nat} (h : OrbIn gs n a O i j) : O.length ≤ n := nodup_le h.nodup h.lt

theorem OrbIn.old {gs : List Pm} {n a i j : Nat} {O : List Nat} {c : Nat} {s : Pm} (h : OrbIn gs n a O i j) (hc : O[i]? = some c) (hs : gs[j]? = some s) (hm : s.act c ∈ O) : OrbIn gs n a O i (j + 1) := by
  refine ⟨h.nodup, h.lt, h.fst, h.reach, fun k l c' s' hk hc' hs' => ?_⟩
  by_cases h' : k < i ∨ (k = i ∧ l < j)
  · exact h.done k l c' s' h' hc' hs'
  · obtain rfl : k = i := by omega
    obtain rfl : l = j := by omega
    rw [hc] at hc'
    rw [hs] at hs'
    obtain rfl := Option.some.inj hc'
    obtain rfl := Option.some.inj hs'
    exact hm

theorem OrbIn.new {gs : List Pm} {n a i j : Nat} {O : List Nat} {c : Nat} {s : Pm} (h : OrbIn gs n a O i j) (hc : O[i]? = some c) (hs : gs[j]? = some s) (hm : s.act c ∉ O) (hn : s.act c < n) : OrbIn gs n a (O ++ [s.act c]) i (j + 1) := by
  have hi := (List.getElem?_eq_some_iff.1 hc).1
  have hg : OrbIn gs n a (O ++ [s.act c]) i j := by
    refine ⟨?_, fun b hb => ?_, List.mem_append_left _ h.fst, fun b hb => ?_, fun k l c' s' hk hc' hs' => ?_⟩
    · rw [List.nodup_append]
      exact ⟨h.nodup, by simp, fun x hx y hy e => hm (by rw [← List.mem_singleton.1 hy, ← e]; exact hx)⟩
    · rcases List.mem_append.1 hb with hb | hb
      · exact h.lt b hb
      · rw [List.mem_singleton.1 hb]; exact hn
    · rcases List.mem_append.1 hb with hb | hb
      · exact h.reach b hb
      · rw [List.mem_singleton.1 hb]
        obtain ⟨x, hx, e⟩ := h.reach c (List.mem_of_getElem? hc)
        exact ⟨s * x, Gen.mul (List.mem_of_getElem? hs) hx, by rw [Pm.act_mul, e]⟩
    · rw [List.getElem?_append_left (by omega)] at hc'
      exact List.mem_append_left _ (h.done k l c' s' hk hc' hs')
  exact hg.old (c := c) (s := s) (by rw [List.getElem?_append_left hi]; exact hc) hs (by simp)

theorem OrbIn.next {gs : List Pm} {n a i : Nat} {O : List Nat} (h : OrbIn gs n a O i gs.length) : OrbIn gs n a O (i + 1) 0 := by
  refine ⟨h.nodup, h.lt, h.fst, h.reach, fun k l c s hk hc hs => ?_⟩
  have hl := (List.getElem?_eq_some_iff.1 hs).1
  exact h.done k l c s (by omega) hc hs

theorem OrbIn.all {gs : List Pm} {n a : Nat} {O : List Nat} (h : OrbIn gs n a O O.length 0) (b : Nat) : b ∈ O ↔ Reach gs a b := by
  refine ⟨h.reach b, ?_⟩
  rintro ⟨x, hx, rfl⟩
  induction hx with
  | one => rw [Pm.act_one]; exact h.fst
  | @mul s x hs _ ih =>
    rw [Pm.act_mul]
    obtain ⟨k, hk, ek⟩ := List.getElem_of_mem ih
    obtain ⟨l, hl, el⟩ := List.getElem_of_mem hs
    exact h.done k l (x.act a) s (Or.inl hk) (by rw [List.getElem?_eq_getElem hk, ek]) (by rw [List.getElem?_eq_getElem hl, el])

end Go.Proofs.Ytimfoggjocajiaa

/- Plain: a group's size is how many rows it has; what is cut into parts that are alike; Lagrange; orbit and stabiliser. -/
namespace Go.Proofs.Ytimfoggjocajiaa

theorem len_same {α : Type} (l m : List α) (hl : l.Nodup) (hm : m.Nodup) (h : ∀ x, x ∈ l ↔ x ∈ m) : l.length = m.length := by
  classical
  exact Nat.le_antisymm (nodup_len l m hl (fun x hx => (h x).1 hx)) (nodup_len m l hm (fun x hx => (h x).2 hx))

theorem nodup_flatK {α β : Type} (B : α → List β) (k : β → α) : ∀ (l : List α), l.Nodup → (∀ e, e ∈ l → (B e).Nodup) → (∀ e, e ∈ l → ∀ x, x ∈ B e → k x = e) → (l.flatMap B).Nodup
  | [], _, _, _ => by simp
  | a :: l, hn, h1, h2 => by
    rw [List.nodup_cons] at hn
    rw [List.flatMap_cons, List.nodup_append]
    refine ⟨h1 a List.mem_cons_self, nodup_flatK B k l hn.2 (fun e he => h1 e (List.mem_cons_of_mem _ he)) (fun e he => h2 e (List.mem_cons_of_mem _ he)), fun x hx y hy e => ?_⟩
    subst e
    obtain ⟨e, he, hxe⟩ := List.mem_flatMap.1 hy
    have h3 := h2 a List.mem_cons_self x hx
    have h4 := h2 e (List.mem_cons_of_mem _ he) x hxe
    exact hn.1 (by rw [← h3, h4]; exact he)

theorem flat_lenK {α β : Type} (f : α → List β) (m : Nat) : ∀ (l : List α), (∀ e, e ∈ l → (f e).length = m) → (l.flatMap f).length = l.length * m
  | [], _ => by simp
  | a :: l, h => by
    rw [List.flatMap_cons, List.length_append, flat_lenK f m l (fun e he => h e (List.mem_cons_of_mem _ he)), h a List.mem_cons_self, List.length_cons, Nat.succ_mul, Nat.add_comm]

theorem nodup_mapI {α β : Type} (f : α → β) (hf : ∀ a b, f a = f b → a = b) : ∀ (l : List α), l.Nodup → (l.map f).Nodup
  | [], _ => by simp
  | a :: l, h => by
    rw [List.nodup_cons] at h
    rw [List.map_cons, List.nodup_cons]
    exact ⟨fun hm => by obtain ⟨b, hb, e⟩ := List.mem_map.1 hm; exact h.1 (by rw [← hf _ _ e]; exact hb), nodup_mapI f hf l h.2⟩

/-- A group's size is how many rows it has. -/
theorem sz_list {G : Pm → Prop} (hG : Sub G) {n : Nat} (hn : n ≤ 12) (hf : ∀ x, G x → Fixes (fun b => n ≤ b) x) : ∃ L : List Pm, L.Nodup ∧ (∀ x, x ∈ L ↔ G x) ∧ L.length = sz G n := by
  have key : ∀ d k, k + d = n → ∃ L : List Pm, L.Nodup ∧ (∀ x, x ∈ L ↔ Low G k x) ∧ sz G n = sz G k * L.length := by
    intro d
    induction d with
    | zero =>
      intro k hk
      refine ⟨[1], by simp, fun x => ?_, by rw [show k = n by omega]; simp⟩
      constructor
      · intro hx; rw [List.mem_singleton.1 hx]; exact (low_sub hG k).one
      · intro hx
        have : x = 1 := Pm.ext' (fun b _ => by
          rw [Pm.act_one]
          rcases Nat.lt_or_ge b n with hb | hb
          · exact hx.2 b (by omega)
          · exact hf x hx.1 b hb)
        rw [this]; simp
    | succ d ih =>
      intro k hk
      have hk12 : k < 12 := by omega
      obtain ⟨L, h1, h2, h3⟩ := ih (k + 1) (by omega)
      classical
      obtain ⟨u, hu⟩ : ∃ u : Nat → Pm, ∀ b, b ∈ orbL G k → Low G k (u b) ∧ (u b).act k = b := by
        refine ⟨fun b => if h : Orb G k b then Classical.choose h else 1, fun b hb => ?_⟩
        have h := (mem_orbL hk12).1 hb
        simp only [dif_pos h]
        exact Classical.choose_spec h
      refine ⟨(orbL G k).flatMap (fun b => L.map (fun y => u b * y)), ?_, fun x => ?_, ?_⟩
      · refine nodup_flatK _ (fun x => x.act k) _ (orbL_nodup G k) (fun b _ => nodup_mapI _ (fun a b h => Pm.mul_cancel h) _ h1) (fun b hb x hx => ?_)
        obtain ⟨y, hy, rfl⟩ := List.mem_map.1 hx
        rw [Pm.act_mul, ((h2 y).1 hy).2 k (Nat.lt_succ_self k)]
        exact (hu b hb).2
      · constructor
        · intro hx
          obtain ⟨b, hb, hx⟩ := List.mem_flatMap.1 hx
          obtain ⟨y, hy, rfl⟩ := List.mem_map.1 hx
          exact (low_sub hG k).mul (hu b hb).1 (low_plus.1 ((h2 y).1 hy)).1
        · intro hx
          have hb : x.act k ∈ orbL G k := (mem_orbL hk12).2 ⟨x, hx, rfl⟩
          refine List.mem_flatMap.2 ⟨_, hb, List.mem_map.2 ⟨(u (x.act k))⁻¹ * x, (h2 _).2 (low_plus.2 ⟨(low_sub hG k).mul ((low_sub hG k).inv (hu _ hb).1) hx, ?_⟩), Pm.mul_inv_cancel _ _⟩⟩
          rw [Pm.act_mul]
          conv => lhs; arg 2; rw [← (hu _ hb).2]
          exact Pm.inv_act _ _
      · rw [flat_lenK _ L.length _ (fun b _ => by rw [List.length_map]), h3]
        show sz G k * oc G k * L.length = sz G k * (oc G k * L.length)
        rw [Nat.mul_assoc]
  obtain ⟨L, h1, h2, h3⟩ := key n 0 (by omega)
  refine ⟨L, h1, fun x => (h2 x).trans ⟨fun h => h.1, fun h => ⟨h, fun b hb => by omega⟩⟩, ?_⟩
  rw [h3]
  show L.length = 1 * L.length
  rw [Nat.one_mul]

/-- Whoever lists a group without repeating has as many. -/
theorem sz_is {G : Pm → Prop} (hG : Sub G) {n : Nat} (hn : n ≤ 12) (hf : ∀ x, G x → Fixes (fun b => n ≤ b) x) {L : List Pm} (h1 : L.Nodup) (h2 : ∀ x, x ∈ L ↔ G x) : L.length = sz G n := by
  obtain ⟨M, m1, m2, m3⟩ := sz_list hG hn hf
  rw [← m3]
  exact len_same L M h1 m1 (fun x => (h2 x).trans (m2 x).symm)

/-- What is cut by a key into parts of one size. -/
theorem fibres {β : Type} [DecidableEq β] (f : Pm → β) (m : Nat) : ∀ (O : List β) (L : List Pm), O.Nodup → L.Nodup → (∀ x, x ∈ L → f x ∈ O) → (∀ b, b ∈ O → (L.filter (fun x => decide (f x = b))).length = m) → L.length = O.length * m
  | [], L, _, _, h, _ => by
    cases L with
    | nil => simp
    | cons x L => exact absurd (h x List.mem_cons_self) (by simp)
  | b :: O, L, hO, hL, h, hm => by
    rw [List.nodup_cons] at hO
    have e1 := hm b List.mem_cons_self
    have e2 := fibres f m O (L.filter (fun x => !decide (f x = b))) hO.2 (hL.sublist List.filter_sublist) (fun x hx => by
      rw [List.mem_filter] at hx
      rcases List.mem_cons.1 (h x hx.1) with e | e
      · simp [e] at hx
      · exact e) (fun c hc => by
      rw [List.filter_filter, ← hm c (List.mem_cons_of_mem _ hc)]
      congr 1
      refine List.filter_congr (fun x hx => ?_)
      by_cases e : f x = c
      · have : ¬ c = b := fun h => hO.1 (by rw [← h]; exact hc)
        simp [e, this]
      · simp [e])
    have e3 : L.length = (L.filter (fun x => decide (f x = b))).length + (L.filter (fun x => !decide (f x = b))).length := by
      rw [← List.length_append]
      exact ((List.filter_append_perm (fun x => decide (f x = b)) L).length_eq).symm
    rw [e3, e1, e2, List.length_cons, Nat.succ_mul, Nat.add_comm]

/-- Orbit and stabiliser. -/
theorem orb_stab {G : Pm → Prop} (hG : Sub G) {n : Nat} (hn : n ≤ 12) (hf : ∀ x, G x → Fixes (fun b => n ≤ b) x) (a : Nat) {O : List Nat} (hO : O.Nodup) (hm : ∀ b, b ∈ O ↔ ∃ x, G x ∧ x.act a = b) : sz G n = O.length * sz (fun x => G x ∧ x.act a = a) n := by
  have hS : Sub (fun x => G x ∧ x.act a = a) := ⟨⟨hG.one, Pm.act_one a⟩, fun hx hy => ⟨hG.mul hx.1 hy.1, by rw [Pm.act_mul, hy.2, hx.2]⟩, fun {x} hx => ⟨hG.inv hx.1, by have h := hx.2; rw [← h, Pm.inv_act, h]⟩⟩
  obtain ⟨L, l1, l2, l3⟩ := sz_list hG hn hf
  obtain ⟨M, m1, m2, m3⟩ := sz_list hS hn (fun x hx => hf x hx.1)
  rw [← l3, ← m3]
  refine fibres (fun x => x.act a) M.length O L hO l1 (fun x hx => (hm _).2 ⟨x, (l2 x).1 hx, rfl⟩) (fun b hb => ?_)
  obtain ⟨u, hu, eu⟩ := (hm b).1 hb
  rw [show M.length = (M.map (fun y => u * y)).length by rw [List.length_map]]
  refine len_same _ _ (l1.sublist List.filter_sublist) (nodup_mapI _ (fun a b h => Pm.mul_cancel h) _ m1) (fun x => ?_)
  rw [List.mem_filter, l2, decide_eq_true_iff, List.mem_map]
  constructor
  · rintro ⟨hx, e⟩
    refine ⟨u⁻¹ * x, (m2 _).2 ⟨hG.mul (hG.inv hu) hx, ?_⟩, Pm.mul_inv_cancel _ _⟩
    rw [Pm.act_mul, e, ← eu, Pm.inv_act]
  · rintro ⟨y, hy, rfl⟩
    have := (m2 y).1 hy
    exact ⟨hG.mul hu this.1, by rw [Pm.act_mul, this.2, eu]⟩

/-- Lagrange: a list that with each row has its part has a multiple of rows. -/
theorem lagr {H : Pm → Prop} (hH : Sub H) {M : List Pm} (m1 : M.Nodup) (m2 : ∀ x, x ∈ M ↔ H x) : ∀ (d : Nat) (L : List Pm), L.length ≤ d → L.Nodup → (∀ x, x ∈ L → ∀ y, H y → x * y ∈ L) → M.length ∣ L.length := by
  classical
  intro d
  induction d with
  | zero => intro L hd _ _; rw [show L.length = 0 by omega]; exact Nat.dvd_zero _
  | succ d ih =>
    intro L hd hL hc
    cases hLe : L with
    | nil => simp
    | cons x L' =>
      have hx : x ∈ L := by rw [hLe]; exact List.mem_cons_self
      rw [← hLe]
      have e3 : L.length = (L.filter (fun z => decide (H (x⁻¹ * z)))).length + (L.filter (fun z => !decide (H (x⁻¹ * z)))).length := by
        rw [← List.length_append]
        exact ((List.filter_append_perm (fun z => decide (H (x⁻¹ * z))) L).length_eq).symm
      have e1 : (L.filter (fun z => decide (H (x⁻¹ * z)))).length = M.length := by
        rw [show M.length = (M.map (fun y => x * y)).length by rw [List.length_map]]
        refine len_same _ _ (hL.sublist List.filter_sublist) (nodup_mapI _ (fun a b h => Pm.mul_cancel h) _ m1) (fun z => ?_)
        rw [List.mem_filter, decide_eq_true_iff, List.mem_map]
        constructor
        · rintro ⟨_, h⟩; exact ⟨_, (m2 _).2 h, Pm.mul_inv_cancel _ _⟩
        · rintro ⟨y, hy, rfl⟩
          exact ⟨hc x hx y ((m2 y).1 hy), by rw [Pm.inv_mul_cancel]; exact (m2 y).1 hy⟩
      have hM0 : 1 ≤ M.length := List.length_pos_of_mem ((m2 1).2 hH.one)
      have e2 := ih (L.filter (fun z => !decide (H (x⁻¹ * z)))) (by omega) (hL.sublist List.filter_sublist) (fun z hz y hy => by
        rw [List.mem_filter] at hz ⊢
        refine ⟨hc z hz.1 y hy, ?_⟩
        have h1 : ¬ H (x⁻¹ * z) := by simpa using hz.2
        have h2 : ¬ H (x⁻¹ * (z * y)) := fun h => h1 (by
          have := hH.mul h (hH.inv hy)
          rwa [Pm.mul_assoc, Pm.mul_assoc, Pm.mul_inv, Pm.mul_one] at this)
        simpa using h2)
      rw [e3, e1]
      exact Nat.dvd_add (Nat.dvd_refl _) e2

theorem sz_dvd {G H : Pm → Prop} (hG : Sub G) (hH : Sub H) (h : ∀ x, H x → G x) {n : Nat} (hn : n ≤ 12) (hf : ∀ x, G x → Fixes (fun b => n ≤ b) x) : sz H n ∣ sz G n := by
  obtain ⟨L, l1, l2, l3⟩ := sz_list hG hn hf
  obtain ⟨M, m1, m2, m3⟩ := sz_list hH hn (fun x hx => hf x (h x hx))
  rw [← l3, ← m3]
  exact lagr hH m1 m2 L.length L (Nat.le_refl _) l1 (fun x hx y hy => (l2 _).2 (hG.mul ((l2 x).1 hx) (h y hy)))

/-- All rows of n bells are n! -/
theorem sz_full {n : Nat} (hn : n ≤ 12) : sz (Fixes (fun b => n ≤ b)) n = fct n := by
  have hl : ((List.range (fct n)).map (fun k => pad (rowAt n k))).length = fct n := by simp
  rw [← hl]
  symm
  refine sz_is (fixes_sub _) hn (fun x hx => hx) ?_ (fun x => ?_)
  · rw [List.Nodup, List.pairwise_map]
    refine List.Pairwise.imp_of_mem (fun {a b} ha hb hne e => ?_) (List.nodup_range (n := fct n))
    have ha' := List.mem_range.1 ha
    have hb' := List.mem_range.1 hb
    have e2 : rowAt n a = rowAt n b := by
      rw [← cut_pad hn (rowAt_length ha') (rowAt_row ha'), e, cut_pad hn (rowAt_length hb') (rowAt_row hb')]
    have h1 := rank_rowAt ha'
    rw [e2, rank_rowAt hb'] at h1
    exact hne h1.symm
  · rw [List.mem_map]
    constructor
    · rintro ⟨k, hk, rfl⟩
      exact pad_fixes hn (rowAt_length (List.mem_range.1 hk)) (rowAt_row (List.mem_range.1 hk))
    · intro hx
      have hr := cut_row hn hx
      have hcl := cut_length hn x
      have hk : rankR (cut n x) < fct n := by have := rankR_lt (cut n x); rwa [hcl] at this
      refine ⟨rankR (cut n x), List.mem_range.2 hk, ?_⟩
      have e : rowAt n (rankR (cut n x)) = cut n x := by
        refine rankR_inj _ _ ?_ (rowAt_row hk).2 ?_
        · exact (rowAt_perm hk).trans (by have := row_perm_rnd hr; rw [hcl] at this; exact this.symm)
        · rw [← rkTo_all]; exact rank_rowAt hk
      rw [e, pad_cut hn hx]

theorem sz_fct {G : Pm → Prop} (hG : Sub G) {n : Nat} (hn : n ≤ 12) (hf : ∀ x, G x → Fixes (fun b => n ≤ b) x) : sz G n ∣ fct n := by
  rw [← sz_full hn]
  exact sz_dvd (fixes_sub _) hG hf hn (fun x hx => hx)

end Go.Proofs.Ytimfoggjocajiaa
