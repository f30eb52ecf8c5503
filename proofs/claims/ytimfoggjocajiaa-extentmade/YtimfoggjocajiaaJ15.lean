/- Joined: ExJ, ExP, ExQ. -/
import Derived.Test.YtimfoggjocajiaaJ13
import Derived.Test.YtimfoggjocajiaaJ9
import Derived.Test.YtimfoggjocajiaaJ4
import Derived.Test.YtimfoggjocajiaaJ14
import Derived.Test.YtimfoggjocajiaaJ11
import Derived.Test.YtimfoggjocajiaaJ10
/- The walk of TopRankin: it answers true at every input. -/
namespace Go.Proofs.Ytimfoggjocajiaa
open Go.RowKit

theorem Rws.unique {n : Nat} {G : Pm → Prop} {X Y : List Pm} (h : Rws n G X) (h' : Rws n G Y) : X = Y := by
  have h12 := h.twelve
  have fX : ∀ x, x ∈ X → Fixes (fun b => n ≤ b) x := fun x hx => h.fix x ((h.mem x).1 hx)
  have fY : ∀ x, x ∈ Y → Fixes (fun b => n ≤ b) x := fun x hx => h'.fix x ((h'.mem x).1 hx)
  have e : X.map (cut n) = Y.map (cut n) := rising_eq (cut_rising h12 fX h.nodup h.sorted) (cut_rising h12 fY h'.nodup h'.sorted) (fun r => by
    rw [List.mem_map, List.mem_map]
    exact ⟨fun ⟨x, h1, h2⟩ => ⟨x, (h'.mem x).2 ((h.mem x).1 h1), h2⟩, fun ⟨x, h1, h2⟩ => ⟨x, (h.mem x).2 ((h'.mem x).1 h1), h2⟩⟩)
  have back : ∀ (Z : List Pm), (∀ x, x ∈ Z → Fixes (fun b => n ≤ b) x) → (Z.map (cut n)).map pad = Z := fun Z hZ => by
    rw [List.map_map]
    conv => rhs; rw [← List.map_id Z]
    exact List.map_congr_left (fun x hx => pad_cut h12 (hZ x hx))
  rw [← back X fX, e, back Y fY]

theorem qs_flat {n : Nat} {G : Pm → Prop} {X : List Pm} (hR : Rws n G X) {a b : Pm} (ha : G a) (hb : G b) : (qs X a b).flatten.length = X.length := by
  have h9 := flat_count (mv_row hR.nodup (hR.cls (hR.sub.mul ha (hR.sub.inv hb))))
  rw [mv_length] at h9
  have : ∀ l : List (List Int), (l.map srt).flatten.length = l.flatten.length := fun l => by
    induction l with
    | nil => rfl
    | cons c l ih => rw [List.map_cons, List.flatten_cons, List.flatten_cons, List.length_append, List.length_append, ih, srt_length]
  unfold qs
  rw [this, h9]

theorem nxL_zero (X : List Pm) (a b : Pm) (A : List (List Int)) (k : Nat) : nxL X a b A (List.replicate k 0) = mv X a := by
  refine ext_getD (by rw [nxL_length, mv_length]) (fun r hr => ?_)
  rw [nxL_length] at hr
  have hp : X[r]? = some X[r] := List.getElem?_eq_getElem hr
  have hc : ¬ chc A (List.replicate k 0) r = 1 := by
    unfold chc
    rw [List.getD]
    intro h
    by_cases hk : sof A r < k
    · rw [List.getElem?_replicate, if_pos hk] at h; simp at h
    · rw [List.getElem?_replicate, if_neg hk] at h; simp at h
  rw [nxL_get hp, if_neg hc, List.getD, mv_get hp]
  rfl

theorem ints_one {w : World} {m : Nat} {v1 : Value} {xs : List Int} (hm : w.heap.size = m) (h1 : Ints w v1 xs) : IntsAll (w.alloc (.cells #[v1] 23)) (.slice (some ⟨m, 0, none⟩) 1 1) [xs] := by
  subst hm
  have hb : Below w.heap.size w (w.alloc (.cells #[v1] 23)) := (Below.refl _ _).alloc (Nat.le_refl _) _
  refine ⟨[v1], Or.inr ⟨w.heap.size, 0, 1, rfl, by simp, by simp, by omega, by simp, fun j hj => ?_⟩, rfl, fun j hj => ?_⟩
  · have e : j = 0 := by simp at hj; omega
    subst e
    have h9 := cell_one_new w v1 23 0 v1 rfl
    rw [Addr.add_lit] at h9
    exact h9
  · have e : j = 0 := by simp at hj; omega
    subst e
    exact h1.below hb

theorem rdN_ok {X : List Pm} {a b : Pm} {cs : List Int} (h : rdE (qs X a b) cs = 0) : rdN X a b cs = (cycsTo (nxL X a b (qs X a b) cs) X.length).length := by unfold rdN; rw [if_pos h]

set_option maxRecDepth 20000 in
theorem trankin_long (v : Value) (xs : List Int) (a1 a2 a3 : Int) (w : World) (h : Ints w v xs) (hl : 256 < xs.length) :
    Calls Try.prog 13 #[v, .int .i64 a1, .int .i64 a2, .int .i64 a3] w fun e w' => Told w e w' := by
  obtain ⟨p, c, rfl⟩ := h.form
  have hl' : (256 : Int) < (xs.length : Int) := by omega
  clear h
  go_enter Try.func13, Try.ntmps13
  go_wp2
  go_ret
  exact ⟨rfl, Below.refl _ _⟩

set_option maxRecDepth 20000 in
set_option maxHeartbeats 8000000 in
theorem trankin_ok (v : Value) (raw : List Int) (a1 a2 a3 : Int) (w : World) (h : Ints w v raw) (hx : ∀ x, x ∈ raw → I64 x) (hl : raw.length ≤ 256) (i1 : I64 a1) (i2 : I64 a2) (i3 : I64 a3) :
    Calls Try.prog 13 #[v, .int .i64 a1, .int .i64 a2, .int .i64 a3] w fun e w' => Told w e w' := by
  obtain ⟨j0, hji, hjz0, hjz1, hjz2⟩ := info_parts Try.info3
  have HI := hide h
  have HX := hide hx
  have HI2 := hide i2
  have HI3 := hide i3
  obtain ⟨p, c, rfl⟩ := h.form
  obtain ⟨l1, r1⟩ := i1
  have q1 := run_ptr_ne
  have hl' : ¬ ((256 : Int) < (raw.length : Int)) := by omega
  clear h hx i2 i3
  go_enter Try.func13, Try.ntmps13
  go_wp2_with fail
  refine (pick_any a1 5 _ l1 r1 (by omega) (by omega)).mono ?_
  rintro ex wp ⟨k1, k1a, k1b, rfl, rfl⟩
  obtain ⟨n0, rfl⟩ := Int.eq_ofNat_of_zero_le k1a
  obtain ⟨n, hn⟩ : ∃ n : Nat, n = n0 + 1 := ⟨_, rfl⟩
  have hnI : (1 : Int) + (n0 : Int) = (n : Int) := by omega
  have h1 : 1 ≤ n := by omega
  have h5 : n ≤ 5 := by omega
  have h12 : n ≤ 12 := by omega
  have HR1 := hide (rowOf_ok a2 n w HI2.out h12)
  clear hn k1a k1b l1 r1
  go_wp2_with fail
  refine HR1.out.mono ?_
  rintro ex w1 ⟨vx, xs, rfl, hxr, hxl, hown1, hb1⟩
  have HX1 := hide (Ints.own hown1)
  have HR2 := hide (rowOf_ok a3 n w1 HI3.out h12)
  obtain ⟨px, cx, ex1⟩ := owns_slice hown1
  subst ex1
  clear hown1 HR1 hnI
  go_wp2_with fail
  refine HR2.out.mono ?_
  rintro ex w2 ⟨vy, ys, rfl, hyr, hyl, hown2, hb2⟩
  have HX2 := hide (HX1.out.below hb2)
  have HY2 := hide (Ints.own hown2)
  have hB2 := hb1.trans (hb2.mono hb1.size)
  obtain ⟨py, cy, ey1⟩ := owns_slice hown2
  subst ey1
  have hRN : RowsN n [xs, ys] := fun z hz => by
    rcases List.mem_cons.1 hz with e | hz
    · rw [e]; exact ⟨hxr, hxl⟩
    · rw [List.mem_singleton.1 hz]; exact ⟨hyr, hyl⟩
  have hRX : RowsN n [xs] := fun z hz => by rw [List.mem_singleton.1 hz]; exact ⟨hxr, hxl⟩
  have HRN := hide hRN
  have HRX := hide hRX
  have hz1 : sz (G2 xs ys) n ≤ 1000 := by
    have hd := sz_fct (Gen.sub (fun y => y ∈ [xs, ys].map pad)) h12 (fun x hx => gens_fix h12 hRN hx)
    have hf : fct n ≤ 120 ∧ 0 < fct n := by
      rcases (show n = 1 ∨ n = 2 ∨ n = 3 ∨ n = 4 ∨ n = 5 by omega) with rfl | rfl | rfl | rfl | rfl <;> decide
    exact Nat.le_trans (Nat.le_trans (Nat.le_of_dvd hf.2 hd) hf.1) (by omega)
  have HQs := hide (qsets_ok n (.slice px n cx) (.slice py n cy) xs ys w2 HX2.out HY2.out h1 h12 hxl hRN hz1)
  have HRd : Hid (∀ (W : World) (u : Value) (cs : List Int), Below w2.heap.size w2 W → Ints W u cs → Calls Try.prog 49 #[.slice px n cx, .slice py n cy, u] W fun e w' => RoundsPost n xs ys cs W e w') := fun W u cs hW hu => rounds2_ok n _ _ u xs ys cs W (HX2.out.below hW) (HY2.out.below hW) hu h1 h12 hxl hRN hz1
  have HMk2 : Hid (∀ (W : World) (u : Value), IntsAll W u [xs, ys] → Calls Try.prog 14 #[.int .i64 n, u] W fun e w' => ∃ u, e = .returned (.tuple #[u, .int .i64 0]) ∧ GroupAt w' u n ([xs, ys].map pad) ∧ Below W.heap.size W w') := fun W u hu => make_ok n u [xs, ys] W hu h1 h12 (by simp) hRN
  have HMk1 : Hid (∀ (W : World) (u : Value), IntsAll W u [xs] → Calls Try.prog 14 #[.int .i64 n, u] W fun e w' => ∃ u, e = .returned (.tuple #[u, .int .i64 0]) ∧ GroupAt w' u n ([xs].map pad) ∧ Below W.heap.size W w') := fun W u hu => make_ok n u [xs] W hu h1 h12 (by simp) hRX
  have HXR : Hid (isRow xs ∧ xs.length = n) := ⟨hxr, hxl⟩
  have HYR : Hid (isRow ys ∧ ys.length = n) := ⟨hyr, hyl⟩
  clear hown2 hb1 hb2 HR2 HX1 hRN hRX hz1 hxr hxl hyr hyl
  go_wp2_with fail
  refine HQs.out.mono ?_
  rintro ex w3 ⟨ul, us, X, rfl, hRw, hL, hb3⟩
  have HRw := hide hRw
  have hfew := hRw.few
  have HQF := hide (qs_flat hRw (g2_left xs ys) (g2_right xs ys))
  have HQN : Hid ((qs X (pad xs) (pad ys)).length ≤ X.length) := by unfold qs; rw [List.length_map]; exact cycsTo_length _ _
  have HL := hide hL
  obtain ⟨al, hal⟩ : ∃ al, al = (qs X (pad xs) (pad ys)).length := ⟨_, rfl⟩
  have HAL := hide hal
  obtain ⟨pl, ql, el⟩ := owns_slice hL.row
  rw [hL.len, ← hal] at el
  subst el
  have hall : al ≤ 1000 := by rw [hal]; have := HQN.out; omega
  have hB3 := hB2.trans (hb3.mono hB2.size)
  have hbA : Below w3.heap.size w3 (w3.alloc (.cells #[.slice px n cx, .slice py n cy] 23)) := (Below.refl _ _).alloc (Nat.le_refl _) _
  have HIA := hide (ints_two (w := w3) (m := w3.heap.size) rfl (HX2.out.below hb3) (HY2.out.below hb3))
  have HBA := hide hbA
  have HB23 := hide hb3
  clear hL hal hRw hb3 hbA HQs
  go_wp2_with fail
  refine (HMk2.out _ _ HIA.out).mono ?_
  rintro ex w4 ⟨u4, rfl, hG4, hb4⟩
  have HG4 := hide hG4
  obtain ⟨gb4, _, _, _, _, _, _, rfl, _⟩ := hG4
  have hb34 := HBA.out.trans (hb4.mono HBA.out.size)
  have hB4 := hB3.trans (hb34.mono hB3.size)
  have hb24 := HB23.out.trans (hb34.mono HB23.out.size)
  have HIO := hide (ints_one (w := w4) (m := w4.heap.size) rfl (HX2.out.below hb24))
  have HBO : Hid (Below w4.heap.size w4 (w4.alloc (.cells #[.slice px n cx] 23))) := (Below.refl _ _).alloc (Nat.le_refl _) _
  have HL4 := hide (HL.out.below hb34)
  have HB24 := hide hb24
  clear hb4 hb34 hb24 HIA HBA HB23 HL hB3 HMk2
  go_wp2_with fail
  refine (HMk1.out _ _ HIO.out).mono ?_
  rintro ex w5 ⟨u5, rfl, hG5, hb5⟩
  have HG5 := hide hG5
  obtain ⟨gb5, _, _, _, _, _, _, rfl, _⟩ := hG5
  have hb45 := HBO.out.trans (hb5.mono HBO.out.size)
  have hB5 := hB4.trans (hb45.mono hB4.size)
  have HB25 := hide (HB24.out.trans (hb45.mono HB24.out.size))
  have HGg := hide (HG4.out.below hb45 (Nat.le_refl _))
  have HL5 := hide (HL4.out.below hb45)
  clear hb5 hb45 HIO HBO HL4 HG4 hB4 HB24 HMk1
  generalize hN : X.length = N at *
  have HN := hide hN
  clear hN
  have HSum : Hid (∀ k (S : List Int), (qs X (pad xs) (pad ys))[k]? = some S → ((qs X (pad xs) (pad ys)).take (k + 1)).flatten.length = ((qs X (pad xs) (pad ys)).take k).flatten.length + S.length) := fun k S hS => by
    rw [List.take_add_one, hS, List.flatten_append, List.length_append]
    simp
  have HSle : Hid (∀ k, ((qs X (pad xs) (pad ys)).take k).flatten.length ≤ N) := fun k => by
    rw [← HQF.out]
    conv => rhs; rw [← List.take_append_drop k (qs X (pad xs) (pad ys)), List.flatten_append, List.length_append]
    omega
  go_wp2
  go_loopw [17, 18] (fun ss si wr => ∃ (k s : Nat), k ≤ al ∧ si = .int .i64 (k : Int) ∧ ss = .int .i64 (s : Int) ∧ Hid (s = ((qs X (pad xs) (pad ys)).take k).flatten.length) ∧ wr = w5) (fun _ si _ => al - (intOf si).toNat)
  case atStart => exact ⟨0, 0, Nat.zero_le _, rfl, rfl, rfl, rfl⟩
  case round =>
    obtain ⟨k, s, hk, rfl, rfl, hs, hww⟩ := hrel
    have hww' := hww.symm
    subst hww'
    clear hww
    by_cases hlt : k < al
    · obtain ⟨S, hS⟩ : ∃ S, (qs X (pad xs) (pad ys))[k]? = some S := ⟨_, List.getElem?_eq_getElem (by rw [← HAL.out]; exact hlt)⟩
      have hrr := HL5.out.row
      rw [HL5.out.len, ← HAL.out] at hrr
      obtain ⟨gl, cl, egl, hgl1, hgl2, hgl3, hgl4⟩ := owns_form hrr (by omega)
      injection egl with eg1 eg2 eg3
      subst eg1
      subst eg3
      obtain ⟨uS, hcS, hoS⟩ := word_at hrr HL5.out.all hS HAL.out.symm
      obtain ⟨pS, cS, epS⟩ := owns_slice hoS
      subst epS
      have hs2 : s + S.length = ((qs X (pad xs) (pad ys)).take (k + 1)).flatten.length := by rw [HSum.out k S hS, hs.out]
      have hsl := HSle.out (k + 1)
      rw [← hs2] at hsl
      have HS2 := hide hs2
      generalize S.length = sl at *
      clear hrr hoS hS hs hs2 eg2
      go_wp2
      go_roundw
      case rel =>
        first
          | exact ⟨k + 1, s + sl, hlt, by go_num, by go_num, HS2, rfl⟩
          | exact ⟨k + 1, s + sl, hlt, by go_num, by go_num, HS2, trivial⟩
      case measure => simp [intOf]; omega
    · obtain rfl : al = k := by omega
      have hsN : s = N := by rw [hs.out, HAL.out, List.take_length]; exact HQF.out
      clear hs
      subst hsN
      have HLd := hide (leadsOf_ok (.slice p raw.length c) raw al 2 w5 (HI.out.below hB5) HX.out (by omega) (by omega) (by omega))
      go_wp2_with fail
      refine HLd.out.mono ?_
      rintro ex w6 ⟨vl, ls, rfl, hown6, hls, hb6⟩
      have hlsl : ls.length = al := by have h9 := hown6.1; rw [List.length_map] at h9; omega
      have hB6 := hB5.trans (hb6.mono hB5.size)
      have hb26 := HB25.out.trans (hb6.mono HB25.out.size)
      have HR6 := hide (HRd.out w6 vl ls hb26 (Ints.own hown6))
      have HG6 := hide (HGg.out.below hb6 (Nat.le_refl _))
      have HH6 := hide (HG5.out.below hb6 (Nat.le_refl _))
      have HB26 := hide hb26
      have hE1 : rdE (qs X (pad xs) (pad ys)) ls = 0 := rdE_ok (by rw [hlsl]; exact HAL.out) (fun z hz => by have := hls z hz; omega)
      have HE1 := hide hE1
      have HK1 := hide (rdN_ok hE1)
      have hpos : 1 ≤ s := by rw [← HN.out]; exact HRw.out.pos
      have hal1 : 1 ≤ al := by
        rcases Nat.eq_zero_or_pos al with h0 | h0
        · have h9 := HQF.out
          rw [List.length_eq_zero_iff.1 (HAL.out.symm.trans h0)] at h9
          simp at h9
          omega
        · exact h0
      obtain ⟨pv, cv, epv⟩ := owns_slice hown6
      subst epv
      clear hown6 hb6 hb26 hB5 HB25 HGg HG5 HLd hlsl hls hE1
      go_wp2_with fail
      refine HR6.out.mono ?_
      rintro ex w7 ⟨X7, hRw7, rfl, hb7⟩
      have eX := hRw7.unique HRw.out
      subst eX
      rw [HE1.out]
      have hB7 := hB6.trans (hb7.mono hB6.size)
      have HB27 := hide (HB26.out.trans (hb7.mono HB26.out.size))
      have HG7 := hide (HG6.out.below hb7 (Nat.le_refl _))
      have HH7 := hide (HH6.out.below hb7 (Nat.le_refl _))
      have hK0 := HK1.out
      rw [HN.out] at hK0
      have hk1 : 1 ≤ rdN X7 (pad xs) (pad ys) ls := by
        rw [hK0]
        obtain ⟨s', hs'⟩ : ∃ s', s = s' + 1 := ⟨s - 1, by omega⟩
        rw [hs']; exact cycsTo_pos _ _
      have hk2 : rdN X7 (pad xs) (pad ys) ls ≤ s := by rw [hK0]; exact cycsTo_length _ _
      have HPar : Hid (∀ o, o % 2 = 1 → pwP (pad xs * (pad ys)⁻¹) o = 1 → rdN X7 (pad xs) (pad ys) ls % 2 = (cycsTo (mv X7 (pad xs)) X7.length).length % 2) := fun o ho hp => by rw [HK1.out]; exact rankin HRw.out (g2_left xs ys) (g2_right xs ys) ls ho hp
      have HE2 : Hid (rdE (qs X7 (pad xs) (pad ys)) (List.replicate al 0) = 0) := rdE_ok (by rw [List.length_replicate]; exact HAL.out) (fun z hz => by rw [List.eq_of_mem_replicate hz]; exact Or.inl rfl)
      have HK2 : Hid (rdN X7 (pad xs) (pad ys) (List.replicate al 0) = (cycsTo (mv X7 (pad xs)) X7.length).length) := by show _ = _; rw [rdN_ok HE2.out, nxL_zero]
      have hpc := plain_count HRw.out (g2_left xs ys)
      have hpl : (cycsTo (mv X7 (pad xs)) X7.length).length ≤ X7.length := cycsTo_length _ _
      have hszg : sz (Gen (fun y => y ∈ [xs, ys].map pad)) n = s := by rw [← HN.out]; exact (sz_is HRw.out.sub h12 HRw.out.fix HRw.out.nodup HRw.out.mem).symm
      have HSG := hide (gsize_ok n _ ([xs, ys].map pad) w7 h12 HG7.out)
      rw [hszg] at HSG
      rw [HN.out] at hpc hpl
      rw [HN.out] at HPar HK2
      generalize rdN X7 (pad xs) (pad ys) ls = kk at *
      have HSZ := hide hszg
      clear hRw7 hb7 hB6 HB26 HG6 HH6 HR6 HE1 HK1 hK0 hszg
      go_wp2_with (at_make; refine wpList_make_full _ rfl _ _ 23 rfl w7.heap.size 3 j0 (.int .i64 0) 1 Try.underlying23 hji hjz0 hjz1 _ _ _ _ al rfl rfl (by omega) (by omega) ?b2 ?b3 (Nat.le_refl _) ?_)
      case b2 => rw [hjz2]; omega
      case b3 => unfold maxLen; omega
      intro w8 hown8 hg8
      rw [made_ints] at hown8
      have hb8 : Below w7.heap.size w7 w8 := (Below.refl _ _).grown hg8 (Nat.le_refl _) (fun k h => by cases h)
      have hB8 := hB7.trans (hb8.mono hB7.size)
      have HB28 := hide (HB27.out.trans (hb8.mono HB27.out.size))
      have HG8 := hide (HG7.out.below hb8 (Nat.le_refl _))
      have HH8 := hide (HH7.out.below hb8 (Nat.le_refl _))
      have HR8 := hide (HRd.out w8 _ (List.replicate al 0) HB28.out (Ints.own hown8))
      clear hown8 hg8 hb8 hB7 HB27 HG7 HH7 HSG
      go_wp2_with fail
      refine HR8.out.mono ?_
      rintro ex w9 ⟨X9, hRw9, rfl, hb9⟩
      have eX := hRw9.unique HRw.out
      subst eX
      rw [HE2.out, HK2.out]
      have hB9 := hB8.trans (hb9.mono hB8.size)
      have HB29 := hide (HB28.out.trans (hb9.mono HB28.out.size))
      have HG9 := hide (HG8.out.below hb9 (Nat.le_refl _))
      have HH9 := hide (HH8.out.below hb9 (Nat.le_refl _))
      have HSG := hide (gsize_ok n _ ([xs, ys].map pad) w9 h12 HG9.out)
      rw [HSZ.out] at HSG
      have hpc' : (cycsTo (mv X9 (pad xs)) s).length * sz (Gen (fun y => y ∈ [xs].map pad)) n = s := hpc
      generalize hplv : (cycsTo (mv X9 (pad xs)) s).length = plv at *
      generalize hszx : sz (Gen (fun y => y ∈ [xs].map pad)) n = zx at *
      have HZX := hide hszx
      have hpcI : (plv : Int) * (zx : Int) = (s : Int) := by rw [← hpc']; simp
      have HPC := hide hpc'
      have hplv1 : plv ≤ 1000 := by omega
      have hzx1 : zx ≤ 1000 := by
        rcases Nat.eq_zero_or_pos plv with h0 | h0
        · rw [h0] at hpc'; omega
        · have : 1 * zx ≤ plv * zx := Nat.mul_le_mul h0 (Nat.le_refl _)
          omega
      have g1 : decide ((kk : Int) < 1) = false := decide_eq_false (by omega)
      have g2 : decide ((s : Int) < (kk : Int)) = false := decide_eq_false (by omega)
      clear hRw9 hb9 hB8 HB28 HG8 HH8 HR8 HE2 HK2 hpc hpc' hszx hplv
      go_wp2_with fail
      refine HSG.out.mono ?_
      rintro ex w10 ⟨rfl, hb10⟩
      have hB10 := hB9.trans (hb10.mono hB9.size)
      have HB210 := hide (HB29.out.trans (hb10.mono HB29.out.size))
      have HG10 := hide (HG9.out.below hb10 (Nat.le_refl _))
      have HH10 := hide (HH9.out.below hb10 (Nat.le_refl _))
      have HSH := hide (gsize_ok n _ ([xs].map pad) w10 h12 HH10.out)
      rw [HZX.out] at HSH
      clear hb10 hB9 HB29 HG9 HH9 HSG
      go_wp2_with fail
      refine HSH.out.mono ?_
      rintro ex w11 ⟨rfl, hb11⟩
      have hB11 := hB10.trans (hb11.mono hB10.size)
      have HB211 := hide (HB210.out.trans (hb11.mono HB210.out.size))
      have HG11 := hide (HG10.out.below hb11 (Nat.le_refl _))
      have HSG := hide (gsize_ok n _ ([xs, ys].map pad) w11 h12 HG11.out)
      rw [HSZ.out] at HSG
      clear hb11 hB10 HB210 HG10 HH10 HSH
      go_wp2_with fail
      refine HSG.out.mono ?_
      rintro ex w12 ⟨rfl, hb12⟩
      have hB12 := hB11.trans (hb12.mono hB11.size)
      have HB212 := hide (HB211.out.trans (hb12.mono HB211.out.size))
      have hfx := pad_fixes h12 HXR.out.2 HXR.out.1
      have hfy := pad_fixes h12 HYR.out.2 HYR.out.1
      have HUn := hide (rcut_undo n (pad ys) (.slice py n cy) w12 h1 h12 hfy (by rw [cut_pad h12 HYR.out.2 HYR.out.1]; exact HY2.out.below HB212.out))
      have HFX := hide hfx
      have HFY := hide hfy
      clear hb12 hB11 HB211 HG11 HSG hfx hfy
      go_wp2_with fail
      refine HUn.out.mono ?_
      rintro ex w13 ⟨u13, rfl, hown13, hb13⟩
      have hB13 := hB12.trans (hb13.mono hB12.size)
      have HB213 := hide (HB212.out.trans (hb13.mono HB212.out.size))
      have HBy := hide (rcut_by n (pad xs) (pad ys)⁻¹ (.slice px n cx) u13 w13 h1 h12 HFX.out ((fixes_sub _).inv HFY.out) (by rw [cut_pad h12 HXR.out.2 HXR.out.1]; exact HX2.out.below HB213.out) (Ints.own hown13))
      obtain ⟨p13, c13, e13⟩ := owns_slice hown13
      subst e13
      clear hown13 hb13 hB12 HB212 HUn
      go_wp2_with fail
      refine HBy.out.mono ?_
      rintro ex w14 ⟨u14, rfl, hown14, hb14⟩
      have hB14 := hB13.trans (hb14.mono hB13.size)
      have hfp : Fixes (fun b => n ≤ b) (pad xs * (pad ys)⁻¹) := (fixes_sub _).mul HFX.out ((fixes_sub _).inv HFY.out)
      have HOr := hide (order_ord h1 h12 (show RowAt w14 u14 n (cut n (pad xs * (pad ys)⁻¹)) from ⟨Ints.own hown14, cut_row h12 hfp, cut_length h12 _⟩))
      have HPO := hide (pwP_ord h12 hfp)
      obtain ⟨p14, c14, e14⟩ := owns_slice hown14
      subst e14
      clear hown14 hb14 hB13 HB213 HBy hfp
      go_wp2_with fail
      refine HOr.out.mono ?_
      rintro ex w15 ⟨rfl, ho1, ho2, hb15⟩
      have HB15 := hide (hB14.trans (hb15.mono hB14.size))
      have hpar : ord (cut n (pad xs * (pad ys)⁻¹)) % 2 = 1 → kk % 2 = plv % 2 := fun ho => HPar.out _ ho HPO.out
      generalize ord (cut n (pad xs * (pad ys)⁻¹)) = o at *
      generalize odd (cut n (pad xs * (pad ys)⁻¹)) = od at *
      have m1 : (o : Int).tmod 2 = ((o % 2 : Nat) : Int) := rfl
      have m2 : (kk : Int).tmod 2 = ((kk % 2 : Nat) : Int) := rfl
      have m3 : (plv : Int).tmod 2 = ((plv % 2 : Nat) : Int) := rfl
      rcases Nat.mod_two_eq_zero_or_one o with ho | ho
      · rw [ho] at m1
        have m1' : (o : Int).tmod 2 = 0 := m1
        clear m1 m2 m3 hpar hb15 HOr
        go_wp2
        go_ret
        exact ⟨rfl, HB15.out⟩
      · rw [ho] at m1
        have m1' : (o : Int).tmod 2 = 1 := m1
        have hpp := hpar ho
        rw [hpp] at m2
        generalize plv % 2 = r2 at *
        clear m1 hpar hb15 HOr hpp
        go_wp2
        go_ret
        exact ⟨rfl, HB15.out⟩

theorem topRankin_walk (v : Value) (xs : List Int) (a1 a2 a3 : Int) (w : World) (h : Ints w v xs) (hx : ∀ x, x ∈ xs → I64 x) (i1 : I64 a1) (i2 : I64 a2) (i3 : I64 a3) :
    Calls Try.prog 13 #[v, .int .i64 a1, .int .i64 a2, .int .i64 a3] w fun e w' => e = .returned (.bool true) ∧ Below w.heap.size w w' := by
  by_cases hl : 256 < xs.length
  · exact trankin_long v xs a1 a2 a3 w h hl
  · exact trankin_ok v xs a1 a2 a3 w h hx (by omega) i1 i2 i3

end Go.Proofs.Ytimfoggjocajiaa

/- ExtentSays: rows of one length. -/
namespace Go.Proofs.Ytimfoggjocajiaa
open Go.RowKit
set_option linter.unusedVariables false

set_option maxRecDepth 20000 in
set_option maxHeartbeats 8000000 in
theorem extentSays_mid (n zs : Nat) (v1 v2 v3 : Value) (xs ys cs : List Int) (w : World) (h1 : Ints w v1 xs) (h2 : Ints w v2 ys) (h3 : Ints w v3 cs) (hn1 : 1 ≤ n) (h12 : n ≤ 12) (hl : xs.length = n) (hR : RowsN n [xs, ys]) (hz : sz (G2 xs ys) n = zs) (hm1 : 200 < zs) (hm2 : zs < 5041) :
    Calls Try.prog 8 #[v1, v2, v3] w fun e w' => Told w e w' := by
  have hgz := gchk_rows hn1 h12 hR
  have HM : Hid (∀ W v, IntsAll W v [xs, ys] → Calls Try.prog 15 #[.int .i64 (n : Int), v] W fun e w' => e = .returned (.int .i64 0) ∧ W = w') := fun W v hv => by have := gensMay_ok n v [xs, ys] W hv hn1 h12 (by simp); rwa [hgz] at this
  have HSz : Hid (∀ W v, IntsAll W v [xs, ys] → Calls Try.prog 17 #[.int .i64 (n : Int), v] W fun e w' => e = .returned (.int .i64 (zs : Int)) ∧ Below W.heap.size W w') := fun W v hv => by
    have := sizes_ok n v [xs, ys] W hv hR hn1 h12 (by simp)
    rw [show sz (Gen (fun y => y ∈ [xs, ys].map pad)) n = zs from hz] at this
    exact this
  have H1 := hide h1
  have H2 := hide h2
  have H3 := hide h3
  have HI0 := hide (ints_two (w := w) (m := w.heap.size) rfl h1 h2)
  have hyl := (hR ys (by simp)).2
  obtain ⟨p1, c1, e1⟩ := h1.form
  obtain ⟨p2, c2, e2⟩ := h2.form
  obtain ⟨p3, c3, e3⟩ := h3.form
  rw [hl] at e1
  rw [hyl] at e2
  subst e1
  subst e2
  subst e3
  generalize hcl9 : cs.length = cl at *
  have HCLN := hide hcl9
  have HB0 : Hid (Below w.heap.size w (w.alloc (.cells #[.slice p1 n c1, .slice p2 n c2] 23))) := (Below.refl _ _).alloc (Nat.le_refl _) _
  clear h1 h2 h3 hgz hyl hl hR hz hcl9
  go_enter Try.func8, Try.ntmps8
  go_wp2_with fail
  refine (HM.out _ _ HI0.out).mono ?_
  rintro ex w1 ⟨rfl, hw1⟩
  have HB1 : Hid (Below w.heap.size w w1) := by rw [← hw1]; exact HB0.out
  have HI1 := hide (ints_two (w := w1) (m := w1.heap.size) rfl (H1.out.below HB1.out) (H2.out.below HB1.out))
  have HB1' : Hid (Below w1.heap.size w1 (w1.alloc (.cells #[.slice p1 n c1, .slice p2 n c2] 23))) := (Below.refl _ _).alloc (Nat.le_refl _) _
  clear hw1 HM HI0 HB0
  have g1 : (200 : Int) < (zs : Int) := by omega
  have g2 : (zs : Int) < 5041 := by omega
  go_wp2_with fail
  refine (HSz.out _ _ HI1.out).mono ?_
  rintro ex w2 ⟨rfl, hb2⟩
  have hb12 := HB1'.out.trans (hb2.mono HB1'.out.size)
  have HB2 := hide (HB1.out.trans (hb12.mono HB1.out.size))
  clear hb2 hb12 HB1 HB1' HI1 HSz
  go_wp2
  go_ret
  exact ⟨rfl, HB2.out⟩

set_option maxRecDepth 20000 in
set_option maxHeartbeats 8000000 in
theorem extentSays_lim (n zs : Nat) (v1 v2 v3 : Value) (xs ys cs : List Int) (w : World) (h1 : Ints w v1 xs) (h2 : Ints w v2 ys) (h3 : Ints w v3 cs) (hn1 : 1 ≤ n) (h12 : n ≤ 12) (hl : xs.length = n) (hR : RowsN n [xs, ys]) (hz : sz (G2 xs ys) n = zs) (hm1 : 5040 < zs) :
    Calls Try.prog 8 #[v1, v2, v3] w fun e w' => Told w e w' := by
  have hgz := gchk_rows hn1 h12 hR
  have HM : Hid (∀ W v, IntsAll W v [xs, ys] → Calls Try.prog 15 #[.int .i64 (n : Int), v] W fun e w' => e = .returned (.int .i64 0) ∧ W = w') := fun W v hv => by have := gensMay_ok n v [xs, ys] W hv hn1 h12 (by simp); rwa [hgz] at this
  have HSz : Hid (∀ W v, IntsAll W v [xs, ys] → Calls Try.prog 17 #[.int .i64 (n : Int), v] W fun e w' => e = .returned (.int .i64 (zs : Int)) ∧ Below W.heap.size W w') := fun W v hv => by
    have := sizes_ok n v [xs, ys] W hv hR hn1 h12 (by simp)
    rw [show sz (Gen (fun y => y ∈ [xs, ys].map pad)) n = zs from hz] at this
    exact this
  have H1 := hide h1
  have H2 := hide h2
  have H3 := hide h3
  have HEx : Hid (∀ W, Below w.heap.size w W → Calls Try.prog 94 #[v1, v2] W fun e w' => ExNo 3 W e w') := fun W hW => exits_lim n v1 v2 xs ys W (h1.below hW) (h2.below hW) hn1 h12 hl hR (by rw [hz]; exact hm1)
  have HQ : Hid (∀ W, Below w.heap.size w W → Calls Try.prog 48 #[v1, v2] W fun e w' => QNo 3 W e w') := fun W hW => qsets_no v1 v2 3 W (by decide) (HEx.out W hW)
  have HRd : Hid (∀ W, Below w.heap.size w W → Calls Try.prog 49 #[v1, v2, v3] W fun e w' => e = .returned (.tuple #[.int .i64 0, .int .i64 3]) ∧ Below W.heap.size W w') := fun W hW => rounds_no v1 v2 v3 3 W (by decide) (HEx.out W hW)
  have HI0 := hide (ints_two (w := w) (m := w.heap.size) rfl h1 h2)
  have hyl := (hR ys (by simp)).2
  obtain ⟨p1, c1, e1⟩ := h1.form
  obtain ⟨p2, c2, e2⟩ := h2.form
  obtain ⟨p3, c3, e3⟩ := h3.form
  rw [hl] at e1
  rw [hyl] at e2
  subst e1
  subst e2
  subst e3
  generalize hcl9 : cs.length = cl at *
  have HCLN := hide hcl9
  have HB0 : Hid (Below w.heap.size w (w.alloc (.cells #[.slice p1 n c1, .slice p2 n c2] 23))) := (Below.refl _ _).alloc (Nat.le_refl _) _
  clear h1 h2 h3 hgz hyl hl hR hz hcl9
  go_enter Try.func8, Try.ntmps8
  go_wp2_with fail
  refine (HM.out _ _ HI0.out).mono ?_
  rintro ex w1 ⟨rfl, hw1⟩
  have HB1 : Hid (Below w.heap.size w w1) := by rw [← hw1]; exact HB0.out
  have HI1 := hide (ints_two (w := w1) (m := w1.heap.size) rfl (H1.out.below HB1.out) (H2.out.below HB1.out))
  have HB1' : Hid (Below w1.heap.size w1 (w1.alloc (.cells #[.slice p1 n c1, .slice p2 n c2] 23))) := (Below.refl _ _).alloc (Nat.le_refl _) _
  clear hw1 HM HI0 HB0
  have g1 : decide ((200 : Int) < (zs : Int)) = true := decide_eq_true (by omega)
  have g2 : decide ((zs : Int) < 5041) = false := decide_eq_false (by omega)
  have g3 : decide ((5040 : Int) < (zs : Int)) = true := decide_eq_true (by omega)
  clear hm1
  go_wp2_with fail
  refine (HSz.out _ _ HI1.out).mono ?_
  rintro ex w2 ⟨rfl, hb2⟩
  have hb12 := HB1'.out.trans (hb2.mono HB1'.out.size)
  have HB2 := hide (HB1.out.trans (hb12.mono HB1.out.size))
  clear hb2 hb12 HB1 HB1' HI1 HSz
  go_wp2_with fail
  refine (HQ.out w2 HB2.out).mono ?_
  rintro ex w3 ⟨rfl, hb3⟩
  have HB3 := hide (HB2.out.trans (hb3.mono HB2.out.size))
  clear hb3 HB2
  go_wp2_with fail
  refine (HRd.out w3 HB3.out).mono ?_
  rintro ex w4 ⟨rfl, hb4⟩
  have HB4 := hide (HB3.out.trans (hb4.mono HB3.out.size))
  clear hb4 HB3
  go_wp2
  go_ret
  exact ⟨rfl, HB4.out⟩

set_option maxRecDepth 20000 in
set_option maxHeartbeats 8000000 in
theorem extentSays_ok (n zs : Nat) (v1 v2 v3 : Value) (xs ys cs : List Int) (w : World) (h1 : Ints w v1 xs) (h2 : Ints w v2 ys) (h3 : Ints w v3 cs) (hn1 : 1 ≤ n) (h12 : n ≤ 12) (hl : xs.length = n) (hR : RowsN n [xs, ys]) (hz : sz (G2 xs ys) n = zs) (hm1 : zs ≤ 200) :
    Calls Try.prog 8 #[v1, v2, v3] w fun e w' => Told w e w' := by
  have hgz := gchk_rows hn1 h12 hR
  have HM : Hid (∀ W v, IntsAll W v [xs, ys] → Calls Try.prog 15 #[.int .i64 (n : Int), v] W fun e w' => e = .returned (.int .i64 0) ∧ W = w') := fun W v hv => by have := gensMay_ok n v [xs, ys] W hv hn1 h12 (by simp); rwa [hgz] at this
  have HSz : Hid (∀ W v, IntsAll W v [xs, ys] → Calls Try.prog 17 #[.int .i64 (n : Int), v] W fun e w' => e = .returned (.int .i64 (zs : Int)) ∧ Below W.heap.size W w') := fun W v hv => by
    have := sizes_ok n v [xs, ys] W hv hR hn1 h12 (by simp)
    rw [show sz (Gen (fun y => y ∈ [xs, ys].map pad)) n = zs from hz] at this
    exact this
  have H1 := hide h1
  have H2 := hide h2
  have H3 := hide h3
  have HQ : Hid (∀ W, Below w.heap.size w W → Calls Try.prog 48 #[v1, v2] W fun e w' => QPost n xs ys W e w') := fun W hW => qsets_ok n v1 v2 xs ys W (h1.below hW) (h2.below hW) hn1 h12 hl hR (by rw [hz]; omega)
  have HRd : Hid (∀ W, Below w.heap.size w W → Calls Try.prog 49 #[v1, v2, v3] W fun e w' => RoundsPost n xs ys cs W e w') := fun W hW => rounds2_ok n v1 v2 v3 xs ys cs W (h1.below hW) (h2.below hW) (h3.below hW) hn1 h12 hl hR (by rw [hz]; omega)
  have HCd : Hid (∀ W v, IntsAll W v [xs, ys] → Calls Try.prog 31 #[.int .i64 (n : Int), v, .int .i64 5040] W fun e w' => ClosedPost n [xs, ys] 5040 W e w') := fun W v hv => closed_ok n 5040 v [xs, ys] W hv hR hn1 h12 (by simp) (by omega) (by omega)
  have HRN := hide hR
  have HZ := hide hz
  have HCX : Hid (cut n (pad xs) = xs) := cut_pad h12 hl (hR xs (by simp)).1
  have HCY : Hid (cut n (pad ys) = ys) := cut_pad h12 (hR ys (by simp)).2 (hR ys (by simp)).1
  have HI0 := hide (ints_two (w := w) (m := w.heap.size) rfl h1 h2)
  have hyl := (hR ys (by simp)).2
  obtain ⟨p1, c1, e1⟩ := h1.form
  obtain ⟨p2, c2, e2⟩ := h2.form
  obtain ⟨p3, c3, e3⟩ := h3.form
  rw [hl] at e1
  rw [hyl] at e2
  subst e1
  subst e2
  subst e3
  generalize hcl9 : cs.length = cl at *
  have HCLN := hide hcl9
  have HB0 : Hid (Below w.heap.size w (w.alloc (.cells #[.slice p1 n c1, .slice p2 n c2] 23))) := (Below.refl _ _).alloc (Nat.le_refl _) _
  clear h1 h2 h3 hgz hyl hl hR hz hcl9
  go_enter Try.func8, Try.ntmps8
  go_wp2_with fail
  refine (HM.out _ _ HI0.out).mono ?_
  rintro ex w1 ⟨rfl, hw1⟩
  have HB1 : Hid (Below w.heap.size w w1) := by rw [← hw1]; exact HB0.out
  have HI1 := hide (ints_two (w := w1) (m := w1.heap.size) rfl (H1.out.below HB1.out) (H2.out.below HB1.out))
  have HB1' : Hid (Below w1.heap.size w1 (w1.alloc (.cells #[.slice p1 n c1, .slice p2 n c2] 23))) := (Below.refl _ _).alloc (Nat.le_refl _) _
  clear hw1 HM HI0 HB0
  have g1 : ¬ (200 : Int) < (zs : Int) := by omega
  have g3 : ¬ (5040 : Int) < (zs : Int) := by omega
  go_wp2_with fail
  refine (HSz.out _ _ HI1.out).mono ?_
  rintro ex w2 ⟨rfl, hb2⟩
  have hb12 := HB1'.out.trans (hb2.mono HB1'.out.size)
  have HB2 := hide (HB1.out.trans (hb12.mono HB1.out.size))
  clear hb2 hb12 HB1 HB1' HI1 HSz
  have HI2 := hide (ints_two (w := w2) (m := w2.heap.size) rfl (H1.out.below HB2.out) (H2.out.below HB2.out))
  have HB2' : Hid (Below w2.heap.size w2 (w2.alloc (.cells #[.slice p1 n c1, .slice p2 n c2] 23))) := (Below.refl _ _).alloc (Nat.le_refl _) _
  go_wp2_with fail
  refine (HCd.out _ _ HI2.out).mono ?_
  rintro ex w3 ⟨hb3, hcl⟩
  rcases hcl with ⟨vr, vw, Sr, rfl, hIr, hIw, hrun, hSl⟩ | ⟨rfl, Sr, hrok, hlong⟩
  rotate_left
  · exact absurd (found_few h12 HRN.out hrok) (by have h9 : sz (Gen (fun y => y ∈ [xs, ys].map pad)) n = zs := HZ.out; rw [h9]; omega)
  have hb23 := HB2'.out.trans (hb3.mono HB2'.out.size)
  have HB3 := hide (HB2.out.trans (hb23.mono HB2.out.size))
  have HFd := hide (Found.of h12 HRN.out hrun)
  have hSl2 : Sr.length ≤ 1000000 := by omega
  have HOr := hide (rordered_all vr (Sr.map (fun e => cut n e.1)) w3 hIr (by rw [List.length_map]; exact hSl2) (fun r hr => by obtain ⟨y, _, rfl⟩ := List.mem_map.1 hr; rw [cut_length h12]; omega))
  clear hIr hIw hrun hb3 hb23 HI2 HB2' HB2 HCd hSl
  go_wp2_with fail
  refine HOr.out.mono ?_
  rintro ex w4 ⟨u4, Y, rfl, hIY, hperm, hris, hb4⟩
  have HB4 := hide (HB3.out.trans (hb4.mono HB3.out.size))
  have HIY := hide hIY
  have HPM := hide hperm
  have HRS := hide hris
  clear hIY hperm hris hb4 HB3 HOr
  go_wp2_with fail
  refine (HQ.out w4 HB4.out).mono ?_
  rintro ex w5 ⟨ul, us, X, rfl, hRw, hL, hb5⟩
  have hXY : X.map (cut n) = Y := group_ordered (S := Sr.map (·.1)) h12 (fun x hx => hRw.fix x ((hRw.mem x).1 hx)) hRw.nodup hRw.sorted HFd.out.nodup (fun x => (hRw.mem x).trans (HFd.out.mem x).symm) (by rw [List.map_map]; rfl) HPM.out HRS.out
  have HB5 := hide (HB4.out.trans (hb5.mono HB4.out.size))
  have HIX5 : Hid (IntsAll w5 u4 (X.map (cut n))) := by rw [hXY]; exact HIY.out.below hb5
  have HL5 := hide hL.ints
  have HRw := hide hRw
  obtain ⟨pl, ql, el⟩ := hL.ints.len
  subst el
  clear hRw hL hb5 hXY HIY HPM HRS HB4 HFd
  go_wp2_with fail
  refine (HRd.out w5 HB5.out).mono ?_
  rintro ex w6 ⟨X6, hRw6, rfl, hb6⟩
  have eX := hRw6.unique HRw.out
  subst eX
  have HB6 := hide (HB5.out.trans (hb6.mono HB5.out.size))
  have HIX6 := hide (HIX5.out.below hb6)
  have HL6 := hide (HL5.out.below hb6)
  have HRQ := hide (rqsets_ok n (G2 xs ys) X6 (pad xs) (pad ys) u4 (.slice p1 n c1) (.slice p2 n c2) w6 HRw.out (g2_left xs ys) (g2_right xs ys) HIX6.out (by rw [HCX.out]; exact H1.out.below HB6.out) (by rw [HCY.out]; exact H2.out.below HB6.out))
  clear hRw6 hb6 HIX5 HL5 HB5
  go_wp2_with fail
  refine HRQ.out.mono ?_
  rintro ex w7 ⟨u7, rfl, hI7, hb7⟩
  have HB7 := hide (HB6.out.trans (hb7.mono HB6.out.size))
  have HIX7 := hide (HIX6.out.below hb7)
  have HSA := hide (sameAll_any _ u7 _ _ w7 (HL6.out.below hb7) hI7)
  rw [decide_eq_true rfl] at HSA
  obtain ⟨p7, c7, e7⟩ := hI7.len
  subst e7
  clear hI7 hb7 HIX6 HL6 HB6 HRQ
  generalize hql : (qs X6 (pad xs) (pad ys)).length = ql6 at *
  have HQL := hide hql
  go_wp2_with fail
  refine HSA.out.mono ?_
  rintro ex w8 ⟨rfl, hb8⟩
  have HB8 := hide (HB7.out.trans (hb8.mono HB7.out.size))
  have HIX8 := hide (HIX7.out.below hb8)
  clear hb8 HIX7 HB7 HSA hql
  by_cases hcl : cl = ql6
  · subst hcl
    go_wp2
    go_loopw [15] (fun si wr => ∃ k : Nat, k ≤ cl ∧ si = .int .i64 (k : Int) ∧ Hid (∀ i, i < k → cs.getD i 0 = 0 ∨ cs.getD i 0 = 1) ∧ Below w8.heap.size w8 wr) (fun si _ => cl - (intOf si).toNat)
    case atStart => exact ⟨0, Nat.zero_le _, rfl, fun i hi => absurd hi (by omega), Below.refl _ _⟩
    case round =>
      obtain ⟨k, hk, rfl, hgd, hbk⟩ := hrel
      have hBk := HB8.out.trans (hbk.mono HB8.out.size)
      by_cases hlt : k < cl
      · obtain ⟨bc, oc, epc, kc1, kc2, kc3, kc4⟩ := H3.out.open (by rw [HCLN.out]; omega)
        rw [HCLN.out] at kc1 kc4
        subst epc
        have hcc := (hBk.cell (p := ⟨bc, oc + k, none⟩) kc3).trans (kc4 k hlt)
        have HCM : Hid (cs.getD k 0 ∈ cs) := by
          have h9 : k < cs.length := by rw [HCLN.out]; exact hlt
          rw [List.getD, List.getElem?_eq_getElem h9]
          exact List.getElem_mem h9
        obtain ⟨c, hcv⟩ : ∃ c, c = cs.getD k 0 := ⟨_, rfl⟩
        have HCV := hide hcv
        rw [← hcv] at hcc
        clear kc4 hcv
        by_cases hgood : c = 0 ∨ c = 1
        · have g1 : decide (c < 0) = false := decide_eq_false (by omega)
          have g2 : decide (1 < c) = false := decide_eq_false (by omega)
          have HGD : Hid (∀ i, i < k + 1 → cs.getD i 0 = 0 ∨ cs.getD i 0 = 1) := fun i hi => by
            by_cases e : i = k
            · subst e; rw [← HCV.out]; exact hgood
            · exact hgd.out i (by omega)
          clear hgd hgood
          go_wp2
          go_roundw
          case rel => exact ⟨k + 1, hlt, by go_num, HGD, hbk⟩
          case measure => simp [intOf]; omega
        · have e1 := rdE_value (A := qs X6 (pad xs) (pad ys)) (cs := cs) (by rw [HQL.out]; exact HCLN.out) HCM.out (by rw [← HCV.out]; omega) (by rw [← HCV.out]; omega)
          have e2 : rdN X6 (pad xs) (pad ys) cs = 0 := by unfold rdN; rw [e1, if_neg (by decide)]
          rw [e1, e2]
          have HBK := hide hBk
          have hcase : c < 0 ∨ (¬ c < 0 ∧ 1 < c) := by omega
          clear e1 e2 hgd hbk hBk
          rcases hcase with g1 | ⟨g1, g2⟩ <;>
          · clear hgood
            go_wp2
            go_ret
            exact ⟨rfl, HBK.out⟩
      · obtain rfl : cl = k := by omega
        have hgd2 : ∀ c, c ∈ cs → c = 0 ∨ c = 1 := fun c hc => by
          obtain ⟨i, hi, e⟩ := List.getElem_of_mem hc
          have h9 := hgd.out i (by rw [← HCLN.out]; exact hi)
          rw [List.getD, List.getElem?_eq_getElem hi, e] at h9
          exact h9
        have e1 := rdE_ok (A := qs X6 (pad xs) (pad ys)) (cs := cs) (by rw [HQL.out]; exact HCLN.out) hgd2
        have e2 := rdN_ok e1
        rw [e1, e2]
        have HCi := hide (rcirc_ok n (G2 xs ys) X6 (pad xs) (pad ys) u4 (.slice p1 n c1) (.slice p2 n c2) (.slice p3 cl c3) cs wr HRw.out (g2_left xs ys) (g2_right xs ys) (HIX8.out.below hbk) (by rw [HCX.out]; exact H1.out.below hBk) (by rw [HCY.out]; exact H2.out.below hBk) (H3.out.below hBk) (by rw [HQL.out]; exact HCLN.out))
        have HBK := hide hBk
        generalize (cycsTo (nxL X6 (pad xs) (pad ys) (qs X6 (pad xs) (pad ys)) cs) X6.length).length = RR at *
        clear e1 e2 hgd2 hgd hbk hBk
        go_wp2_with fail
        refine HCi.out.mono ?_
        rintro ex w9 ⟨rfl, hb9⟩
        have HB9 := hide (HBK.out.trans (hb9.mono HBK.out.size))
        clear hb9 HCi
        go_wp2
        go_ret
        exact ⟨rfl, HB9.out⟩
  · have e1 := rdE_count (A := qs X6 (pad xs) (pad ys)) (cs := cs) (by rw [HQL.out, HCLN.out]; exact hcl)
    have e2 : rdN X6 (pad xs) (pad ys) cs = 0 := by unfold rdN; rw [e1, if_neg (by decide)]
    rw [e1, e2]
    have hne : ((cl : Int) != (ql6 : Int)) = true := by rw [bne_iff_ne]; omega
    clear e1 e2
    clear hcl
    go_wp2
    go_ret
    exact ⟨rfl, HB8.out⟩

theorem extentSays_walk (v1 : Value) (xs : List Int) (v2 : Value) (ys : List Int) (v3 : Value) (cs : List Int) (w : World) (h1 : Ints w v1 xs) (_ : ∀ x, x ∈ xs → I64 x) (h2 : Ints w v2 ys) (_ : ∀ x, x ∈ ys → I64 x) (h3 : Ints w v3 cs) (_ : ∀ x, x ∈ cs → I64 x) :
    Calls Try.prog 8 #[v1, v2, v3] w fun e w' => e = .returned (.bool true) ∧ Below w.heap.size w w' := by
  by_cases hb : xs.length < 1 ∨ 12 < xs.length
  · have hb' : ((xs.length : Nat) : Int) < 1 ∨ 12 < ((xs.length : Nat) : Int) ∨ 8 < [xs, ys].length := by omega
    refine extentSays_no v1 v2 v3 xs ys 1 w h1 h2 (by decide) (fun W v hv => ?_) (fun W v hv => gensMay_bad _ v [xs, ys] W hv hb')
    refine (gcheck_bad _ v [xs, ys] W hv hb').mono ?_
    rintro e w'' ⟨rfl, rfl⟩
    exact ⟨rfl, Below.refl _ _⟩
  · have hn1 : 1 ≤ xs.length := by omega
    have h12 : xs.length ≤ 12 := by omega
    by_cases hz : gchk xs.length [xs, ys] = 0
    · have hR := gchk_back hz
      by_cases hm1 : sz (G2 xs ys) xs.length ≤ 200
      · exact extentSays_ok xs.length _ v1 v2 v3 xs ys cs w h1 h2 h3 hn1 h12 rfl hR rfl hm1
      · by_cases hm2 : sz (G2 xs ys) xs.length < 5041
        · exact extentSays_mid xs.length _ v1 v2 v3 xs ys cs w h1 h2 h3 hn1 h12 rfl hR rfl (by omega) hm2
        · exact extentSays_lim xs.length _ v1 v2 v3 xs ys cs w h1 h2 h3 hn1 h12 rfl hR rfl (by omega)
    · exact extentSays_no v1 v2 v3 xs ys _ w h1 h2 hz (fun W v hv => gcheck_ok _ v [xs, ys] W hv hn1 h12 (by simp)) (fun W v hv => gensMay_ok _ v [xs, ys] W hv hn1 h12 (by simp))

end Go.Proofs.Ytimfoggjocajiaa

/- ExtentMade answers true at every input. -/
namespace Go.Proofs.Ytimfoggjocajiaa
open Go.RowKit

theorem rws_of {n : Nat} {xs ys : List Int} {S : List (Pm × List Int)} {Y : List (List Int)} (hn1 : 1 ≤ n) (h12 : n ≤ 12) (hR : RowsN n [xs, ys]) (hF : Found n [xs, ys] S) (hp : Y.Perm (S.map (fun e => cut n e.1))) (hr : Ris Y) (hs : S.length ≤ 1000) : Rws n (G2 xs ys) (Y.map pad) ∧ (Y.map pad).map (cut n) = Y := by
  have hY : ∀ y, y ∈ Y → ∃ x, x ∈ S.map (·.1) ∧ y = cut n x := fun y hy => by
    obtain ⟨e, he, rfl⟩ := List.mem_map.1 (hp.mem_iff.1 hy)
    exact ⟨e.1, List.mem_map.2 ⟨e, he, rfl⟩, rfl⟩
  have hpc : ∀ y, y ∈ Y → ∃ x, x ∈ S.map (·.1) ∧ pad y = x ∧ y = cut n x := fun y hy => by
    obtain ⟨x, hx, rfl⟩ := hY y hy
    exact ⟨x, hx, pad_cut h12 (hF.fix x hx), rfl⟩
  have hback : (Y.map pad).map (cut n) = Y := by
    rw [List.map_map]
    conv => rhs; rw [← List.map_id Y]
    exact List.map_congr_left (fun y hy => by
      obtain ⟨x, hx, e1, e2⟩ := hpc y hy
      show cut n (pad y) = y
      rw [e1, ← e2])
  have hnd : Y.Nodup := hp.nodup_iff.2 (by
    have h9 := nodup_cut h12 (S.map (·.1)) hF.fix hF.nodup
    rw [List.map_map] at h9
    exact h9)
  refine ⟨⟨hn1, h12, Gen.sub _, fun x hx => gens_fix h12 hR hx, ?_, fun x => ?_, ?_, by rw [List.length_map, hp.length_eq, List.length_map]; exact hs⟩, hback⟩
  · rw [List.Nodup, List.pairwise_map]
    refine List.Pairwise.imp_of_mem (fun {a b} ha hb h e => h ?_) hnd
    obtain ⟨x, hx, e1, e2⟩ := hpc a ha
    obtain ⟨y, hy, e3, e4⟩ := hpc b hb
    rw [e1, e3] at e
    rw [e2, e4, e]
  · rw [List.mem_map]
    constructor
    · rintro ⟨y, hy, rfl⟩
      obtain ⟨x, hx, e1, e2⟩ := hpc y hy
      rw [e1]; exact (hF.mem x).1 hx
    · intro hx
      have hx' := (hF.mem x).2 hx
      obtain ⟨e, he, rfl⟩ := List.mem_map.1 hx'
      exact ⟨cut n e.1, hp.mem_iff.2 (List.mem_map.2 ⟨e, he, rfl⟩), pad_cut h12 (hF.fix _ hx')⟩
  · rw [List.pairwise_map]
    refine List.Pairwise.imp_of_mem (fun {a b} ha hb h => ?_) hr
    obtain ⟨x, hx, e1, e2⟩ := hpc a ha
    obtain ⟨y, hy, e3, e4⟩ := hpc b hb
    rw [e1, e3, cut_lcmp h12 (hF.fix y hy) (hF.fix x hx), ← e2, ← e4]
    rw [blw_lcmp] at h
    have := of_decide_eq_false h
    omega

set_option maxRecDepth 20000 in
theorem extentMade_long (v : Value) (xs : List Int) (a1 a2 a3 : Int) (w : World) (h : Ints w v xs) (hl : 256 < xs.length) :
    Calls Try.prog 9 #[v, .int .i64 a1, .int .i64 a2, .int .i64 a3] w fun e w' => Told w e w' := by
  obtain ⟨p, c, rfl⟩ := h.form
  have hl' : (256 : Int) < (xs.length : Int) := by omega
  clear h
  go_enter Try.func9, Try.ntmps9
  go_wp2
  go_ret
  exact ⟨rfl, Below.refl _ _⟩

set_option maxRecDepth 20000 in
set_option maxHeartbeats 8000000 in
theorem extentMade_ok (v : Value) (raw : List Int) (a1 a2 a3 : Int) (w : World) (h : Ints w v raw) (hx : ∀ x, x ∈ raw → I64 x) (hl : raw.length ≤ 256) (i1 : I64 a1) (i2 : I64 a2) (i3 : I64 a3) :
    Calls Try.prog 9 #[v, .int .i64 a1, .int .i64 a2, .int .i64 a3] w fun e w' => Told w e w' := by
  have HI := hide h
  have HX := hide hx
  have HI2 := hide i2
  have HI3 := hide i3
  obtain ⟨p, c, rfl⟩ := h.form
  obtain ⟨l1, r1⟩ := i1
  have hl' : ¬ ((256 : Int) < (raw.length : Int)) := by omega
  clear h hx i2 i3
  go_enter Try.func9, Try.ntmps9
  go_wp2_with fail
  refine (pick_any a1 5 _ l1 r1 (by omega) (by omega)).mono ?_
  rintro ex wp ⟨k1, k1a, k1b, rfl, rfl⟩
  obtain ⟨n0, rfl⟩ := Int.eq_ofNat_of_zero_le k1a
  obtain ⟨n, hn⟩ : ∃ n : Nat, n = n0 + 1 := ⟨_, rfl⟩
  have hnI : (1 : Int) + (n0 : Int) = (n : Int) := by omega
  have h1 : 1 ≤ n := by omega
  have h5 : n ≤ 5 := by omega
  have h12 : n ≤ 12 := by omega
  have HR1 := hide (rowOf_ok a2 n w HI2.out h12)
  clear hn k1a k1b l1 r1
  go_wp2_with fail
  refine HR1.out.mono ?_
  rintro ex w1 ⟨vx, xs, rfl, hxr, hxl, hown1, hb1⟩
  have HX1 := hide (Ints.own hown1)
  have HR2 := hide (rowOf_ok a3 n w1 HI3.out h12)
  obtain ⟨px, cx, ex1⟩ := owns_slice hown1
  subst ex1
  clear hown1 HR1 hnI
  go_wp2_with fail
  refine HR2.out.mono ?_
  rintro ex w2 ⟨vy, ys, rfl, hyr, hyl, hown2, hb2⟩
  have HX2 := hide (HX1.out.below hb2)
  have HY2 := hide (Ints.own hown2)
  have hB2 := hb1.trans (hb2.mono hb1.size)
  obtain ⟨py, cy, ey1⟩ := owns_slice hown2
  subst ey1
  have hRN : RowsN n [xs, ys] := fun z hz => by
    rcases List.mem_cons.1 hz with e | hz
    · rw [e]; exact ⟨hxr, hxl⟩
    · rw [List.mem_singleton.1 hz]; exact ⟨hyr, hyl⟩
  have HRN := hide hRN
  have hz1 : sz (G2 xs ys) n ≤ 120 := by
    have hd := sz_fct (Gen.sub (fun y => y ∈ [xs, ys].map pad)) h12 (fun x hx => gens_fix h12 hRN hx)
    have hf : fct n ≤ 120 ∧ 0 < fct n := by
      rcases (show n = 1 ∨ n = 2 ∨ n = 3 ∨ n = 4 ∨ n = 5 by omega) with rfl | rfl | rfl | rfl | rfl <;> decide
    exact Nat.le_trans (Nat.le_of_dvd hf.2 hd) hf.1
  have HZ1 := hide hz1
  have HI0 := hide (ints_two (w := w2) (m := w2.heap.size) rfl HX2.out HY2.out)
  have HB0 : Hid (Below w2.heap.size w2 (w2.alloc (.cells #[.slice px n cx, .slice py n cy] 23))) := (Below.refl _ _).alloc (Nat.le_refl _) _
  have HCd := hide (closed_ok n 5040 _ [xs, ys] _ HI0.out hRN h1 h12 (by simp) (by omega) (by omega))
  have HCX : Hid (cut n (pad xs) = xs) := cut_pad h12 hxl hxr
  have HCY : Hid (cut n (pad ys) = ys) := cut_pad h12 hyl hyr
  clear hown2 hb1 hb2 HR2 HX1 hRN hz1 hxr hxl hyr hyl HI0
  go_wp2_with fail
  refine HCd.out.mono ?_
  rintro ex w3 ⟨hb3, hcl⟩
  rcases hcl with ⟨vr, vw, Sr, rfl, hIr, hIw, hrun, hSl⟩ | ⟨rfl, Sr, hrok, hlong⟩
  rotate_left
  · exact absurd (found_few h12 HRN.out hrok) (by have h9 : sz (Gen (fun y => y ∈ [xs, ys].map pad)) n ≤ 120 := HZ1.out; omega)
  have hb23 := HB0.out.trans (hb3.mono HB0.out.size)
  have hB3 := hB2.trans (hb23.mono hB2.size)
  have HFd := hide (Found.of h12 HRN.out hrun)
  have hSf : Sr.length ≤ 1000 := by
    have h8 : (Sr.map (·.1)).length = sz (Gen (fun y => y ∈ [xs, ys].map pad)) n := sz_is (Gen.sub _) h12 (fun x hx => gens_fix h12 HRN.out hx) HFd.out.nodup HFd.out.mem
    rw [List.length_map] at h8
    have h9 : sz (Gen (fun y => y ∈ [xs, ys].map pad)) n ≤ 120 := HZ1.out
    omega
  have HSF := hide hSf
  have HOr := hide (rordered_all vr (Sr.map (fun e => cut n e.1)) w3 hIr (by rw [List.length_map]; omega) (fun r hr => by obtain ⟨y, _, rfl⟩ := List.mem_map.1 hr; rw [cut_length h12]; omega))
  have HB23 := hide hb23
  clear hIr hIw hrun hb3 hb23 HB0 HCd hSl hSf
  go_wp2_with fail
  refine HOr.out.mono ?_
  rintro ex w4 ⟨u4, Y, rfl, hIY, hperm, hris, hb4⟩
  obtain ⟨hRw, hXY⟩ := rws_of h1 h12 HRN.out HFd.out hperm hris HSF.out
  have hB4 := hB3.trans (hb4.mono hB3.size)
  have hb24 := HB23.out.trans (hb4.mono HB23.out.size)
  have hx4 := HX2.out.below hb24
  have hy4 := HY2.out.below hb24
  have HRQ := hide (rqsets_ok n (G2 xs ys) (Y.map pad) (pad xs) (pad ys) u4 (.slice px n cx) (.slice py n cy) w4 hRw (g2_left xs ys) (g2_right xs ys) (by rw [hXY]; exact hIY) (by rw [HCX.out]; exact hx4) (by rw [HCY.out]; exact hy4))
  have HQN : Hid ((qs (Y.map pad) (pad xs) (pad ys)).length ≤ 1000) := by
    have h8 : (qs (Y.map pad) (pad xs) (pad ys)).length ≤ (Y.map pad).length := by unfold qs; rw [List.length_map]; exact cycsTo_length _ _
    have h9 := hRw.few
    show _ ≤ _
    omega
  have HX4 := hide hx4
  have HY4 := hide hy4
  clear hIY hperm hris hb4 hB3 HOr hRw hXY hb24 hx4 hy4 HB23 HFd HX2 HY2
  go_wp2_with fail
  refine HRQ.out.mono ?_
  rintro ex w5 ⟨u5, rfl, hI5, hb5⟩
  have hB5 := hB4.trans (hb5.mono hB4.size)
  have HX5 := hide (HX4.out.below hb5)
  have HY5 := hide (HY4.out.below hb5)
  obtain ⟨p5, c5, e5⟩ := hI5.len
  subst e5
  have hqn := HQN.out
  generalize (qs (Y.map pad) (pad xs) (pad ys)).length = ql at *
  have HLd := hide (leadsOf_ok (.slice p raw.length c) raw ql 2 w5 (HI.out.below hB5) HX.out (by omega) (by omega) (by omega))
  clear hI5 hb5 hB4 HX4 HY4 HRQ
  go_wp2_with fail
  refine HLd.out.mono ?_
  rintro ex w6 ⟨vl, ls, rfl, hown6, hls, hb6⟩
  have hB6 := hB5.trans (hb6.mono hB5.size)
  have HES := hide (extentSays_walk (.slice px n cx) xs (.slice py n cy) ys vl ls w6 (HX5.out.below hb6) (fun x hx => ?_) (HY5.out.below hb6) (fun x hx => ?_) (Ints.own hown6) (fun x hx => by have := hls x hx; exact ⟨by omega, by omega⟩))
  rotate_left
  · have h9 := (HRN.out xs (by simp))
    have h8 := h9.1.1 x hx
    exact ⟨by omega, by omega⟩
  · have h9 := (HRN.out ys (by simp))
    have h8 := h9.1.1 x hx
    exact ⟨by omega, by omega⟩
  clear hown6 hls hb6 hB5 HLd
  go_wp2_with fail
  refine HES.out.mono ?_
  rintro ex w7 ⟨rfl, hb7⟩
  have HB7 := hide (hB6.trans (hb7.mono hB6.size))
  clear hb7 HES
  go_wp2
  go_ret
  exact ⟨rfl, HB7.out⟩

theorem extentMade_walk (v : Value) (xs : List Int) (a1 a2 a3 : Int) (w : World) (h : Ints w v xs) (hx : ∀ x, x ∈ xs → I64 x) (i1 : I64 a1) (i2 : I64 a2) (i3 : I64 a3) :
    Calls Try.prog 9 #[v, .int .i64 a1, .int .i64 a2, .int .i64 a3] w fun e w' => e = .returned (.bool true) ∧ Below w.heap.size w w' := by
  by_cases hl : 256 < xs.length
  · exact extentMade_long v xs a1 a2 a3 w h hl
  · exact extentMade_ok v xs a1 a2 a3 w h hx (by omega) i1 i2 i3

end Go.Proofs.Ytimfoggjocajiaa
