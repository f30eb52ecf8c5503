/- Joined: SbM, Tri, MdA, SbN, MdB, MdC, MdD. -/
import Derived.Test.YtoiiadiimfohiaaJ15
import Derived.Test.YtoiiadiimfohiaaJ12
import Derived.Test.YtoiiadiimfohiaaJ14
import Derived.Test.YtoiiadiimfohiaaJ7
import Derived.Test.YtoiiadiimfohiaaJ9
/- Contracts: the answer's Touches; SearchSays where all may be. -/
namespace Go.Proofs.Ytoiiadiimfohiaa
open Go.RowKit
set_option maxRecDepth 20000
set_option linter.unusedVariables false

theorem go_ok (w0 : World) (s : ByteArray) (n : Nat) (mv : Value) (cb co C cc leads many : Nat) (G : List (List Pm × Pm)) (Q : Nat) (hG : G.length = C) (hC : C ≤ 8) (hcc : C ≤ cc) (hcc2 : cc ≤ 9223372036854775807) (hle : leads ≤ 24) (hmy : many ≤ 50) (hmv : ∃ vp K vc, mv = .slice vp K vc) (HP : ProveBy w0 s n mv (.slice (some ⟨cb, co, none⟩) C cc) G C) :
    ∀ (l : Nat) (P : List Nat) (W : World) (met : Nat) (F : List (List Nat)) (fv pv : Value), 1 ≤ l → P.length + l = leads → (∀ c, c ∈ P → c < C) → QR w0 W Q (qC s n mv (.slice (some ⟨cb, co, none⟩) C cc) leads many) met F fv → W.ownsRow (Q + 1) 3 1 pv P.length ((nI P).map (Value.int .i64)) → F.length ≤ many → met + bnd C l ≤ 20000 → Calls Try.prog 50 #[.pointer (some ⟨Q, 0, none⟩), pv] W (GoPost w0 Q (qC s n mv (.slice (some ⟨cb, co, none⟩) C cc) leads many) G many C l P met F fv W)
  | 0 => fun P W met F fv pv h => absurd h (by omega)
  | l + 1 => fun P W met F fv pv _ hPl hPc hQ hpv hF hmt => go_step w0 s n mv cb co C cc leads many G Q hG hC hcc hcc2 hle hmy hmv HP l (go_ok w0 s n mv cb co C cc leads many G Q hG hC hcc hcc2 hle hmy hmv HP l) P W met F fv pv hPl hPc hQ hpv hF hmt

set_option maxHeartbeats 8000000 in
theorem rtouches_ok (s : ByteArray) (n : Nat) (vp : Option Addr) (vc : Nat) (ts : List (List Bool)) (cv : Value) (cs : List (Int × List (List Int))) (SS : List (List (List Bool))) (leads many : Nat) (w : World) (hs : s.size ≤ 1048576) (hn : isN (arunes s) = true) (h1 : 2 ≤ n) (h2 : n ≤ 12) (hl1 : 1 ≤ ts.length) (hl2 : ts.length ≤ 200)
    (hts : ∀ t, t ∈ ts → tsz t = n) (hv : IntsAll w (.slice vp ts.length vc) (ts.map tpl)) (hcv : CallsAt w cv cs) (hco : CallsOk n ts.length cs) (hc1 : 1 ≤ cs.length) (hc2 : cs.length ≤ 3)
    (hSS : ∀ c, c < cs.length → (cs.getD c (0, [])).2 = (SS.getD c []).map tpl ∧ (∀ t, t ∈ SS.getD c [] → tsz t = n) ∧ (SS.getD c []).length ≤ ts.length) (hm1 : 1 ≤ leads) (hm2 : leads ≤ 6) (hy1 : 1 ≤ many) (hy2 : many ≤ 50) :
    Calls Try.prog 23 #[.agg #[.string s, .int .i64 n, .slice vp ts.length vc], cv, .int .i64 leads, .int .i64 many] w (TouchPost ((sols (gOf n ts SS cs.length) leads [] 1).take many) w) := by
  have HB0 := hide ((Below.refl w.heap.size w).alloc (Nat.le_refl _) (mbox s n (.slice vp ts.length vc)))
  have HCM := hide (by
    have h9 := rcalls_ok s n vp vc (ts.map tpl) cv cs (w.alloc (mbox s n (.slice vp ts.length vc))) hs hn h1 h2 (by rw [List.length_map]; exact hl1) (by rw [List.length_map]; exact hl2) (by rw [List.length_map]; exact hv.below HB0.out) (tile_one hts) (hcv.below HB0.out) (by rw [List.length_map]; exact hco) hc1 (by omega)
    rw [List.length_map] at h9
    exact h9)
  have HPR : Hid (ProveBy w s n (.slice vp ts.length vc) cv (gOf n ts SS cs.length) cs.length) := by
    intro W p pv hW hI hp1 hp2 hp3
    refine (rprove_by s n vp vc ts cv cs SS pv p W h1 h2 hl1 hl2 hts (hv.below hW) (hcv.below hW) hSS hI hp1 (by omega) hp3).mono ?_
    rintro e w' ⟨r, q, i, j, rfl, a, b, c⟩
    exact ⟨_, r, q, i, j, rfl, a, b, c⟩
  have HGL := hide (gOf_length n ts SS cs.length)
  have HBD := hide (bnd_le (N := cs.length) hc2 hm2)
  obtain ⟨cb, co, cc, rfl, _, hcc1, hcc2, _⟩ := hcv
  generalize gOf n ts SS cs.length = G at *
  obtain ⟨C, hC⟩ : ∃ C, Hid (cs.length = C) := ⟨_, rfl⟩
  obtain ⟨K, hK⟩ : ∃ K, Hid (ts.length = K) := ⟨_, rfl⟩
  rw [hC.out, hK.out] at HCM HPR
  rw [hC.out] at HGL HBD hc1 hc2 hcc1 ⊢
  rw [hK.out] at HB0 ⊢
  have HGO := hide (fun Q => go_ok w s n (.slice vp K vc) cb co C cc leads many G Q HGL.out (by omega) hcc1 hcc2 (by omega) hy2 ⟨_, _, _, rfl⟩ HPR.out leads [])
  obtain ⟨d0, d1, d2⟩ := mbox_cells w s n (.slice vp K vc)
  have HFT := hide (fnd_top many (sols G leads [] 1))
  clear hts hv hco hSS HPR
  unfold TouchPost
  generalize hX : (sols G leads [] 1).take many = X at *
  clear hX
  go_enter Try.func23, Try.ntmps23
  go_wp2_with fail
  refine HCM.out.mono ?_
  rintro e w1 ⟨rfl, hb1⟩
  have hs1 : w.heap.size + 1 ≤ w1.heap.size := by have := hb1.size; simpa using this
  have k0 : w1.cell? ⟨w.heap.size, 0, none⟩ = some (.string s) := by rw [hb1.cell (p := ⟨w.heap.size, 0, none⟩) (by simp)]; exact d0
  have k1 : w1.cell? ⟨w.heap.size, 1, none⟩ = some (.int .i64 n) := by rw [hb1.cell (p := ⟨w.heap.size, 1, none⟩) (by simp)]; exact d1
  have k2 : w1.cell? ⟨w.heap.size, 2, none⟩ = some (.slice vp K vc) := by rw [hb1.cell (p := ⟨w.heap.size, 2, none⟩) (by simp)]; exact d2
  have HB1 := hide (HB0.out.trans (hb1.mono HB0.out.size))
  clear hb1 HB0 HCM d0 d1 d2
  have g1 : ¬ (leads : Int) < 1 := by omega
  have g2 : ¬ 24 < (leads : Int) := by omega
  have g3 : ¬ (many : Int) < 1 := by omega
  have g4 : ¬ 50 < (many : Int) := by omega
  have HQ2 : Hid (QR w (w1.alloc (qC s n (.slice vp K vc) (.slice (some ⟨cb, co, none⟩) C cc) leads many 0 (.slice none 0 0))) w1.heap.size (qC s n (.slice vp K vc) (.slice (some ⟨cb, co, none⟩) C cc) leads many) 0 [] (.slice none 0 0)) :=
    ⟨heap_alloc_new w1 _, ⟨[], LL.nil _ _⟩, HB1.out.alloc (by omega) _, by omega, by simp⟩
  have HC9 := hide (HGO.out w1.heap.size _ 0 [] (.slice none 0 0) (.slice none 0 0) hm1 (by simp) (fun c hc => by cases hc) HQ2.out (World.ownsRow_nil _ _ _ _) (by simp) (by have := HBD.out; omega))
  clear HGO HQ2
  go_wp2_with fail
  refine HC9.out.mono ?_
  rintro e w3 ⟨met', fv', rfl, hQ3, _, _, _⟩
  have hF3 : fnd many [] [] (sols G leads (tRows G 1 []).reverse (tEnd G 1 [])) = X := HFT.out
  rw [hF3] at hQ3
  obtain ⟨_, _, _, _, _, _, _, x7, x8, _, _⟩ := cells9 hQ3.blk
  obtain ⟨fs, hll⟩ := hQ3.ll
  obtain ⟨p9, c9, rfl⟩ := rowF hll.row
  have HLL := hide hll
  have HB3 := hide hQ3.bl
  have hlo := hQ3.lo
  clear hll hQ3 HC9
  go_wp2
  go_ret2
  exact ⟨HB3.out, _, _, fs, rfl, by omega, HLL.out⟩

end Go.Proofs.Ytoiiadiimfohiaa

/- Plain: the name of what is made of raw numbers. -/
namespace Go.Proofs.Ytoiiadiimfohiaa
open Go.RowKit
set_option maxRecDepth 20000

def tri : ByteArray := ⟨#[84, 114, 105, 101, 100]⟩

theorem tri_nm : nm tri = true := tried_name
theorem tri_size : tri.size = 5 := rfl
theorem tri_le : tri.size ≤ 1048576 := by rw [tri_size]; omega
theorem tri_le2 : tri.size ≤ 9223372036854775807 := by rw [tri_size]; omega
theorem tri_isN : isN (arunes tri) = true := by decide +kernel

end Go.Proofs.Ytoiiadiimfohiaa

/- Plain: both sides hold the same texts for names. -/
namespace Go.Proofs.Ytoiiadiimfohiaa
open Go.RowKit Go.Lib
set_option maxRecDepth 100000
set_option linter.unusedVariables false

set_option maxHeartbeats 4000000 in
theorem dec_32 (n b0 b1 b2 b3 : Nat) (hn : 1 ≤ n) (h0 : b0 < 256) : (decodeN n b0 b1 b2 b3).1 = 32 ↔ b0 = 32 := by
  unfold decodeN
  repeat' split
  all_goals (first | (simp; done) | (simp; omega) | (dsimp only; omega))

set_option maxHeartbeats 4000000 in
theorem dec_more (n b0 b1 b2 b3 : Nat) (hn : 1 ≤ n) : ((decodeN n b0 b1 b2 b3).2 = 1) ∨ ((decodeN n b0 b1 b2 b3).2 = 2 ∧ 128 ≤ b1 ∧ 128 ≤ b0) ∨ ((decodeN n b0 b1 b2 b3).2 = 3 ∧ 128 ≤ b2 ∧ 128 ≤ b0) ∨ ((decodeN n b0 b1 b2 b3).2 = 4 ∧ 128 ≤ b3 ∧ 128 ≤ b0) := by
  unfold decodeN
  repeat' split
  all_goals (first | (simp; done) | (simp; omega) | (dsimp only; omega))

theorem bt_get2 (s : ByteArray) {k : Nat} (h : k < s.size) : bt s k = (s.get! k).toNat := by
  rw [← byte_get s k h]; exact (bt_get h).symm

theorem first_32 (s : ByteArray) (h : 0 < s.size) : (runesOf s).getD 0 0 = 32 ↔ bt s 0 = 32 := by
  unfold runesOf
  obtain ⟨m, hm⟩ : ∃ m, s.size = m + 1 := ⟨s.size - 1, by omega⟩
  rw [hm]
  unfold rns
  rw [if_pos h]
  show (Utf8.decode s 0).1 = 32 ↔ _
  rw [decode_at, dec_32 _ _ _ _ _ (by omega) (by have := (s.get! 0).toNat_lt; omega), bt_get2 s h]

theorem last_32 (s : ByteArray) : ∀ f pos, pos < s.size → s.size - pos ≤ f → ((rns s f pos).getD ((rns s f pos).length - 1) 0 = 32 ↔ bt s (s.size - 1) = 32) ∧ 1 ≤ (rns s f pos).length
  | 0, pos, h, hf => by omega
  | f + 1, pos, h, hf => by
    obtain ⟨w1, w2⟩ := decode_width s pos h
    have hd := decode_at s pos
    have hmore := dec_more (s.size - pos) (s.get! pos).toNat (s.get! (pos + 1)).toNat (s.get! (pos + 2)).toNat (s.get! (pos + 3)).toNat (by omega)
    have h32 := dec_32 (s.size - pos) (s.get! pos).toNat (s.get! (pos + 1)).toNat (s.get! (pos + 2)).toNat (s.get! (pos + 3)).toNat (by omega) (by have := (s.get! pos).toNat_lt; omega)
    rw [← hd] at hmore h32
    unfold rns
    rw [if_pos h]
    rcases Nat.lt_or_ge (pos + (Utf8.decode s pos).2) s.size with h9 | h9
    · obtain ⟨ih, ih2⟩ := last_32 s f (pos + (Utf8.decode s pos).2) h9 (by omega)
      refine ⟨?_, by simp⟩
      rw [← ih, List.length_cons, Nat.add_sub_cancel]
      obtain ⟨q, hq⟩ : ∃ q, (rns s f (pos + (Utf8.decode s pos).2)).length = q + 1 := ⟨_, (Nat.sub_add_cancel ih2).symm⟩
      rw [hq, List.getD_cons_succ, Nat.add_sub_cancel]
    · have he : rns s f (pos + (Utf8.decode s pos).2) = [] := by
        cases f with
        | zero => rfl
        | succ f => unfold rns; rw [if_neg (by omega)]
      rw [he]
      refine ⟨?_, by simp⟩
      show (Utf8.decode s pos).1 = 32 ↔ _
      rw [h32]
      have hlast : ∀ j, pos + j = s.size - 1 → bt s (s.size - 1) = (s.get! (pos + j)).toNat := fun j hj => by rw [← hj]; exact bt_get2 s (by omega)
      rcases hmore with h1 | ⟨h1, h2, h3⟩ | ⟨h1, h2, h3⟩ | ⟨h1, h2, h3⟩
      · rw [hlast 0 (by omega)]; exact Iff.rfl
      · rw [hlast 1 (by omega)]; omega
      · rw [hlast 2 (by omega)]; omega
      · rw [hlast 3 (by omega)]; omega

theorem ofn_okR (r : Nat) : okR (r : Int) = ofn r := by
  unfold okR ofn
  rw [decide_eq_decide]
  omega

theorem all_names (s : ByteArray) : (arunes s).all okR = (runesOf s).all ofn := by
  have hl := arunes_length s
  rw [Bool.eq_iff_iff, List.all_eq_true, List.all_eq_true]
  constructor
  · intro h r hr
    obtain ⟨j, hj, e⟩ := List.getElem_of_mem hr
    have h1 : (runesOf s).getD j 0 = r := by rw [List.getD, List.getElem?_eq_getElem hj, Option.getD_some, e]
    have hj2 : j < (arunes s).length := by omega
    have h2 : (arunes s).getD j 0 ∈ arunes s := by rw [List.getD, List.getElem?_eq_getElem hj2, Option.getD_some]; exact List.getElem_mem _
    have h3 := h _ h2
    rcases arunes_at s j hj with h4 | ⟨h4, _⟩
    · rw [h4, h1, ofn_okR] at h3; exact h3
    · rw [h4] at h3; cases h3
  · intro h r hr
    obtain ⟨j, hj, e⟩ := List.getElem_of_mem hr
    have h1 : (arunes s).getD j 0 = r := by rw [List.getD, List.getElem?_eq_getElem hj, Option.getD_some, e]
    have hj2 : j < (runesOf s).length := by omega
    have h2 : (runesOf s).getD j 0 ∈ runesOf s := by rw [List.getD, List.getElem?_eq_getElem hj2, Option.getD_some]; exact List.getElem_mem _
    have h3 := h _ h2
    rcases arunes_at s j hj2 with h4 | ⟨_, h4⟩
    · rw [← h1, h4, ofn_okR]; exact h3
    · rw [h4] at h3; exact absurd h3 (by decide)

/-- A rune that is no blank. -/
theorem at_32 (s : ByteArray) (j : Nat) (h : j < (runesOf s).length) : (arunes s).getD j 0 = 32 ↔ (runesOf s).getD j 0 = 32 := by
  rcases arunes_at s j h with h4 | ⟨h4, h5⟩
  · rw [h4]; omega
  · rw [h4, h5]; constructor <;> (intro h; omega)

theorem nm_isN (s : ByteArray) : isN (arunes s) = nm s := by
  unfold isN nm
  rw [all_names, arunes_length, Bool.and_comm]
  congr 1
  rw [decide_eq_decide]
  constructor
  · rintro ⟨h1, h2, h3, h4⟩
    have hs : 0 < s.size := Nat.lt_of_lt_of_le h1 (runesOf_length s)
    refine ⟨h1, h2, ?_, ?_⟩
    · exact fun h => h3 ((at_32 s 0 (by omega)).2 ((first_32 s hs).2 h))
    · exact fun h => h4 ((at_32 s _ (by omega)).2 ((last_32 s s.size 0 hs (by omega)).1.2 h))
  · rintro ⟨h1, h2, h3, h4⟩
    have hs : 0 < s.size := Nat.lt_of_lt_of_le h1 (runesOf_length s)
    refine ⟨h1, h2, ?_, ?_⟩
    · rw [Ne, at_32 s 0 (by omega), first_32 s hs]
      exact h3
    · rw [Ne, at_32 s _ (by omega)]
      exact fun h => h4 ((last_32 s s.size 0 hs (by omega)).1.1 h)

end Go.Proofs.Ytoiiadiimfohiaa

/- The laws SearchSays, where all may be, and SearchMade. -/
namespace Go.Proofs.Ytoiiadiimfohiaa
open Go.RowKit
set_option maxRecDepth 20000
set_option linter.unusedVariables false

set_option maxHeartbeats 800000 in
theorem searchSays_good (s : ByteArray) (hs : s.size ≤ 1048576) (hnm : nm s = true) (n : Nat) (vp : Option Addr) (vc : Nat) (ts : List (List Bool)) (cv : Value) (cs : List (Int × List (List Int))) (SS : List (List (List Bool))) (leads many : Nat) (w : World) (h1 : 2 ≤ n) (h2 : n ≤ 12) (hl1 : 1 ≤ ts.length) (hl2 : ts.length ≤ 40)
    (hts : ∀ t, t ∈ ts → tsz t = n) (hv : IntsAll w (.slice vp ts.length vc) (ts.map tpl)) (hcv : CallsAt w cv cs) (hco : CallsOk n ts.length cs) (hc1 : 1 ≤ cs.length) (hc2 : cs.length ≤ 3)
    (hSS : ∀ c, c < cs.length → (cs.getD c (0, [])).2 = (SS.getD c []).map tpl ∧ (∀ t, t ∈ SS.getD c [] → tsz t = n) ∧ (SS.getD c []).length ≤ ts.length) (hm1 : 1 ≤ leads) (hm2 : leads ≤ 5) (hy1 : 1 ≤ many) (hy2 : many ≤ 50) :
    Calls Try.prog 5 #[.agg #[.string s, .int .i64 n, .slice vp ts.length vc], cv, .int .i64 leads, .int .i64 many] w fun e w' => e = .returned (.bool true) ∧ Below w.heap.size w w' := by
  have HA := hide (fun (W : World) (hW : Below w.heap.size w W) => touches_by s n vp vc ts cv cs SS leads many W (Nat.le_trans hs (by omega)) hnm h1 h2 hl1 (by omega) hts (hv.below hW) (hcv.below hW) hco hc1 hc2 hSS hm1 (by omega) hy1 hy2)
  have HR := hide (fun (W : World) (hW : Below w.heap.size w W) => rtouches_ok s n vp vc ts cv cs SS leads many W hs (by rw [nm_isN]; exact hnm) h1 h2 hl1 (by omega) hts (hv.below hW) (hcv.below hW) hco hc1 hc2 hSS hm1 (by omega) hy1 hy2)
  obtain ⟨cb, co, cc, rfl, _, hcc1, hcc2, _⟩ := hcv
  unfold meth at HA
  unfold TouchPost at HA HR
  generalize ((sols (gOf n ts SS cs.length) leads [] 1).take many).map nI = Z at *
  obtain ⟨C, hC⟩ : ∃ C, Hid (cs.length = C) := ⟨_, rfl⟩
  obtain ⟨K, hK⟩ : ∃ K, Hid (ts.length = K) := ⟨_, rfl⟩
  rw [hC.out, hK.out] at HA HR
  rw [hK.out] at hl1 hl2 ⊢
  rw [hC.out] at hc1 hc2 hcc1 ⊢
  have HB0 := hide ((Below.refl w.heap.size w).alloc (Nat.le_refl _) (mbox s n (.slice vp K vc)))
  obtain ⟨d0, d1, d2⟩ := mbox_cells w s n (.slice vp K vc)
  have g1 : ¬ 40 < (K : Int) := by omega
  have g2 : ¬ 5 < (leads : Int) := by omega
  have g3 : ¬ 3 < (C : Int) := by omega
  clear hts hv hco hSS
  clear hnm
  go_enter Try.func5, Try.ntmps5
  go_wp2_with fail
  refine (HA.out _ HB0.out).mono ?_
  rintro e w1 ⟨hb1, base1, fv1, vs1, rfl, hbs1, hL1⟩
  have k0 : w1.cell? ⟨w.heap.size, 0, none⟩ = some (.string s) := by rw [hb1.cell (p := ⟨w.heap.size, 0, none⟩) (by simp)]; exact d0
  have k1 : w1.cell? ⟨w.heap.size, 1, none⟩ = some (.int .i64 n) := by rw [hb1.cell (p := ⟨w.heap.size, 1, none⟩) (by simp)]; exact d1
  have k2 : w1.cell? ⟨w.heap.size, 2, none⟩ = some (.slice vp K vc) := by rw [hb1.cell (p := ⟨w.heap.size, 2, none⟩) (by simp)]; exact d2
  have HB1 := hide (HB0.out.trans (hb1.mono HB0.out.size))
  have HI1 := hide hL1.ints
  obtain ⟨p1, c1, rfl⟩ := hL1.ints.len
  have HC2 := hide (HR.out w1 HB1.out)
  clear hb1 HB0 HA HR hL1 d0 d1 d2 hbs1
  go_wp2_with fail
  refine HC2.out.mono ?_
  rintro e w2 ⟨hb2, base2, fv2, vs2, rfl, hbs2, hL2⟩
  have HI2 := hide hL2.ints
  obtain ⟨p2, c2, rfl⟩ := hL2.ints.len
  have HB2 := hide (HB1.out.trans (hb2.mono HB1.out.size))
  have HSA : Hid (Calls Try.prog 14 #[.slice p1 Z.length c1, .slice p2 Z.length c2] w2 fun e w' => e = .returned (.bool true) ∧ Below w2.heap.size w2 w') := (sameAll_any _ _ _ _ w2 (HI1.out.below hb2) HI2.out).mono (fun e w' h => ⟨h.1.trans (by simp), h.2⟩)
  clear hb2 HB1 HC2 hL2 hbs2 HI1 HI2 k0 k1 k2
  go_wp2_with fail
  refine HSA.out.mono ?_
  rintro e w3 ⟨rfl, hb3⟩
  have HB3 := hide (HB2.out.trans (hb3.mono HB2.out.size))
  clear hb3 HB2 HSA
  go_wp2
  go_ret
  exact ⟨rfl, HB3.out⟩

end Go.Proofs.Ytoiiadiimfohiaa

/- Contracts at every method: method.Check, the answer's MethodMay. -/
namespace Go.Proofs.Ytoiiadiimfohiaa
open Go.RowKit
set_option maxRecDepth 20000
set_option linter.unusedVariables false

/-- What is wrong with the first change that may not be. -/
def fstE (n : Int) : List (List Int) → Int
  | [] => 0
  | x :: X => if pc n x = 0 then fstE n X else pc n x

theorem fstE_ok {n : Int} {X : List (List Int)} {k : Nat} (hk : k < X.length) (h : pc n (X.getD k []) = 0) : fstE n (X.drop k) = fstE n (X.drop (k + 1)) := by
  rw [List.drop_eq_getElem_cons hk]
  have e : X.getD k [] = X[k] := by simp [List.getD, hk]
  rw [e] at h
  rw [fstE, if_pos h]

theorem fstE_bad {n : Int} {X : List (List Int)} {k : Nat} (hk : k < X.length) (h : pc n (X.getD k []) ≠ 0) : fstE n (X.drop k) = pc n (X.getD k []) := by
  rw [List.drop_eq_getElem_cons hk]
  have e : X.getD k [] = X[k] := by simp [List.getD, hk]
  rw [e] at h ⊢
  rw [fstE, if_neg h]

theorem fstE_zero {n : Int} : ∀ {X : List (List Int)}, fstE n X = 0 → ∀ x, x ∈ X → pc n x = 0
  | [], _, x, hx => by cases hx
  | y :: X, h, x, hx => by
    unfold fstE at h
    split at h
    · rename_i h0
      rcases List.mem_cons.1 hx with rfl | hx
      · exact h0
      · exact fstE_zero h x hx
    · rename_i h0; exact absurd h h0

/-- What is wrong with a method. -/
def mErr (s : ByteArray) (n : Int) (X : List (List Int)) : Int :=
  if nm s = true then (if n < 2 ∨ 12 < n ∨ X.length < 1 ∨ 200 < X.length then 1 else fstE n X) else 7

set_option maxHeartbeats 4000000 in
theorem mcheck_all (s : ByteArray) (n : Int) (v : Value) (X : List (List Int)) (w : World) (hs : s.size ≤ 9223372036854775807) (hv : IntsAll w v X) :
    Calls Try.prog 59 #[meth s n v] w fun e w' => e = .returned (.int .i64 (mErr s n X)) ∧ Below w.heap.size w w' := by
  by_cases hn : nm s = true
  · unfold mErr
    rw [if_pos hn]
    unfold meth
    have HN := hide (fun W => name_any s W hs)
    rw [hn] at HN
    obtain ⟨vp, vc, hve⟩ := hv.len
    obtain ⟨m, hm⟩ : ∃ m, Hid (X.length = m) := ⟨_, rfl⟩
    rw [hm.out] at hve ⊢
    subst hve
    have HV := hide hv
    clear hn hv
    have HX0 := hide (Box.start w s n (.slice vp m vc) 24)
    have HB0 := hide ((Below.refl w.heap.size w).alloc (Nat.le_refl _) (.cells #[.string s, .int .i64 n, .slice vp m vc] 24))
    by_cases hc : n < 2 ∨ 12 < n
    · rw [if_pos (by omega)]
      have HMM := hide (fun W => mmay_no n W hc)
      clear hc
      go_enter Try.func59, Try.ntmps59
      go_wp2_with fail
      refine (HN.out _).mono ?_
      rintro e w1 ⟨rfl, hb1⟩
      have HB := hide (HB0.out.trans (hb1.mono HB0.out.size))
      have g1 := (HX0.out.below hb1).c1
      clear hb1 HN HX0 HB0
      go_wp2_with fail
      refine (HMM.out _).mono ?_
      rintro e w' ⟨rfl, rfl⟩
      go_wp2
      go_ret
      exact ⟨rfl, HB.out⟩
    · have h1 : 2 ≤ n := by omega
      have h2 : n ≤ 12 := by omega
      by_cases hl : m < 1 ∨ 200 < m
      · rw [if_pos (by omega)]
        have HMM := hide (fun W => mmay_yes n W h1 h2)
        clear hc h1 h2
        go_enter Try.func59, Try.ntmps59
        go_wp2_with fail
        refine (HN.out _).mono ?_
        rintro e w1 ⟨rfl, hb1⟩
        have HB := hide (HB0.out.trans (hb1.mono HB0.out.size))
        have g1 := (HX0.out.below hb1).c1
        have g2 := (HX0.out.below hb1).c2
        clear hb1 HN HX0 HB0
        rcases hl with hl | hl
        · have hl1 : (m : Int) < 1 := by omega
          clear hl
          go_wp2_with fail
          refine (HMM.out _).mono ?_
          rintro e w' ⟨rfl, rfl⟩
          go_wp2
          go_ret
          exact ⟨rfl, HB.out⟩
        · have hl1 : ¬ (m : Int) < 1 := by omega
          have hl2 : 200 < (m : Int) := by omega
          clear hl
          go_wp2_with fail
          refine (HMM.out _).mono ?_
          rintro e w' ⟨rfl, rfl⟩
          go_wp2
          go_ret
          exact ⟨rfl, HB.out⟩
      · rw [if_neg (by omega)]
        have hl1 : ¬ (m : Int) < 1 := by omega
        have hl2 : ¬ 200 < (m : Int) := by omega
        have hm1 : 1 ≤ m := by omega
        obtain ⟨b, off, cap, hve, hb, hc1, hc2, hcell⟩ := HV.out.cell (by rw [hm.out]; exact hm1)
        rw [hm.out] at hve hc1 hcell
        simp only [Value.slice.injEq] at hve
        obtain ⟨rfl, _, rfl⟩ := hve
        have HC := hide hcell
        have HMM := hide (fun W => mmay_yes n W h1 h2)
        clear hc hcell HV hl
        obtain ⟨E, hE⟩ : ∃ E, Hid (fstE n X = E) := ⟨_, rfl⟩
        rw [hE.out]
        go_enter Try.func59, Try.ntmps59
        go_wp2_with fail
        refine (HN.out _).mono ?_
        rintro e w1 ⟨rfl, hb1⟩
        have hB := HB0.out.trans (hb1.mono HB0.out.size)
        have g1 := (HX0.out.below hb1).c1
        have g2 := (HX0.out.below hb1).c2
        clear hb1 HN HX0 HB0
        go_wp2_with fail
        refine (HMM.out _).mono ?_
        rintro e w' ⟨rfl, rfl⟩
        go_wp2
        go_loop [29] (fun i => ∃ k : Nat, k ≤ m ∧ i = .int .i64 k ∧ Hid (E = fstE n (X.drop k))) (fun i => m - (intOf i).toNat)
        case atStart => exact ⟨0, by omega, rfl, hE.out.symm⟩
        case round =>
          obtain ⟨k, hk, rfl, hEk⟩ := hrel
          by_cases hlt : k < m
          · have hkX : k < X.length := by rw [hm.out]; exact hlt
            obtain ⟨p, c, hcx, hix⟩ := HC.out k hlt
            have gx := (hB.cell (p := ⟨b, off + k, none⟩) (by exact hb)).trans hcx
            have HCk := hide (pcheck_all n _ _ w1 (hix.out.below hB))
            by_cases hz : pc n (X.getD k []) = 0
            · have HEN : Hid (E = fstE n (X.drop (k + 1))) := hEk.out.trans (fstE_ok hkX hz)
              rw [hz] at HCk
              clear hz hEk hcx hix
              generalize (X.getD k []).length = L at *
              go_wp2_with fail
              refine HCk.out.mono ?_
              rintro e w' ⟨rfl, rfl⟩
              go_wp2
              go_round
              case rel => exact ⟨k + 1, by omega, by go_num, HEN⟩
              case measure => simp [intOf]; omega
            · have HEN : Hid (E = pc n (X.getD k [])) := hEk.out.trans (fstE_bad hkX hz)
              have hzz : (pc n (X.getD k []) != 0) = true := by simpa using hz
              clear hz hEk hcx hix
              generalize (X.getD k []).length = L at *
              generalize pc n (X.getD k []) = pe at *
              go_wp2_with fail
              refine HCk.out.mono ?_
              rintro e w' ⟨rfl, rfl⟩
              go_wp2
              go_ret
              exact ⟨ret_int HEN.out.symm, hB⟩
          · obtain rfl : k = m := by omega
            have HEN : Hid (E = 0) := by show E = 0; rw [hEk.out, List.drop_eq_nil_of_le (by rw [hm.out]; exact Nat.le_refl _)]; rfl
            clear hEk
            go_wp2
            go_ret
            exact ⟨ret_int HEN.out.symm, hB⟩
  · have hn' : nm s = false := by simpa using hn
    unfold mErr
    rw [if_neg hn]
    exact mcheck_name s n v w hs hn'

set_option maxHeartbeats 4000000 in
theorem rmay_all (s : ByteArray) (n : Int) (v : Value) (X : List (List Int)) (w : World) (hs : s.size ≤ 1048576) (hv : IntsAll w v X) :
    Calls Try.prog 12 #[.agg #[.string s, .int .i64 n, v]] w fun e w' => e = .returned (.int .i64 (mErr s n X)) ∧ Below w.heap.size w w' := by
  obtain ⟨vp, vc, hve⟩ := hv.len
  obtain ⟨m, hm⟩ : ∃ m, Hid (X.length = m) := ⟨_, rfl⟩
  rw [hm.out] at hve
  subst hve
  have HV := hide hv
  have HB0 := hide ((Below.refl w.heap.size w).alloc (Nat.le_refl _) (mbox s n (.slice vp m vc)))
  have HIN := hide (isName_any s (w.alloc (mbox s n (.slice vp m vc))) hs)
  rw [nm_isN] at HIN
  obtain ⟨d0, d1, d2⟩ := mbox_cells w s n (.slice vp m vc)
  clear hv
  unfold mErr
  rw [hm.out]
  cases hn : nm s with
  | false =>
    rw [if_neg (by simp)]
    rw [hn] at HIN
    clear hn d1 d2 HV
    go_enter Try.func12, Try.ntmps12
    go_wp2_with fail
    refine HIN.out.mono ?_
    rintro e w1 ⟨rfl, hb1⟩
    have HB1 := hide (HB0.out.trans (hb1.mono HB0.out.size))
    clear hb1 HB0 HIN d0
    go_wp2
    go_ret
    exact ⟨rfl, HB1.out⟩
  | true =>
    rw [if_pos rfl]
    rw [hn] at HIN
    clear hn
    by_cases hc : n < 2 ∨ 12 < n ∨ m < 1 ∨ 200 < m
    · rw [if_pos hc]
      go_enter Try.func12, Try.ntmps12
      go_wp2_with fail
      refine HIN.out.mono ?_
      rintro e w1 ⟨rfl, hb1⟩
      have k1 : w1.cell? ⟨w.heap.size, 1, none⟩ = some (.int .i64 n) := by rw [hb1.cell (p := ⟨w.heap.size, 1, none⟩) (by simp)]; exact d1
      have k2 : w1.cell? ⟨w.heap.size, 2, none⟩ = some (.slice vp m vc) := by rw [hb1.cell (p := ⟨w.heap.size, 2, none⟩) (by simp)]; exact d2
      have HB1 := hide (HB0.out.trans (hb1.mono HB0.out.size))
      clear hb1 HB0 HIN d0 d1 d2
      by_cases h1 : n < 2
      · clear hc
        go_wp2
        go_ret
        exact ⟨rfl, HB1.out⟩
      · by_cases h2 : 12 < n
        · clear hc
          go_wp2
          go_ret
          exact ⟨rfl, HB1.out⟩
        · by_cases h3 : (m : Int) < 1
          · clear hc
            go_wp2
            go_ret
            exact ⟨rfl, HB1.out⟩
          · have h4 : 200 < (m : Int) := by omega
            clear hc
            go_wp2
            go_ret
            exact ⟨rfl, HB1.out⟩
    · rw [if_neg hc]
      have g1 : ¬ n < 2 := by omega
      have g2 : ¬ 12 < n := by omega
      have g3 : ¬ (m : Int) < 1 := by omega
      have g4 : ¬ 200 < (m : Int) := by omega
      obtain ⟨b, off, cap, hve, hbl, hc1, hc2, hcell⟩ := HV.out.cell (by rw [hm.out]; omega)
      rw [hm.out] at hve hc1 hcell
      simp only [Value.slice.injEq] at hve
      obtain ⟨rfl, _, rfl⟩ := hve
      have HCE := hide hcell
      obtain ⟨E, hE⟩ : ∃ E, Hid (fstE n X = E) := ⟨_, rfl⟩
      rw [hE.out]
      clear hc hcell HV
      go_enter Try.func12, Try.ntmps12
      go_wp2_with fail
      refine HIN.out.mono ?_
      rintro e w1 ⟨rfl, hb1⟩
      have k1 : w1.cell? ⟨w.heap.size, 1, none⟩ = some (.int .i64 n) := by rw [hb1.cell (p := ⟨w.heap.size, 1, none⟩) (by simp)]; exact d1
      have k2 : w1.cell? ⟨w.heap.size, 2, none⟩ = some (.slice (some ⟨b, off, none⟩) m vc) := by rw [hb1.cell (p := ⟨w.heap.size, 2, none⟩) (by simp)]; exact d2
      have HB1 := hide (HB0.out.trans (hb1.mono HB0.out.size))
      clear hb1 HB0 HIN d0 d1 d2
      go_wp2
      go_loopw [4] (fun i wr => ∃ k : Nat, k ≤ m ∧ i = .int .i64 k ∧ Hid (E = fstE n (X.drop k)) ∧ Hid (Below w.heap.size w wr) ∧ wr.cell? ⟨w.heap.size, 1, none⟩ = some (.int .i64 n) ∧ wr.cell? ⟨w.heap.size, 2, none⟩ = some (.slice (some ⟨b, off, none⟩) m vc)) (fun i _ => m - (intOf i).toNat)
      case atStart => exact ⟨0, by omega, rfl, hE.out.symm, HB1, k1, k2⟩
      case round =>
        clear k1 k2 HB1
        obtain ⟨k, hk, rfl, hEk, hbw, k1, k2⟩ := hrel
        by_cases hlt : k < m
        · have hkX : k < X.length := by rw [hm.out]; exact hlt
          obtain ⟨p, c, hcx, hix⟩ := HCE.out k hlt
          have gx := (hbw.out.cell (p := ⟨b, off + k, none⟩) (by exact hbl)).trans hcx
          have HC := hide (fun (W : World) (hW : Below w.heap.size w W) => changeMay_all n (.slice p (X.getD k []).length c) (X.getD k []) W (hix.out.below hW))
          have HEZ : Hid (pc n (X.getD k []) = 0 → E = fstE n (X.drop (k + 1))) := fun hz => hEk.out.trans (fstE_ok hkX hz)
          have HEB : Hid (pc n (X.getD k []) ≠ 0 → E = pc n (X.getD k [])) := fun hz => hEk.out.trans (fstE_bad hkX hz)
          clear hcx hix hEk
          generalize (X.getD k []).length = pl at *
          generalize pc n (X.getD k []) = pe at *
          have HC2 : ∀ W : World, Below w.heap.size w W → Calls Try.prog 36 #[.int .i64 n, .slice p pl c] W fun e w' => e = .returned (.int .i64 pe) ∧ W = w' := HC.out
          clear HC
          go_wp2_with fail
          go_quiet ((go_at_call 36; exact Calls.quiet_of_same ((HC2 _ (below_drewN hbw.out _)).mono (fun e wq h => ⟨h.1, h.2.symm⟩))))
          have HB3 := hide (below_drewN hbw.out nq)
          have k1' : (wr.drewN nq).cell? ⟨w.heap.size, 1, none⟩ = some (.int .i64 n) := k1
          have k2' : (wr.drewN nq).cell? ⟨w.heap.size, 2, none⟩ = some (.slice (some ⟨b, off, none⟩) m vc) := k2
          generalize wr.drewN nq = w3 at *
          clear k1 k2 hbw gx HC2
          by_cases hz : pe = 0
          · have HEN := hide (HEZ.out hz)
            subst hz
            clear HEZ HEB
            go_wp2
            go_roundw
            case rel => exact ⟨k + 1, by omega, by go_num, HEN, HB3, k1', k2'⟩
            case measure => simp [intOf]; omega
          · have HEN := hide (HEB.out hz)
            have hzz : (pe != 0) = true := by simpa using hz
            clear HEZ HEB hz
            go_wp2
            go_ret
            exact ⟨ret_int HEN.out.symm, HB3.out⟩
        · obtain rfl : k = m := by omega
          have HEN : Hid (E = 0) := by show E = 0; rw [hEk.out, List.drop_eq_nil_of_le (by rw [hm.out]; exact Nat.le_refl _)]; rfl
          clear hEk
          go_wp2
          go_ret
          exact ⟨ret_int HEN.out.symm, hbw.out⟩

end Go.Proofs.Ytoiiadiimfohiaa

/- What is wrong with calls and leads; contracts at every call: call.checkOne. -/
namespace Go.Proofs.Ytoiiadiimfohiaa
open Go.RowKit
set_option maxRecDepth 20000
set_option linter.unusedVariables false

/-- A call: its sign and its changes. -/
abbrev Cl := Int × List (List Int)

/-- What is wrong with a call behind others. -/
def oErr (n : Int) (K : Nat) (ah : List Cl) (c : Cl) : Int :=
  if sgnR c.1 = true then (if c.1 ∈ ah.map Prod.fst then 8 else if K < c.2.length then 1 else fstE n c.2) else 4

def cFst (n : Int) (K : Nat) : List Cl → List Cl → Int
  | _, [] => 0
  | ah, c :: r => if oErr n K ah c = 0 then cFst n K (ah ++ [c]) r else oErr n K ah c

theorem cl_at {cs : List Cl} {j : Nat} (h : j < cs.length) : cs.drop j = cs.getD j (0, []) :: cs.drop (j + 1) ∧ cs.take (j + 1) = cs.take j ++ [cs.getD j (0, [])] := by
  have e : cs.getD j (0, []) = cs[j] := by simp [List.getD, h]
  rw [e]
  exact ⟨List.drop_eq_getElem_cons h, List.take_succ_eq_append_getElem h⟩

theorem cFst_ok {n : Int} {K : Nat} {cs : List Cl} {j : Nat} (h : j < cs.length) (hz : oErr n K (cs.take j) (cs.getD j (0, [])) = 0) : cFst n K (cs.take j) (cs.drop j) = cFst n K (cs.take (j + 1)) (cs.drop (j + 1)) := by
  rw [(cl_at h).1, (cl_at h).2, cFst, if_pos hz]

theorem cFst_bad {n : Int} {K : Nat} {cs : List Cl} {j : Nat} (h : j < cs.length) (hz : oErr n K (cs.take j) (cs.getD j (0, [])) ≠ 0) : cFst n K (cs.take j) (cs.drop j) = oErr n K (cs.take j) (cs.getD j (0, [])) := by
  rw [(cl_at h).1, cFst, if_neg hz]

/-- What is wrong with calls. -/
def cErr (s : ByteArray) (n : Int) (X : List (List Int)) (cs : List Cl) : Int :=
  if mErr s n X = 0 then (if cs.length < 1 ∨ 8 < cs.length then 1 else cFst n X.length [] cs) else mErr s n X

/-- What is wrong with leads. -/
def lErr (C : Nat) (ls : List Int) : Int :=
  if ls.length < 1 ∨ 400 < ls.length then 1 else if ∀ l, l ∈ ls → 0 ≤ l ∧ l < (C : Int) then 0 else 12

/-- What is wrong with a touch. -/
def tErr (s : ByteArray) (n : Int) (X : List (List Int)) (cs : List Cl) (ls : List Int) : Int :=
  if cErr s n X cs = 0 then (if lErr cs.length ls = 0 then (if 20000 < ls.length * X.length then 3 else 0) else lErr cs.length ls) else cErr s n X cs

/-- Calls in memory, none too. -/
def CallsIn (w : World) (v : Value) (cs : List Cl) : Prop := (cs = [] ∧ ∃ p c, v = .slice p 0 c) ∨ (1 ≤ cs.length ∧ CallsAt w v cs)

theorem CallsIn.below {w w' : World} {v : Value} {cs : List Cl} (h : CallsIn w v cs) (hb : Below w.heap.size w w') : CallsIn w' v cs := by
  rcases h with h | ⟨h1, h2⟩
  · exact Or.inl h
  · exact Or.inr ⟨h1, h2.below hb⟩

theorem CallsIn.form {w : World} {v : Value} {cs : List Cl} (h : CallsIn w v cs) : ∃ p c, v = .slice p cs.length c := by
  rcases h with ⟨rfl, p, c, rfl⟩ | ⟨h1, b, off, cap, rfl, _⟩
  · exact ⟨p, c, rfl⟩
  · exact ⟨_, cap, rfl⟩

set_option maxHeartbeats 1000000 in
theorem isSign_any (r s : Int) (u : Value) (B : Nat) (w : World) (hB : w.cell? ⟨B, 0, none⟩ = some (.int .i32 s)) (hb : B < w.heap.size) :
    Calls Try.prog 113 #[.agg #[.int .i32 r, u], .pointer (some ⟨B, 0, none⟩)] w fun e w' => e = .returned (.bool (r == s)) ∧ Below w.heap.size w w' := by
  have hB1 : Below w.heap.size w (w.alloc (.cells #[.int .i32 r, u] 47)) := (Below.refl _ _).alloc (Nat.le_refl _) _
  have g1 : (w.alloc (.cells #[.int .i32 r, u] 47)).cell? ⟨B, 0, none⟩ = some (.int .i32 s) := (hB1.cell (p := ⟨B, 0, none⟩) hb).trans hB
  have g2 : (w.alloc (.cells #[.int .i32 r, u] 47)).cell? ⟨w.heap.size, 0, none⟩ = some (.int .i32 r) := by
    have h9 := heap_alloc_new w (.cells #[.int .i32 r, u] 47)
    unfold World.cell?
    simp only [h9]
    rfl
  clear hB
  generalize hq : (r == s) = q at *
  go_enter Try.func113, Try.ntmps113
  go_wp2
  go_ret
  exact ⟨rfl, hB1⟩

set_option maxHeartbeats 1000000 in
theorem indexSign_any (s : Int) (B : Nat) (b off cap : Nat) (sg : List Int) (w : World) (hB : w.cell? ⟨B, 0, none⟩ = some (.int .i32 s)) (hb : B < w.heap.size) (hbl : b < w.heap.size)
    (hcell : ∀ k, k < sg.length → ∃ u, w.cell? ⟨b, off + k * 2, none⟩ = some (.int .i32 (sg.getD k 0)) ∧ w.cell? ⟨b, off + k * 2 + 1, none⟩ = some u ∧ u.oneCell' = true) (hm3 : sg.length ≤ 1000) :
    Calls Try.prog 112 #[.slice (some ⟨b, off, none⟩) sg.length cap, .func (.func 113) #[] #[.pointer (some ⟨B, 0, none⟩)]] w fun e w' => (∃ i : Int, e = .returned (.int .i64 i) ∧ (0 ≤ i ↔ s ∈ sg)) ∧ Below w.heap.size w w' := by
  have HC := hide hcell
  have HB := hide hB
  obtain ⟨m, hm⟩ : ∃ m, Hid (sg.length = m) := ⟨_, rfl⟩
  rw [hm.out] at HC hm3 ⊢
  clear hcell hB
  go_enter Try.func112, Try.ntmps112
  go_wp2
  go_loopw [8] (fun i wr => ∃ k : Nat, k ≤ m ∧ i = .int .i64 k ∧ Hid (∀ j, j < k → sg.getD j 0 ≠ s) ∧ Below w.heap.size w wr) (fun i _ => m - (intOf i).toNat)
  case atStart => exact ⟨0, by omega, rfl, (fun j hj => absurd hj (by omega)), Below.refl _ _⟩
  case round =>
    obtain ⟨k, hk, rfl, hN, hbw⟩ := hrel
    have hbs := hbw.size
    by_cases hlt : k < m
    · obtain ⟨u, a1, a2, a4⟩ := HC.out k hlt
      have g1 : wr.cell? ⟨b, off + k * 2, none⟩ = some (.int .i32 (sg.getD k 0)) := (hbw.cell (by exact hbl)).trans a1
      have g2 : wr.cell? ⟨b, off + k * 2 + 1, none⟩ = some u := (hbw.cell (p := ⟨b, off + k * 2 + 1, none⟩) (by exact hbl)).trans a2
      have HK := hide (isSign_any (sg.getD k 0) s u B wr ((hbw.cell (p := ⟨B, 0, none⟩) hb).trans HB.out) (by omega))
      clear a1 a2
      by_cases he : sg.getD k 0 = s
      · have HI : Hid (s ∈ sg) := by
          have hk' : k < sg.length := by rw [hm.out]; exact hlt
          show s ∈ sg
          rw [← he, List.getD, List.getElem?_eq_getElem hk', Option.getD_some]
          exact List.getElem_mem _
        rw [show (sg.getD k 0 == s) = true from by simpa using he] at HK
        clear he hN
        generalize sg.getD k 0 = r at *
        go_wp2_with fail
        refine HK.out.mono ?_
        rintro e w2 ⟨rfl, hb2⟩
        have hB2 : Below w.heap.size w w2 := hbw.trans (hb2.mono hbs)
        clear hb2
        go_wp2
        go_ret
        exact ⟨⟨(k : Int), rfl, ⟨fun _ => HI.out, fun _ => by omega⟩⟩, hB2⟩
      · rw [show (sg.getD k 0 == s) = false from by rw [beq_eq_false_iff_ne]; exact he] at HK
        have HN2 : Hid (∀ j, j < k + 1 → sg.getD j 0 ≠ s) := fun j hj => by
          rcases Nat.lt_succ_iff_lt_or_eq.1 hj with h | h
          · exact hN.out j h
          · rw [h]; exact he
        clear he hN
        generalize sg.getD k 0 = r at *
        go_wp2_with fail
        refine HK.out.mono ?_
        rintro e w2 ⟨rfl, hb2⟩
        have hB2 : Below w.heap.size w w2 := hbw.trans (hb2.mono hbs)
        clear hb2
        go_wp2
        go_roundw
        case rel => exact ⟨k + 1, by omega, by go_num, HN2, hB2⟩
        case measure => simp [intOf]; omega
    · have HNI : Hid (¬ s ∈ sg) := fun h => by
        obtain ⟨j, hj, e⟩ := List.getElem_of_mem h
        have := hN.out j (by rw [hm.out] at hj; omega)
        rw [List.getD, List.getElem?_eq_getElem hj, Option.getD_some] at this
        exact this e
      clear hN
      go_wp2
      go_ret
      exact ⟨⟨-1, rfl, ⟨fun h => absurd h (by omega), fun h => absurd h HNI.out⟩⟩, hbw⟩

set_option maxHeartbeats 1000000 in
theorem find_all (s : Int) (b off cap : Nat) (sg : List Int) (w : World) (hbl : b < w.heap.size)
    (hcell : ∀ k, k < sg.length → ∃ u, w.cell? ⟨b, off + k * 2, none⟩ = some (.int .i32 (sg.getD k 0)) ∧ w.cell? ⟨b, off + k * 2 + 1, none⟩ = some u ∧ u.oneCell' = true) (hm3 : sg.length ≤ 1000) :
    Calls Try.prog 95 #[.slice (some ⟨b, off, none⟩) sg.length cap, .int .i32 s] w fun e w' => (∃ i : Int, e = .returned (.int .i64 i) ∧ (0 ≤ i ↔ s ∈ sg)) ∧ Below w.heap.size w w' := by
  have hmf : ∀ (fn : Fn) (first cap : Array Value) (w : World), (Instr.makeFunc fn first cap).run Try.prog w = .ok (.func fn first cap) w := fun _ _ _ _ => rfl
  have hB1 : Below w.heap.size w (w.alloc (.cells #[.int .i32 s] 21)) := (Below.refl _ _).alloc (Nat.le_refl _) _
  have h9 := heap_alloc_new w (.cells #[.int .i32 s] 21)
  have HI := hide (indexSign_any s w.heap.size b off cap sg (w.alloc (.cells #[.int .i32 s] 21)) (by unfold World.cell?; simp only [h9]; rfl) (by simp) (by simp; omega) (fun k hk => by
    obtain ⟨u, a1, a2, a3⟩ := hcell k hk
    exact ⟨u, (hB1.cell (p := ⟨b, off + k * 2, none⟩) hbl).trans a1, (hB1.cell (p := ⟨b, off + k * 2 + 1, none⟩) hbl).trans a2, a3⟩) hm3)
  obtain ⟨m, hm⟩ : ∃ m, Hid (sg.length = m) := ⟨_, rfl⟩
  rw [hm.out] at HI ⊢
  clear hcell h9 hm3
  go_enter Try.func95, Try.ntmps95
  go_wp2_with fail
  refine HI.out.mono ?_
  rintro e w2 ⟨⟨i, rfl, hi⟩, hb2⟩
  have hB2 : Below w.heap.size w w2 := hB1.trans (hb2.mono (by simp))
  have HII := hide hi
  clear hb2 hB1 hi
  go_wp2
  go_ret
  exact ⟨⟨i, rfl, HII.out⟩, hB2⟩

set_option maxHeartbeats 4000000 in
theorem checkOne_all (sn : ByteArray) (n : Int) (vp : Option Addr) (k vc : Nat) (s : Int) (cv : Value) (css : List (List Int)) (b off cap : Nat) (ah : List Cl) (w : World) (hbl : b < w.heap.size)
    (hcell : ∀ k, k < ah.length → ∃ u, w.cell? ⟨b, off + k * 2, none⟩ = some (.int .i32 (ah.getD k (0, [])).1) ∧ w.cell? ⟨b, off + k * 2 + 1, none⟩ = some u ∧ u.oneCell' = true) (hm3 : ah.length ≤ 1000) (hcv : IntsAll w cv css) :
    Calls Try.prog 69 #[meth sn n (.slice vp k vc), .slice (some ⟨b, off, none⟩) ah.length cap, .agg #[.int .i32 s, cv]] w fun e w' => e = .returned (.int .i64 (oErr n k ah (s, css))) ∧ Below w.heap.size w w' := by
  obtain ⟨cp, cc, rfl⟩ := hcv.len
  have hBW : Below w.heap.size w ((w.alloc (.cells #[.string sn, .int .i64 n, .slice vp k vc] 24)).alloc (.cells #[.int .i32 s, .slice cp css.length cc] 47)) := ((Below.refl _ _).alloc (Nat.le_refl _) _).alloc (by simp) _
  have hbox := ((Box.start w sn n (.slice vp k vc) 24).below ((Below.refl _ _).alloc (Nat.le_refl _) (.cells #[.int .i32 s, .slice cp css.length cc] 47)))
  have h9 := heap_alloc_new (w.alloc (.cells #[.string sn, .int .i64 n, .slice vp k vc] 24)) (.cells #[.int .i32 s, .slice cp css.length cc] 47)
  rw [show (w.alloc (.cells #[.string sn, .int .i64 n, .slice vp k vc] 24)).heap.size = w.heap.size + 1 from by simp] at h9
  have c0 : ((w.alloc (.cells #[.string sn, .int .i64 n, .slice vp k vc] 24)).alloc (.cells #[.int .i32 s, .slice cp css.length cc] 47)).cell? ⟨w.heap.size + 1, 0, none⟩ = some (.int .i32 s) := by
    unfold World.cell?; simp only [h9]; rfl
  have c1 : ((w.alloc (.cells #[.string sn, .int .i64 n, .slice vp k vc] 24)).alloc (.cells #[.int .i32 s, .slice cp css.length cc] 47)).cell? ⟨w.heap.size + 1, 1, none⟩ = some (.slice cp css.length cc) := by
    unfold World.cell?; simp only [h9]; rfl
  have HSG := hide (fun W => sign_any s W)
  have HFD := hide (fun W (hb : Below w.heap.size w W) => find_all s b off cap (ah.map Prod.fst) W (Nat.lt_of_lt_of_le hbl hb.size) (fun k hk => by
    have hk' : k < ah.length := by simpa using hk
    obtain ⟨u, a1, a2, a3⟩ := hcell k hk'
    have e : (ah.map Prod.fst).getD k 0 = (ah.getD k (0, [])).1 := by simp [List.getD, hk']
    rw [e]
    exact ⟨u, (hb.cell (p := ⟨b, off + k * 2, none⟩) hbl).trans a1, (hb.cell (p := ⟨b, off + k * 2 + 1, none⟩) hbl).trans a2, a3⟩) (by rw [List.length_map]; exact hm3))
  rw [List.length_map] at HFD
  have HCV := hide hcv
  have HBX := hide hbox
  obtain ⟨m, hm⟩ : ∃ m, Hid (ah.length = m) := ⟨_, rfl⟩
  rw [hm.out] at HFD ⊢
  obtain ⟨N, hN⟩ : ∃ N, Hid (css.length = N) := ⟨_, rfl⟩
  rw [hN.out] at hBW c0 c1 HBX ⊢
  clear hcell hcv h9 hbox hm3
  unfold meth
  unfold oErr
  rw [hN.out]
  cases hsg : sgnR s with
  | false =>
    rw [if_neg (by simp)]
    rw [hsg] at HSG
    clear hsg
    go_enter Try.func69, Try.ntmps69
    go_wp2_with fail
    refine (HSG.out _).mono ?_
    rintro e w' ⟨rfl, rfl⟩
    go_wp2
    go_ret
    exact ⟨rfl, hBW⟩
  | true =>
    rw [if_pos rfl]
    rw [hsg] at HSG
    clear hsg
    by_cases hin : s ∈ ah.map Prod.fst
    · rw [if_pos hin]
      have HIN := hide hin
      clear hin
      go_enter Try.func69, Try.ntmps69
      go_wp2_with fail
      refine (HSG.out _).mono ?_
      rintro e w' ⟨rfl, rfl⟩
      go_wp2_with fail
      refine (HFD.out _ hBW).mono ?_
      rintro e w2 ⟨⟨i, rfl, hi⟩, hb2⟩
      have hi0 : 0 ≤ i := hi.2 HIN.out
      have HB2 := hide (hBW.trans (hb2.mono hBW.size))
      clear hi hb2 c0 c1 HSG HFD HBX
      go_wp2
      go_ret
      exact ⟨rfl, HB2.out⟩
    · rw [if_neg hin]
      have HIN := hide hin
      clear hin
      by_cases hkl : k < N
      · rw [if_pos hkl]
        have hgd : decide (((k : Nat) : Int) < ((N : Nat) : Int)) = true := decide_eq_true (by omega)
        have hgn : decide (k < N) = true := decide_eq_true hkl
        have hgi : (k : Int) < (N : Int) := by omega
        go_enter Try.func69, Try.ntmps69
        go_wp2_with fail
        refine (HSG.out _).mono ?_
        rintro e w' ⟨rfl, rfl⟩
        go_wp2_with fail
        refine (HFD.out _ hBW).mono ?_
        rintro e w2 ⟨⟨i, rfl, hi⟩, hb2⟩
        have hi0 : ¬ 0 ≤ i := fun h => HIN.out (hi.1 h)
        have HB2 := hide (hBW.trans (hb2.mono hBW.size))
        have d1 : w2.cell? ⟨w.heap.size + 1, 1, none⟩ = some (.slice cp N cc) := (hb2.cell (p := ⟨w.heap.size + 1, 1, none⟩) (by simp)).trans c1
        have e2 := (HBX.out.below hb2).c2
        clear hi hb2 c0 c1 HSG HFD HBX
        go_wp2
        go_ret
        exact ⟨rfl, HB2.out⟩
      · rw [if_neg hkl]
        obtain ⟨E, hE⟩ : ∃ E, Hid (fstE n css = E) := ⟨_, rfl⟩
        rw [hE.out]
        have hgd : decide (((k : Nat) : Int) < ((N : Nat) : Int)) = false := decide_eq_false (by omega)
        have hgn : decide (k < N) = false := decide_eq_false hkl
        go_enter Try.func69, Try.ntmps69
        go_wp2_with fail
        refine (HSG.out _).mono ?_
        rintro e w' ⟨rfl, rfl⟩
        go_wp2_with fail
        refine (HFD.out _ hBW).mono ?_
        rintro e w2 ⟨⟨i, rfl, hi⟩, hb2⟩
        have hi0 : ¬ 0 ≤ i := fun h => HIN.out (hi.1 h)
        have hB2 : Below w.heap.size w w2 := hBW.trans (hb2.mono hBW.size)
        have d1 : w2.cell? ⟨w.heap.size + 1, 1, none⟩ = some (.slice cp N cc) := (hb2.cell (p := ⟨w.heap.size + 1, 1, none⟩) (by simp)).trans c1
        have hx2 := HBX.out.below hb2
        have e1 := hx2.c1
        have e2 := hx2.c2
        have HB2 := hide hB2
        have HE1 := hide e1
        clear c0 c1 hb2 HSG HFD hBW HBX hx2 hB2 hkl hi
        go_wp2
        go_loopw [32] (fun i wr => ∃ j : Nat, j ≤ N ∧ i = .int .i64 j ∧ Hid (E = fstE n (css.drop j)) ∧ Hid (Below w.heap.size w wr) ∧ Hid (wr.cell? ⟨w.heap.size, 1, none⟩ = some (.int .i64 n))) (fun i _ => N - (intOf i).toNat)
        case atStart => exact ⟨0, by omega, rfl, hE.out.symm, HB2, HE1⟩
        case round =>
          clear e1 HB2 HE1 d1 e2
          obtain ⟨j, hj, rfl, hEk, hbw, hen⟩ := hrel
          have hB2 := hbw.out
          have e1 := hen.out
          by_cases hlt : j < N
          · have hjX : j < css.length := by rw [hN.out]; exact hlt
            obtain ⟨b3, off3, cap3, he, hb3, hlc3, hcm3, hcell3⟩ := (HCV.out.below hB2).cell (by rw [hN.out]; omega)
            rw [hN.out] at he hlc3 hcell3
            simp only [Value.slice.injEq] at he
            obtain ⟨rfl, he2, rfl⟩ := he
            clear he2
            obtain ⟨q, c, hce, hint⟩ := hcell3 j hlt
            have HPC := hide (pcheck_all n _ _ _ hint.out)
            clear hint hcell3
            by_cases hz : pc n (css.getD j []) = 0
            · have HEN : Hid (E = fstE n (css.drop (j + 1))) := hEk.out.trans (fstE_ok hjX hz)
              rw [hz] at HPC
              clear hz hEk
              generalize (css.getD j []).length = pl at hce HPC
              go_wp2_with fail
              refine HPC.out.mono ?_
              rintro e w' ⟨rfl, rfl⟩
              go_wp2
              go_roundw
              case rel => exact ⟨j + 1, by omega, by go_num, HEN, hbw, hen⟩
              case measure => simp [intOf]; omega
            · have HEN : Hid (E = pc n (css.getD j [])) := hEk.out.trans (fstE_bad hjX hz)
              have hzz : (pc n (css.getD j []) != 0) = true := by simpa using hz
              clear hz hEk
              generalize (css.getD j []).length = pl at hce HPC
              generalize pc n (css.getD j []) = pe at *
              go_wp2_with fail
              refine HPC.out.mono ?_
              rintro e w' ⟨rfl, rfl⟩
              go_wp2
              go_ret
              exact ⟨ret_int HEN.out.symm, hB2⟩
          · obtain rfl : j = N := by omega
            have HEN : Hid (E = 0) := by show E = 0; rw [hEk.out, List.drop_eq_nil_of_le (by rw [hN.out]; exact Nat.le_refl _)]; rfl
            clear hEk
            go_wp2
            go_ret
            exact ⟨ret_int HEN.out.symm, hB2⟩

end Go.Proofs.Ytoiiadiimfohiaa

/- Contracts at every input: call.Check, call.checkLeads, call.May. -/
namespace Go.Proofs.Ytoiiadiimfohiaa
open Go.RowKit
set_option maxRecDepth 20000
set_option linter.unusedVariables false

set_option maxHeartbeats 8000000 in
theorem ccheck_all (s : ByteArray) (n : Int) (vp : Option Addr) (vc : Nat) (css : List (List Int)) (cv : Value) (cs : List Cl) (w : World) (hs : s.size ≤ 9223372036854775807)
    (hv : IntsAll w (.slice vp css.length vc) css) (hcv : CallsIn w cv cs) :
    Calls Try.prog 46 #[meth s n (.slice vp css.length vc), cv] w fun e w' => e = .returned (.int .i64 (cErr s n css cs)) ∧ Below w.heap.size w w' := by
  have hB0 : Below w.heap.size w (w.alloc (.cells #[.string s, .int .i64 n, .slice vp css.length vc] 24)) := (Below.refl _ _).alloc (Nat.le_refl _) _
  have HMC := hide (mcheck_all s n (.slice vp css.length vc) css (w.alloc (.cells #[.string s, .int .i64 n, .slice vp css.length vc] 24)) hs (hv.below hB0))
  have hbox := Box.start w s n (.slice vp css.length vc) 24
  obtain ⟨cp, cc, rfl⟩ := hcv.form
  have HBX := hide hbox
  unfold cErr
  generalize mErr s n css = me at *
  obtain ⟨K, hK⟩ : ∃ K, Hid (css.length = K) := ⟨_, rfl⟩
  rw [hK.out] at hB0 HMC HBX ⊢
  obtain ⟨C, hC⟩ : ∃ C, Hid (cs.length = C) := ⟨_, rfl⟩
  rw [hC.out]
  have HCV := hide hcv
  clear hv hbox hcv
  unfold meth at HMC
  unfold meth
  by_cases hz : me = 0
  · subst hz
    rw [if_pos rfl]
    by_cases hcl : C < 1 ∨ 8 < C
    · rw [if_pos hcl]
      go_enter Try.func46, Try.ntmps46
      go_wp2_with fail
      refine HMC.out.mono ?_
      rintro e w1 ⟨rfl, hb1⟩
      have HB1 := hide (hB0.trans (hb1.mono (by simp)))
      clear HMC HBX hb1 hB0
      by_cases h1 : (C : Int) < 1
      · clear hcl
        go_wp2
        go_ret
        exact ⟨rfl, HB1.out⟩
      · have h2 : 8 < (C : Int) := by omega
        clear hcl
        go_wp2
        go_ret
        exact ⟨rfl, HB1.out⟩
    · rw [if_neg hcl]
      have hC1 : ¬ (C : Int) < 1 := by omega
      have hC2 : ¬ 8 < (C : Int) := by omega
      have hC3 : 1 ≤ C ∧ C ≤ 8 := by omega
      obtain ⟨b, off, cap, hce, hb, hlc, hcm, hcell⟩ : CallsAt w (.slice cp C cc) cs := by
        rcases HCV.out with ⟨h1, _⟩ | ⟨_, h2⟩
        · exfalso; have := hC.out; rw [h1] at this; simp at this; omega
        · rw [hC.out] at h2; exact h2
      rw [hC.out] at hce hlc
      simp only [Value.slice.injEq] at hce
      obtain ⟨rfl, _, rfl⟩ := hce
      have HC := hide hcell
      obtain ⟨E, hE⟩ : ∃ E, Hid (cFst n K [] cs = E) := ⟨_, rfl⟩
      rw [hE.out]
      clear hcell HCV hcl
      go_enter Try.func46, Try.ntmps46
      go_wp2_with fail
      refine HMC.out.mono ?_
      rintro e w1 ⟨rfl, hb1⟩
      have hB1 : Below w.heap.size w w1 := hB0.trans (hb1.mono (by simp))
      have HX1 := hide (HBX.out.below hb1)
      clear HMC HBX hb1 hB0
      go_wp2
      go_loopw [24] (fun i wr => ∃ j : Nat, j ≤ C ∧ i = .int .i64 j ∧ Hid (E = cFst n K (cs.take j) (cs.drop j)) ∧ Hid (Box wr w.heap.size s n (.slice vp K vc)) ∧ Below w.heap.size w wr) (fun i _ => C - (intOf i).toNat)
      case atStart => exact ⟨0, by omega, rfl, hE.out.symm, HX1, hB1⟩
      case round =>
        clear HX1 hB1
        obtain ⟨j, hj, rfl, hEk, hX, hbw⟩ := hrel
        have hbs := hbw.size
        by_cases hlt : j < C
        · have hjc : j < cs.length := by rw [hC.out]; exact hlt
          obtain ⟨u, a1, a2, a3⟩ := HC.out j hjc
          have g1 : wr.cell? ⟨b, off + j * 2, none⟩ = some (.int .i32 (cs.getD j (0, [])).1) := (hbw.cell (by exact hb)).trans a1
          have g2 : wr.cell? ⟨b, off + j * 2 + 1, none⟩ = some u := (hbw.cell (p := ⟨b, off + j * 2 + 1, none⟩) (by exact hb)).trans a2
          obtain ⟨up, uc, rfl⟩ := a3.len
          have htl : (cs.take j).length = j := by rw [List.length_take]; omega
          have HCK := hide (fun W (hW : Below w.heap.size w W) => checkOne_all s n vp K vc (cs.getD j (0, [])).1 (.slice up (cs.getD j (0, [])).2.length uc) (cs.getD j (0, [])).2 b off cc (cs.take j) W (Nat.lt_of_lt_of_le hb hW.size) (fun i hi => by
            have hij : i < j := by rw [htl] at hi; exact hi
            obtain ⟨u', b1, b2, b3⟩ := HC.out i (by omega)
            obtain ⟨p', c', e'⟩ := b3.len
            have e1 : (cs.take j).getD i (0, []) = cs.getD i (0, []) := by simp [List.getD, hij]
            rw [e1]
            exact ⟨u', (hW.cell (p := ⟨b, off + i * 2, none⟩) hb).trans b1, (hW.cell (p := ⟨b, off + i * 2 + 1, none⟩) hb).trans b2, by rw [e']; rfl⟩) (by rw [htl]; omega) (a3.below hW))
          rw [htl] at HCK
          have HEZ : Hid (oErr n K (cs.take j) (cs.getD j (0, [])) = 0 → E = cFst n K (cs.take (j + 1)) (cs.drop (j + 1))) := fun h => hEk.out.trans (cFst_ok hjc h)
          have HEB : Hid (oErr n K (cs.take j) (cs.getD j (0, [])) ≠ 0 → E = oErr n K (cs.take j) (cs.getD j (0, []))) := fun h => hEk.out.trans (cFst_bad hjc h)
          have HCK2 : Hid (∀ W, Below w.heap.size w W → Calls Try.prog 69 #[meth s n (.slice vp K vc), .slice (some ⟨b, off, none⟩) j cc, .agg #[.int .i32 (cs.getD j (0, [])).1, .slice up (cs.getD j (0, [])).2.length uc]] W fun e w' => e = .returned (.int .i64 (oErr n K (cs.take j) (cs.getD j (0, [])))) ∧ Below W.heap.size W w') := HCK.out
          clear a1 a2 a3 HCK hEk htl
          generalize oErr n K (cs.take j) (cs.getD j (0, [])) = oe at *
          generalize (cs.getD j (0, [])).1 = sg at *
          generalize (cs.getD j (0, [])).2.length = ul at *
          unfold meth at HCK2
          go_upto_region 9 with fail
          have hXA := hX.out.below ((Below.refl wr.heap.size wr).alloc (Nat.le_refl _) (.cells #[.int .i32 sg, .slice up ul uc] 47))
          have h9 := heap_alloc_new wr (.cells #[.int .i32 sg, .slice up ul uc] 47)
          have hBA : Below w.heap.size w (wr.alloc (.cells #[.int .i32 sg, .slice up ul uc] 47)) := hbw.alloc hbs _
          have hRA : wr.heap.size < (wr.alloc (.cells #[.int .i32 sg, .slice up ul uc] 47)).heap.size := by simp
          have d0 : (wr.alloc (.cells #[.int .i32 sg, .slice up ul uc] 47)).cell? ⟨wr.heap.size, 0, none⟩ = some (.int .i32 sg) := by unfold World.cell?; simp only [h9]; rfl
          have d1 : (wr.alloc (.cells #[.int .i32 sg, .slice up ul uc] 47)).cell? ⟨wr.heap.size, 1, none⟩ = some (.slice up ul uc) := by unfold World.cell?; simp only [h9]; rfl
          have b0 := hXA.c0
          have b1 := hXA.c1
          have b2 := hXA.c2
          have hbl := hXA.lt
          have HXA := hide hXA
          clear h9 g1 g2 hX hXA
          generalize (wr.alloc (.cells #[.int .i32 sg, .slice up ul uc] 47)) = WA at *
          generalize wr.heap.size = RA at *
          refine wp_region_held_drew (S := fun W' => Below WA.heap.size WA W') (by kernel_rfl) (below_drewJ WA) (fun hS => ?_)
          refine wpAnyH_take (i := 0) (v := .agg #[.string s, .int .i64 n, .slice vp K vc]) rfl (by kernel_rfl) (by kernel_rfl) (by kernel_rfl) (fun _ _ _ h => h) (Or.inl ⟨by kernel_rfl, fun w' hS' => by have q0 := (Below.cell hS' (p := ⟨w.heap.size, 0, none⟩) (by exact hbl)).trans b0; have q1 := (Below.cell hS' (p := ⟨w.heap.size, 1, none⟩) (by exact hbl)).trans b1; have q2 := (Below.cell hS' (p := ⟨w.heap.size, 2, none⟩) (by exact hbl)).trans b2; clear hS'; go_simp⟩) hS ?_
          refine wpAnyH_take (i := 1) (v := .slice (some ⟨b, off, none⟩) C cc) rfl (by kernel_rfl) (by kernel_rfl) (by kernel_rfl) (fun _ _ _ h => h) (Or.inl ⟨by kernel_rfl, fun w' hS' => by clear hS'; go_simp⟩) hS ?_
          refine wpAnyH_take (i := 2) (v := .int .i64 (j : Int)) rfl (by kernel_rfl) (by kernel_rfl) (by kernel_rfl) (fun _ _ _ h => h) (Or.inl ⟨by kernel_rfl, fun w' hS' => by clear hS'; go_simp⟩) hS ?_
          refine wpAnyH_take (i := 3) (v := .slice (some ⟨b, off, none⟩) j cc) rfl (by kernel_rfl) (by kernel_rfl) (by kernel_rfl) (fun _ _ _ h => h) (Or.inl ⟨by kernel_rfl, fun w' hS' => by clear hS'; go_simp; intro h0; exact absurd h0 (by omega)⟩) hS ?_
          refine wpAnyH_take (i := 4) (v := .agg #[.int .i32 sg, .slice up ul uc]) rfl (by kernel_rfl) (by kernel_rfl) (by kernel_rfl) (fun _ _ _ h => h) (Or.inl ⟨by kernel_rfl, fun w' hS' => by have q0 := (Below.cell hS' (p := ⟨RA, 0, none⟩) (by exact hRA)).trans d0; have q1 := (Below.cell hS' (p := ⟨RA, 1, none⟩) (by exact hRA)).trans d1; clear hS'; go_simp⟩) hS ?_
          refine wpAnyH_ready (rs := [5]) (by kernel_rfl) (by simp) ?_
          refine AllReadyH.cons rfl (fun K9 hK9 => ?_) AllReadyH.nil
          go_simp
          have hS0 := below_drewJ WA
          refine (HCK2.out WA.drew (hBA.trans (hS0.mono hBA.size))).mono ?_
          rintro ex wo ⟨rfl, hbo⟩
          have hSo : Below WA.heap.size WA wo := hS0.trans (hbo.mono hS0.size)
          refine hK9.out _ _ hSo (fun hS => ?_)
          clear hK9
          refine wpAnyH_take (i := 6) (v := .int .i64 oe) rfl (by kernel_rfl) (by kernel_rfl) (by kernel_rfl) (fun _ _ _ h => h) (Or.inl ⟨by kernel_rfl, fun w' hS' => by clear hS'; go_simp⟩) hS ?_
          refine wpAnyH_done (by kernel_rfl) ?_ _
          have HXo := hide (HXA.out.below hSo)
          have hBo : Below w.heap.size w wo := hBA.trans (hSo.mono hBA.size)
          clear hSo hbo hS0 HCK2 HXA
          by_cases hoz : oe = 0
          · have HEN := hide (HEZ.out hoz)
            subst hoz
            clear HEZ HEB
            go_wp2
            go_roundw
            case rel => exact ⟨j + 1, by omega, by go_num, HEN, HXo, hBo⟩
            case measure => simp [intOf]; omega
          · have HEN := hide (HEB.out hoz)
            have hzz : (oe != 0) = true := by simpa using hoz
            clear HEZ HEB hoz
            go_wp2
            go_ret
            exact ⟨ret_int HEN.out.symm, hBo⟩
        · obtain rfl : j = C := by omega
          have HEN : Hid (E = 0) := by show E = 0; rw [hEk.out, List.drop_eq_nil_of_le (by rw [hC.out]; exact Nat.le_refl _)]; rfl
          clear hEk
          go_wp2
          go_ret
          exact ⟨ret_int HEN.out.symm, hbw⟩
  · rw [if_neg hz]
    have hzz : (me != 0) = true := by simpa using hz
    clear hz
    go_enter Try.func46, Try.ntmps46
    go_wp2_with fail
    refine HMC.out.mono ?_
    rintro e w1 ⟨rfl, hb1⟩
    have HB1 := hide (hB0.trans (hb1.mono (by simp)))
    clear HMC HBX hb1 hB0
    go_wp2
    go_ret
    exact ⟨rfl, HB1.out⟩

set_option maxHeartbeats 4000000 in
theorem checkLeads_all (cp : Option Addr) (C cc : Nat) (v : Value) (ls : List Int) (w : World) (h : Ints w v ls) :
    Calls Try.prog 73 #[.slice cp C cc, v] w fun e w' => e = .returned (.int .i64 (lErr C ls)) ∧ w = w' := by
  obtain ⟨lp, lc, rfl⟩ := h.form
  obtain ⟨N, hN⟩ : ∃ N, Hid (ls.length = N) := ⟨_, rfl⟩
  have HI := hide h
  unfold lErr
  rw [hN.out] at HI ⊢
  clear h
  by_cases hl : N < 1 ∨ 400 < N
  · rw [if_pos hl]
    by_cases h1 : (N : Int) < 1
    · clear hl
      go_enter Try.func73, Try.ntmps73
      go_wp2
      go_ret
      exact ⟨rfl, rfl⟩
    · have h2 : 400 < (N : Int) := by omega
      clear hl
      go_enter Try.func73, Try.ntmps73
      go_wp2
      go_ret
      exact ⟨rfl, rfl⟩
  · rw [if_neg hl]
    rcases HI.out with ⟨hnil, _⟩ | ⟨b, off, cap, hle, h0, hc, hm, hb, hcell⟩
    · exfalso; have := hN.out; rw [hnil] at this; simp at this; omega
    rw [hN.out] at hle hc
    simp only [Value.slice.injEq] at hle
    obtain ⟨rfl, _, rfl⟩ := hle
    have HC := hide hcell
    have h1 : ¬ (N : Int) < 1 := by omega
    have h2 : ¬ 400 < (N : Int) := by omega
    obtain ⟨E, hE⟩ : ∃ E : Int, Hid ((if ∀ l, l ∈ ls → 0 ≤ l ∧ l < (C : Int) then 0 else 12) = E) := ⟨_, rfl⟩
    rw [hE.out]
    clear hl hcell HI
    go_enter Try.func73, Try.ntmps73
    go_wp2
    go_loop [17] (fun i => ∃ k : Nat, k ≤ N ∧ i = .int .i64 k ∧ Hid (∀ j, j < k → 0 ≤ ls.getD j 0 ∧ ls.getD j 0 < (C : Int))) (fun i => N - (intOf i).toNat)
    case atStart => exact ⟨0, by omega, rfl, (fun j hj => absurd hj (by omega))⟩
    case round =>
      obtain ⟨k, hk, rfl, hA⟩ := hrel
      by_cases hlt : k < N
      · have hkl : k < ls.length := by rw [hN.out]; exact hlt
        obtain ⟨y, hy, hcx⟩ := cellAt HC.out hkl
        have hyk : ls.getD k 0 = y := hy.out
        have hym : y ∈ ls := by
          rw [← hyk, List.getD, List.getElem?_eq_getElem hkl, Option.getD_some]
          exact List.getElem_mem _
        by_cases hyb : 0 ≤ y ∧ y < (C : Int)
        · have HA2 : Hid (∀ j, j < k + 1 → 0 ≤ ls.getD j 0 ∧ ls.getD j 0 < (C : Int)) := fun j hj => by
            rcases Nat.lt_succ_iff_lt_or_eq.1 hj with h | h
            · exact hA.out j h
            · rw [h, hyk]; exact hyb
          have hy3 : ¬ y < 0 := by omega
          have hy4 : ¬ y ≥ (C : Int) := by omega
          clear hy hym hyk hyb hA
          go_wp2
          go_round
          case rel => exact ⟨k + 1, by omega, by go_num, HA2⟩
          case measure => simp [intOf]; omega
        · have HE : Hid (E = 12) := by show E = 12; rw [← hE.out, if_neg (fun h => hyb (h y hym))]
          by_cases hy3 : y < 0
          · clear hy hym hyk hyb hA
            go_wp2
            go_ret
            exact ⟨ret_int HE.out.symm, rfl⟩
          · have hy4 : y ≥ (C : Int) := by omega
            clear hy hym hyk hyb hA
            go_wp2
            go_ret
            exact ⟨ret_int HE.out.symm, rfl⟩
      · obtain rfl : k = N := by omega
        have HE : Hid (E = 0) := by
          show E = 0
          rw [← hE.out, if_pos]
          intro l hl
          obtain ⟨j, hj, e⟩ := List.getElem_of_mem hl
          have := hA.out j (by rw [hN.out] at hj; exact hj)
          rw [List.getD, List.getElem?_eq_getElem hj, Option.getD_some, e] at this
          exact this
        clear hA
        go_wp2
        go_ret
        exact ⟨ret_int HE.out.symm, rfl⟩

set_option maxHeartbeats 4000000 in
theorem may_all (s : ByteArray) (n : Int) (vp : Option Addr) (vc : Nat) (css : List (List Int)) (cv : Value) (cs : List Cl) (lv : Value) (ls : List Int) (w : World) (hs : s.size ≤ 9223372036854775807)
    (hv : IntsAll w (.slice vp css.length vc) css) (hcv : CallsIn w cv cs) (hl : Ints w lv ls) :
    Calls Try.prog 52 #[meth s n (.slice vp css.length vc), cv, lv] w fun e w' => e = .returned (.int .i64 (tErr s n css cs ls)) ∧ Below w.heap.size w w' := by
  have hB0 : Below w.heap.size w (w.alloc (.cells #[.string s, .int .i64 n, .slice vp css.length vc] 24)) := (Below.refl _ _).alloc (Nat.le_refl _) _
  have HCC := hide (ccheck_all s n vp vc css cv cs (w.alloc (.cells #[.string s, .int .i64 n, .slice vp css.length vc] 24)) hs (hv.below hB0) (hcv.below hB0))
  have hbox := Box.start w s n (.slice vp css.length vc) 24
  obtain ⟨cp, cc, rfl⟩ := hcv.form
  have HCL := hide (fun W (hW : Below w.heap.size w W) => checkLeads_all cp cs.length cc lv ls W (hl.below hW))
  obtain ⟨lp, lc, rfl⟩ := hl.form
  have HBX := hide hbox
  have hmi : ((ls.length : Int)) * (css.length : Int) = ((ls.length * css.length : Nat) : Int) := (Int.natCast_mul _ _).symm
  have HSM : Hid (cErr s n css cs = 0 → lErr cs.length ls = 0 → ls.length * css.length ≤ 80000) := fun h1 h2 => by
    have a1 : mErr s n css = 0 := by
      unfold cErr at h1
      split at h1
      · assumption
      · rename_i h; exact absurd h1 h
    have a2 : css.length ≤ 200 := by
      unfold mErr at a1
      split at a1
      · split at a1
        · cases a1
        · omega
      · cases a1
    have a3 : ls.length ≤ 400 := by
      unfold lErr at h2
      split at h2
      · cases h2
      · omega
    exact Nat.mul_le_mul a3 a2
  clear hv hbox hl hcv
  unfold tErr
  generalize ls.length * css.length = P at *
  generalize cErr s n css cs = ce at *
  generalize lErr cs.length ls = le at *
  generalize css.length = K at *
  generalize ls.length = N at *
  generalize cs.length = C at *
  unfold meth at HCC
  unfold meth
  by_cases hz : ce = 0
  · subst hz
    rw [if_pos rfl]
    by_cases hlz : le = 0
    · subst hlz
      rw [if_pos rfl]
      have hPb := HSM.out rfl rfl
      by_cases hP : 20000 < P
      · rw [if_pos hP]
        have hPi : 20000 < (P : Int) := by omega
        go_enter Try.func52, Try.ntmps52
        go_wp2_with fail
        refine HCC.out.mono ?_
        rintro e w1 ⟨rfl, hb1⟩
        have hB1 : Below w.heap.size w w1 := hB0.trans (hb1.mono (by simp))
        have g2 := (HBX.out.below hb1).c2
        clear HCC HBX hb1 hB0
        go_wp2_with fail
        refine (HCL.out w1 hB1).mono ?_
        rintro e w2 ⟨rfl, rfl⟩
        clear HCL
        go_wp2
        go_ret
        exact ⟨rfl, hB1⟩
      · rw [if_neg hP]
        have hPi : ¬ 20000 < (P : Int) := by omega
        go_enter Try.func52, Try.ntmps52
        go_wp2_with fail
        refine HCC.out.mono ?_
        rintro e w1 ⟨rfl, hb1⟩
        have hB1 : Below w.heap.size w w1 := hB0.trans (hb1.mono (by simp))
        have g2 := (HBX.out.below hb1).c2
        clear HCC HBX hb1 hB0
        go_wp2_with fail
        refine (HCL.out w1 hB1).mono ?_
        rintro e w2 ⟨rfl, rfl⟩
        clear HCL
        go_wp2
        go_ret
        exact ⟨rfl, hB1⟩
    · rw [if_neg hlz]
      have hzz : (le != 0) = true := by simpa using hlz
      clear hlz HSM
      go_enter Try.func52, Try.ntmps52
      go_wp2_with fail
      refine HCC.out.mono ?_
      rintro e w1 ⟨rfl, hb1⟩
      have hB1 : Below w.heap.size w w1 := hB0.trans (hb1.mono (by simp))
      clear HCC HBX hb1 hB0
      go_wp2_with fail
      refine (HCL.out w1 hB1).mono ?_
      rintro e w2 ⟨rfl, rfl⟩
      clear HCL
      go_wp2
      go_ret
      exact ⟨rfl, hB1⟩
  · rw [if_neg hz]
    have hzz : (ce != 0) = true := by simpa using hz
    clear hz HSM
    go_enter Try.func52, Try.ntmps52
    go_wp2_with fail
    refine HCC.out.mono ?_
    rintro e w1 ⟨rfl, hb1⟩
    have hB1 : Below w.heap.size w w1 := hB0.trans (hb1.mono (by simp))
    clear HCC HBX hb1 hB0
    go_wp2
    go_ret
    exact ⟨rfl, hB1⟩

end Go.Proofs.Ytoiiadiimfohiaa
