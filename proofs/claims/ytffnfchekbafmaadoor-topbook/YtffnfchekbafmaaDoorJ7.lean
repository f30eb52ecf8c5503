/- Joined: BoW, RefC, RefD, Mat. -/
import Derived.Test.YtffnfchekbafmaaDoorJ6
import Derived.Test.YtffnfchekbafmaaDoorJ2
import Derived.Deep.RegionLaw
import Derived.Deep.RegionWith
import Derived.Deep.Matrix
import Derived.OpenShut
/- The law TopBook. -/
namespace Go.Proofs.YtffnfchekbafmaaDoor
open Go.RowKit Go.Lib
set_option maxRecDepth 100000
set_option linter.unusedVariables false

set_option maxHeartbeats 16000000 in
theorem topBook_walk (v : Value) (raw : List Int) (a1 a2 a3 : Int) (w : World) (hi0 : Ints w v raw) (hx : ∀ x, x ∈ raw → I64 x) (i1 : I64 a1) (i2 : I64 a2) (i3 : I64 a3) (hglb : Glk w) :
    Calls Tryd.prog 3 #[v, .int .i64 a1, .int .i64 a2, .int .i64 a3] w fun e w' => e = .returned (.bool true) ∧ Below w.heap.size w w' := by
  obtain ⟨p0, c0, rfl⟩ := hi0.form
  obtain ⟨j0, hji, hjz0, hjz1, hjz2⟩ := info_parts Tryd.info3
  by_cases hl : 20 < raw.length
  · clear hi0 hx
    generalize raw.length = m at *
    go_enter Tryd.func3, Tryd.ntmps3
    go_wp2
    go_ret
    exact ⟨rfl, Below.refl _ _⟩
  · have HI := hide hi0
    have HX := hide hx
    have HG := hide hglb
    obtain ⟨n, hn⟩ : ∃ n, raw.length = n := ⟨_, rfl⟩
    rw [hn] at hl ⊢
    have HN := hide hn
    have HCELL : Hid (∀ k W, k < n → Below w.heap.size w W → ∃ (b off : Nat) (z : Int), p0 = some ⟨b, off, none⟩ ∧ W.cell? ⟨b, off + k, none⟩ = some (.int .i64 z) ∧ -9223372036854775808 ≤ z ∧ z ≤ 9223372036854775807) := fun k W hk hW => by
      rcases hi0 with ⟨e0, _⟩ | ⟨b, off, cap, hp0, h1, h2, h3, h5, h4⟩
      · rw [e0] at hn; simp at hn; omega
      have hp : p0 = some ⟨b, off, none⟩ := by injection hp0
      have hg : (raw.getD k 0) ∈ raw := by rw [List.getD_eq_getElem?_getD, List.getElem?_eq_getElem (by omega)]; exact List.getElem_mem _
      exact ⟨b, off, raw.getD k 0, hp, (hW.cell (p := ⟨b, off + k, none⟩) h5).trans (h4 k (by omega)), (hx _ hg).1, (hx _ hg).2⟩
    have hwb : Hid (Below w.heap.size w (w.alloc (.cells #[.slice none 0 0] 25))) := (Below.refl _ _).alloc (Nat.le_refl _) _
    have hn20 : n ≤ 20 := by omega
    have HR0 : Hid (TbR w (w.alloc (.cells #[.slice none 0 0] 25)) w.heap.size (.slice none 0 0) [] [] (.slice none 0 0)) :=
      ⟨heap_alloc_new w _, World.ownsRow_nil _ _ _ _, ⟨rfl, fun j x T h => by simp at h⟩, World.ownsRow_nil _ _ _ _, hwb.out⟩
    clear hi0 hx hglb hn
    go_enter Tryd.func3, Tryd.ntmps3
    go_wp2
    go_loopw [10, 11] (fun ev iv wr => ∃ (k : Nat) (u : Value) (xs : List Value) (Ts : List (List UInt8)) (ea : Option Addr) (ec : Nat), k ≤ n ∧ iv = .int .i64 (k : Int) ∧ ev = .slice ea k ec ∧ Hid (TbR w wr w.heap.size u xs Ts (.slice ea k ec)) ∧ Hid (Ts.length = k)) (fun _ iv _ => n - (RowKit.intOf iv).toNat)
    case atStart => exact ⟨0, .slice none 0 0, [], [], none, 0, Nat.zero_le _, rfl, rfl, HR0, rfl⟩
    case round =>
      obtain ⟨k, u, xs, Ts, ea, ec, hk, rfl, rfl, HR, HT⟩ := hrel
      clear HR0
      by_cases hlt : k < n
      · have hi1 : (k : Int) < (n : Int) := by omega
        obtain ⟨b, off, z, rfl, hcell, hz1, hz2⟩ := HCELL.out k wr hlt HR.out.below
        have HRC : Hid (Calls Tryd.prog 5 #[.int .i64 z] wr fun e w' => ∃ (d c : Nat) (m : ByteArray) (ring : List ByteArray) (v : Value), e = .returned (.agg #[.int .i64 (d : Int), .int .i64 (c : Int), .string m, v]) ∧ MayR (d : Int) (c : Int) m ring ∧ RgS w' v ring ∧ Below wr.heap.size wr w') := recordOf_ok z wr hz1 hz2
        clear hz1 hz2
        go_wp2_with fail
        refine HRC.out.mono ?_
        rintro e W1 ⟨d, c, m, ring, rv, rfl, hM, hRg, hb1⟩
        have HR1 : Hid (TbR w W1 w.heap.size u xs Ts (.slice ea k ec)) := HR.out.on hb1
        have hxl : xs.length = k := by have h1 := HR.out.ents.1; have h2 := HT.out; omega
        have HAD : Hid (Calls Tryd.prog 4 #[.pointer (some ⟨w.heap.size, 0, none⟩), .agg #[.int .i64 (d : Int), .int .i64 (c : Int), .string m, rv]] W1 fun e w' => ∃ (v' x : Value), e = .returned (.int .i64 0) ∧ (w'.heap[w.heap.size]? = some (.cells #[v'] 25) ∧ w'.ownsRow w.heap.size 40 1 v' (xs ++ [x]).length (xs ++ [x]) ∧ Ents w' (xs ++ [x]) (Ts ++ [(txB d c m ring).data.toList]) ∧ w'.ownsRow w.heap.size 3 1 (.slice ea k ec) Ts.length ((endsL Ts).map (Value.int .i64)) ∧ Below w.heap.size w w')) := by
          refine (add_ok w.heap.size w.heap.size u xs Ts d c m rv ring W1 HR1.out.bk HR1.out.own HR1.out.ents hRg.rg hM (by omega)).mono ?_
          rintro e w' ⟨v', x, rfl, h1, h2, h3, h4⟩
          exact ⟨v', x, rfl, HR1.out.added (Nat.le_refl _) h1 h2 h3 h4⟩
        obtain ⟨g9, o9, cap9, cur9, fr9, erv, -⟩ := hRg.mem
        generalize ring.length = l9 at *
        subst erv
        clear hM hRg hb1 HRC hcell hxl
        generalize (txB d c m ring).data.toList = T at *
        go_wp2_with fail
        refine HAD.out.mono ?_
        rintro e W2 ⟨u', x, rfl, hA⟩
        have HA := hide hA
        have hlx : (xs ++ [x]).length ≤ 1000 := by have h1 := hA.2.2.1.1; have h2 := HT.out; rw [h1, List.length_append, h2]; simp; omega
        have HBy : Hid (Calls Tryd.prog 6 #[.pointer (some ⟨w.heap.size, 0, none⟩)] W2 fun e w' => ∃ u, e = .returned u ∧ w'.ownsRow W2.heap.size 5 1 u (lns (Ts ++ [T])).length (bcs (lns (Ts ++ [T]))) ∧ Below W2.heap.size W2 w') := bytes_ok w.heap.size (0, 0) u' (xs ++ [x]) (Ts ++ [T]) W2 hA.1 (SlAt.own hA.2.1) hA.2.2.1 (HG.out.below hA.2.2.2.2).tab hlx
        clear hA HAD hlx
        go_wp2_with fail
        refine HBy.out.mono ?_
        rintro e W3 ⟨bv, rfl, hbo, hb3⟩
        obtain ⟨ba, bc, rfl⟩ := row_form hbo
        have HA3 := hide (tb5_on HA.out hb3)
        have HFEW : Hid ((lns (Ts ++ [T])).length ≤ 82194) := by
          have h1 := lns_le HA3.out.2.2.1.pt
          rw [List.length_append, HT.out] at h1
          have : (k + [T].length) * 3914 ≤ 21 * 3914 := Nat.mul_le_mul_right _ (by simp; omega)
          show _ ≤ _
          omega
        have HEL : Hid (∀ L, (lns (Ts ++ [T])).length = L → ∀ W4 ev', W3.grownBy W4 (Value.slice ea k ec).ownBlock → W4.ownsRow w.heap.size 3 1 ev' (k + 1) ((endsL Ts).map (Value.int .i64) ++ [.int .i64 (L : Int)]) → TbR w W4 w.heap.size u' (xs ++ [x]) (Ts ++ [T]) ev') := fun L hL W4 ev' hg ho => by
          refine TbR.made HA3.out hg ?_
          rw [HT.out, hL]
          exact ho
        have HOE : Hid (W3.ownsRow w.heap.size 3 1 (.slice ea k ec) k ((endsL Ts).map (Value.int .i64))) := by have := HA3.out.2.2.2.1; rw [HT.out] at this; exact this
        have HZ3 := hide HA3.out.2.2.2.2.size
        obtain ⟨L, hL⟩ : ∃ L, (lns (Ts ++ [T])).length = L := ⟨_, rfl⟩
        have HEL2 := hide (HEL.out L hL)
        have hTl : (Ts ++ [T]).length = k + 1 := by rw [List.length_append, HT.out]; rfl
        have HTL := hide hTl
        rw [hL]
        rw [hL] at HFEW
        clear hbo hb3 HA HA3 HBy HEL hTl hL
        generalize (endsL Ts).map (Value.int .i64) = EL at *
        go_wp2_with (at_builtin; refine wpList_append_keep _ rfl _ _ 22 rfl w.heap.size 3 j0 (.int .i64 0) 1 8 Tryd.underlying22 hji hjz0 hjz1 hjz2 rfl (by decide) _ _ _ rfl (HOE.out.alloc _) ⟨W3.heap.size, 0, none⟩ 1 1 [.int .i64 (L : Int)] rfl rfl (cell_one_new _ _ _) ?c1 ?c2 ?c3 ?c4 ?_)
        case c1 => intro u hu; simp at hu; subst hu; rfl
        case c2 => unfold maxLen; omega
        case c3 => omega
        case c4 => have := HZ3.out; rw [alloc_sz]; omega
        intro ev' W4 hO4 hg4 _
        have HR4 := hide (HEL2.out W4 ev' ((World.grownBy_alloc W3 _ _).trans hg4) hO4)
        obtain ⟨va, vc, ev⟩ := row_form hO4
        subst ev
        clear hO4 hg4 HEL2 HOE
        go_wp2
        go_roundw
        case rel => exact ⟨k + 1, u', xs ++ [x], Ts ++ [T], va, vc, by omega, by go_num, rfl, HR4, HTL⟩
        case measure => simp [RowKit.intOf]; omega
      · obtain rfl : k = n := by omega
        have HBy : Hid (Calls Tryd.prog 6 #[.pointer (some ⟨w.heap.size, 0, none⟩)] wr fun e w' => ∃ u, e = .returned u ∧ w'.ownsRow wr.heap.size 5 1 u (lns Ts).length (bcs (lns Ts)) ∧ Below wr.heap.size wr w') := bytes_ok w.heap.size (0, 0) u xs Ts wr HR.out.bk HR.out.slat HR.out.ents (HG.out.below HR.out.below).tab (by have h1 := HR.out.ents.1; have h2 := HT.out; omega)
        have HPT : Hid (∀ T, T ∈ Ts → PT T) := HR.out.ents.pt
        have hfew := HR.out.few (by rw [HT.out]; exact hn20)
        have HLP : Hid (∀ i j, i ≤ j → lnE Ts i ≤ lnE Ts j) := fun i j h => lnE_mono Ts h
        obtain ⟨L, hL⟩ : ∃ L, (lns Ts).length = L := ⟨_, rfl⟩
        rw [hL] at hfew
        have HL := hide hL
        go_wp2_with fail
        refine HBy.out.mono ?_
        rintro e W1 ⟨bv, rfl, hbo, hb1⟩
        have HR1 := hide (HR.out.on hb1)
        rw [hL] at hbo
        obtain ⟨ba, bc, rfl⟩ := row_form hbo
        have HBO := hide hbo
        have HBS : Hid (BySl W1 (.slice ba L bc) ⟨(lns Ts).toArray⟩) := by
          have h9 := hbo
          rw [← hL] at h9
          have := BySl.own h9
          rwa [hL] at this
        have HBASE : Hid (w.heap.size ≤ wr.heap.size) := HR.out.below.size
        have HBC : Hid (L ≤ bc ∧ bc ≤ 9223372036854775807) := by
          obtain ⟨a, cap, e, h1, h2, _⟩ := HBS.out
          simp only [Value.slice.injEq] at e
          obtain ⟨_, e2, e3⟩ := e
          constructor <;> omega
        have HPk := hide (pick_any a1 ((L : Int) + 1) W1 i1.1 i1.2 (by omega) (by omega))
        clear hbo hb1 HBy hL HR
        go_wp2_with fail
        refine HPk.out.mono ?_
        rintro e W1' ⟨qi, q0, q1, rfl, rfl⟩
        obtain ⟨q, rfl⟩ : ∃ q : Nat, qi = (q : Int) := ⟨qi.toNat, by omega⟩
        obtain ⟨j, hj1, hOp, hj2, hj3⟩ := opn_cut (P := PT) PT.cln Ts HPT.out q
        rw [HT.out] at hj1 hj3
        have HOp := hide hOp
        have HJ : Hid (∀ i, i < k → (i < j → lnE Ts (i + 1) ≤ q) ∧ (j ≤ i → q < lnE Ts (i + 1))) := fun i hi => ⟨fun h => Nat.le_trans (HLP.out _ _ (by omega)) hj2, fun h => Nat.lt_of_lt_of_le (hj3 (by omega)) (HLP.out _ _ (by omega))⟩
        have hqL : q ≤ L := by omega
        clear hOp hj2 hj3 q0 q1 HPk
        have HEC : Hid (∀ i, i < k → ∃ ga, ea = some ⟨ga, 0, none⟩ ∧ W1.cell? ⟨ga, i, none⟩ = some (.int .i64 ((lnE Ts (i + 1) : Nat) : Int))) := fun i hi => by
          have h9 := HR1.out.ends
          rw [HT.out] at h9
          rcases h9.2 with ⟨_, h0⟩ | ⟨g, cap, cur, e1, hg, hh, hn1, hn2, hn3, hn4⟩
          · omega
          · simp only [Value.slice.injEq] at e1
            obtain ⟨e2, _, e3⟩ := e1
            refine ⟨g, e2, ?_⟩
            have h5 : ((endsL Ts).map (Value.int .i64))[i]? = some (.int .i64 ((lnE Ts (i + 1) : Nat) : Int)) := by rw [List.getElem?_map, endsL_get (by rw [HT.out]; exact hi)]; rfl
            rw [← hn4, List.getElem?_take, if_pos (by omega), Array.getElem?_toList] at h5
            rw [World.cell?, hh]
            exact h5
        go_wp2
        go_loop [14, 15] (fun tv iv => ∃ i : Nat, i ≤ k ∧ iv = .int .i64 (i : Int) ∧ tv = .int .i64 ((lnE Ts (min i j) : Nat) : Int)) (fun _ iv => k - (RowKit.intOf iv).toNat)
        case atStart => exact ⟨0, Nat.zero_le _, rfl, by rw [Nat.zero_min]; rfl⟩
        case round =>
          obtain ⟨i, hi, rfl, rfl⟩ := hrel
          by_cases hlt : i < k
          · have hi1 : (i : Int) < (k : Int) := by omega
            obtain ⟨ga, rfl, hcell⟩ := HEC.out i hlt
            obtain ⟨hJ1, hJ2⟩ := HJ.out i hlt
            by_cases hj : i < j
            · have hle : ((lnE Ts (i + 1) : Nat) : Int) ≤ (q : Int) := by have := hJ1 hj; omega
              have hm : min (i + 1) j = i + 1 := by omega
              have HM : Hid (lnE Ts (i + 1) = lnE Ts (min (i + 1) j)) := by rw [hm]; rfl
              clear hJ1 hJ2 hm hj
              generalize lnE Ts (i + 1) = E1 at *
              generalize lnE Ts (min i j) = E0 at *
              go_wp2
              go_round
              case rel => exact ⟨i + 1, by omega, by go_num, by rw [HM.out]⟩
              case measure => simp [RowKit.intOf]; omega
            · have hle : ¬ ((lnE Ts (i + 1) : Nat) : Int) ≤ (q : Int) := by have := hJ2 (by omega); omega
              have hle2 : (q : Int) < ((lnE Ts (i + 1) : Nat) : Int) := by omega
              have hm : min (i + 1) j = min i j := by omega
              have HM : Hid (lnE Ts (min i j) = lnE Ts (min (i + 1) j)) := by rw [hm]; rfl
              clear hJ1 hJ2 hm hj
              generalize lnE Ts (i + 1) = E1 at *
              generalize lnE Ts (min i j) = E0 at *
              go_wp2
              go_round
              case rel => exact ⟨i + 1, by omega, by go_num, by rw [HM.out]⟩
              case measure => simp [RowKit.intOf]; omega
          · have hik : k = i := by omega
            subst hik
            have hmj : min k j = j := by omega
            have hWn : lnE Ts j ≤ L := by
              have h1 := HLP.out j Ts.length (by rw [HT.out]; exact hj1)
              have h2 : lnE Ts Ts.length = L := by unfold lnE; rw [List.take_length]; exact HL.out
              omega
            have HOpen : Hid (Calls Tryd.prog 8 #[.slice ba q bc] W1 fun e w' => ∃ (p : Nat) (u : Value) (xs : List Value), e = .returned (.tuple #[.pointer (some ⟨p, 0, none⟩), .int .i64 ((lnE Ts j : Nat) : Int)]) ∧ W1.heap.size ≤ p ∧ w'.heap[p]? = some (.cells #[u] 25) ∧ w'.ownsRow W1.heap.size 40 1 u xs.length xs ∧ Ents w' xs (Ts.take j) ∧ Below W1.heap.size W1 w') := by
              have hbs := HBS.out
              rw [← HL.out] at hbs
              refine open_ok (.slice ba q bc) ⟨((lns Ts).take q).toArray⟩ (Ts.take j) W1 (by_take hbs q (by rw [HL.out]; exact hqL)) (HG.out.below HR1.out.below) ?_ HOp.out ?_
              · show ((lns Ts).take q).toArray.size ≤ _
                rw [List.size_toArray, List.length_take]
                omega
              · rw [List.length_take]
                omega
            rw [hmj]
            obtain ⟨E, hE⟩ : ∃ E, lnE Ts j = E := ⟨_, rfl⟩
            have HE := hide hE
            rw [hE]
            rw [hE] at HOpen hWn
            clear hE hmj
            have hb1 := HBC.out.1
            have hqb : (q : Int) ≤ (bc : Int) := by omega
            go_wp2_with fail
            refine HOpen.out.mono ?_
            rintro e W2 ⟨px, ux, ys, rfl, hpx, hhx, hox, hex, hb2⟩
            obtain ⟨B, hB⟩ : ∃ B : ByteArray, B = ⟨(lns (Ts.take j)).toArray⟩ := ⟨_, rfl⟩
            have hLt : (lns (Ts.take j)).length = E := HE.out
            have HC2 : Hid (∀ W', Below W2.heap.size W2 W' → (convert 32 9 (.slice ba E bc)).run Tryd.prog W' = .ok (.string B) W') := fun W' hW => by
              have h1 := HBS.out
              rw [← HL.out] at h1
              have h2 := by_take h1 E (by rw [HL.out]; exact hWn)
              have h3 : (lns Ts).take E = lns (Ts.take j) := by rw [← HE.out]; exact lns_take Ts j
              rw [h3, ← hB] at h2
              exact by_conv (h2.below (hb2.trans (hW.mono hb2.size)))
            have HBy2 : Hid (∀ W', Below W2.heap.size W2 W' → Calls Tryd.prog 6 #[.pointer (some ⟨px, 0, none⟩)] W' fun e w' => ∃ a9 c9, e = .returned (.slice a9 E c9) ∧ (convert 32 9 (.slice a9 E c9)).run Tryd.prog w' = .ok (.string B) w' ∧ Below W'.heap.size W' w') := fun W' hW => by
              refine (bytes_ok px (0, 0) ux ys (Ts.take j) W' ((hW.block px (Array.getElem?_eq_some_iff.1 hhx).1).trans hhx) ((SlAt.own hox).below hW) (hex.keep (StrK.of hW)) (HG.out.below (HR1.out.below.trans ((hb2.trans (hW.mono hb2.size)).mono HR1.out.below.size))).tab ?_).mono ?_
              · have h1 := hex.1
                rw [h1, List.length_take]; omega
              · rintro e w' ⟨u9, rfl, ho9, hb9⟩
                have h5 := BySl.own ho9
                rw [hLt] at ho9
                obtain ⟨a9, c9, rfl⟩ := row_form ho9
                refine ⟨a9, c9, rfl, ?_, hb9⟩
                rw [← hB] at h5
                exact by_conv h5
            have hEE : ((E : Int) == (E : Int)) = true := by simp
            have hBB : (B.toList == B.toList) = true := by simp
            have hEb : (E : Int) ≤ (bc : Int) := by omega
            have HX2 : Hid (Below w.heap.size w W2) := HR1.out.below.trans (hb2.mono HR1.out.below.size)
            have HBS2 : Hid (BySl W2 (.slice ba L bc) ⟨(lns Ts).toArray⟩) := HBS.out.below hb2
            have HBO2 : Hid (W2.ownsRow w.heap.size 5 1 (.slice ba L bc) L (bcs (lns Ts))) := row_low (fr_block HBO.out (fun g hg => hb2.block g (HBO.out.lt g hg).2)) HBASE.out
            have HEC2 : Hid (∀ i, i < k → ∃ ga, ea = some ⟨ga, 0, none⟩ ∧ ga < W2.heap.size ∧ W2.cell? ⟨ga, i, none⟩ = some (.int .i64 ((lnE Ts (i + 1) : Nat) : Int)) ∧ W2.ownsRow w.heap.size 3 1 (.slice ea k ec) k ((endsL Ts).map (Value.int .i64))) := fun i hi => by
              obtain ⟨ga, e1, hc⟩ := HEC.out i hi
              have hlt2 := World.block_lt_of_cell? _ _ hc
              have h9 := HR1.out.ends
              rw [HT.out] at h9
              exact ⟨ga, e1, Nat.lt_of_lt_of_le hlt2 hb2.size, (hb2.cell (p := ⟨ga, i, none⟩) hlt2).trans hc, fr_block h9 (fun g hg => hb2.block g (h9.lt g hg).2)⟩
            clear hB hLt hox hhx hex hb2 HOpen HEC HBS HBO HR1 hpx HJ HOp hqb hqL
            go_upto_region 21 with fail
            go_cut [93] from 70 to 93 (fun cv wx => cv = .bool false ∧ Hid (Below W2.heap.size W2 wx))
            case first =>
              refine wp_region_held_drew (S := fun W' => Below W2.heap.size W2 W') (by kernel_rfl) ((Below.refl _ _).drew) (fun hS => ?_)
              refine wpAnyH_take (i := 0) (v := .pointer (some ⟨px, 0, none⟩)) rfl (by kernel_rfl) (by kernel_rfl) (by kernel_rfl) (fun _ _ _ h => h) (Or.inl ⟨by kernel_rfl, fun w' hS' => by clear hS'; go_simp⟩) hS ?_
              refine wpAnyH_take (i := 1) (v := .bool false) rfl (by kernel_rfl) (by kernel_rfl) (by kernel_rfl) (fun _ _ _ h => h) (Or.inl ⟨by kernel_rfl, fun w' hS' => by clear hS'; go_simp⟩) hS ?_
              refine wpAnyH_take (i := 2) (v := .bool false) rfl (by kernel_rfl) (by kernel_rfl) (by kernel_rfl) (fun _ _ _ h => h) (Or.inl ⟨by kernel_rfl, fun w' hS' => by clear hS'; go_simp⟩) hS ?_
              refine wpAnyH_take (i := 3) (v := .int .i64 (E : Int)) rfl (by kernel_rfl) (by kernel_rfl) (by kernel_rfl) (fun _ _ _ h => h) (Or.inl ⟨by kernel_rfl, fun w' hS' => by clear hS'; go_simp⟩) hS ?_
              refine wpAnyH_take (i := 4) (v := .int .i64 (E : Int)) rfl (by kernel_rfl) (by kernel_rfl) (by kernel_rfl) (fun _ _ _ h => h) (Or.inl ⟨by kernel_rfl, fun w' hS' => by clear hS'; go_simp⟩) hS ?_
              refine wpAnyH_take (i := 5) (v := .bool false) rfl (by kernel_rfl) (by kernel_rfl) (by kernel_rfl) (fun _ _ _ h => h) (Or.inl ⟨by kernel_rfl, fun w' hS' => by clear hS'; go_simp⟩) hS ?_
              refine wpAnyH_take (i := 6) (v := .bool false) rfl (by kernel_rfl) (by kernel_rfl) (by kernel_rfl) (fun _ _ _ h => h) (Or.inl ⟨by kernel_rfl, fun w' hS' => by clear hS'; go_simp⟩) hS ?_
              refine wpAnyH_take (i := 7) (v := .bool false) rfl (by kernel_rfl) (by kernel_rfl) (by kernel_rfl) (fun _ _ _ h => h) (Or.inl ⟨by kernel_rfl, fun w' hS' => by clear hS'; go_simp⟩) hS ?_
              refine wpAnyH_take (i := 8) (v := .pointer (some ⟨px, 0, none⟩)) rfl (by kernel_rfl) (by kernel_rfl) (by kernel_rfl) (fun _ _ _ h => h) (Or.inl ⟨by kernel_rfl, fun w' hS' => by clear hS'; go_simp⟩) hS ?_
              refine wpAnyH_take (i := 11) (v := .slice ba L bc) rfl (by kernel_rfl) (by kernel_rfl) (by kernel_rfl) (fun _ _ _ h => h) (Or.inl ⟨by kernel_rfl, fun w' hS' => by clear hS'; go_simp⟩) hS ?_
              refine wpAnyH_take (i := 12) (v := .int .i64 (E : Int)) rfl (by kernel_rfl) (by kernel_rfl) (by kernel_rfl) (fun _ _ _ h => h) (Or.inl ⟨by kernel_rfl, fun w' hS' => by clear hS'; go_simp⟩) hS ?_
              refine wpAnyH_take (i := 13) (v := .slice ba E bc) rfl (by kernel_rfl) (by kernel_rfl) (by kernel_rfl) (fun _ _ _ h => h) (Or.inl ⟨by kernel_rfl, fun w' hS' => by clear hS'; go_simp⟩) hS ?_
              refine wpAnyH_take (i := 14) (v := .string B) rfl (by kernel_rfl) (by kernel_rfl) (by kernel_rfl) (fun _ _ _ h => h) (Or.inl ⟨by kernel_rfl, fun w' hS' => by have hq := HC2.out w' hS'; clear hS'; go_simp⟩) hS ?_
              refine wpAnyH_ready (rs := [9]) (by kernel_rfl) (by simp) ?_
              refine AllReadyH.cons rfl (fun K hK => ?_) AllReadyH.nil
              go_simp
              refine (HBy2.out _ ((Below.refl _ _).drew)).mono ?_
              rintro e W3 ⟨a9, c9, rfl, hcv, hb3⟩
              have hS3 : Below W2.heap.size W2 W3 := ((Below.refl W2.heap.size W2).drew).trans hb3
              refine hK.out _ _ hS3 (fun hS => ?_)
              clear hK
              refine wpAnyH_ready (rs := [10]) (by kernel_rfl) (by simp) ?_
              refine AllReadyH.cons rfl (fun K hK => ?_) AllReadyH.nil
              go_simp
              refine hK.out _ _ hS3 (fun hS => ?_)
              clear hK
              refine wpAnyH_take (i := 15) (v := .bool false) rfl (by kernel_rfl) (by kernel_rfl) (by kernel_rfl) (fun _ _ _ h => h) (Or.inl ⟨by kernel_rfl, fun w' hS' => by clear hS'; go_simp⟩) hS ?_
              refine wpAnyH_take (i := 16) (v := .bool false) rfl (by kernel_rfl) (by kernel_rfl) (by kernel_rfl) (fun _ _ _ h => h) (Or.inl ⟨by kernel_rfl, fun w' hS' => by clear hS'; go_simp⟩) hS ?_
              refine wpAnyH_take (i := 17) (v := .bool false) rfl (by kernel_rfl) (by kernel_rfl) (by kernel_rfl) (fun _ _ _ h => h) (Or.inl ⟨by kernel_rfl, fun w' hS' => by clear hS'; go_simp⟩) hS ?_
              refine wpAnyH_take (i := 18) (v := .slice ea k ec) rfl (by kernel_rfl) (by kernel_rfl) (by kernel_rfl) (fun _ _ _ h => h) (Or.inl ⟨by kernel_rfl, fun w' hS' => by clear hS'; go_simp⟩) hS ?_
              refine wpAnyH_take (i := 19) (v := .int .i64 (k : Int)) rfl (by kernel_rfl) (by kernel_rfl) (by kernel_rfl) (fun _ _ _ h => h) (Or.inl ⟨by kernel_rfl, fun w' hS' => by clear hS'; go_simp⟩) hS ?_
              refine wpAnyH_take (i := 20) (v := .slice p0 k c0) rfl (by kernel_rfl) (by kernel_rfl) (by kernel_rfl) (fun _ _ _ h => h) (Or.inl ⟨by kernel_rfl, fun w' hS' => by clear hS'; go_simp⟩) hS ?_
              refine wpAnyH_take (i := 21) (v := .int .i64 (k : Int)) rfl (by kernel_rfl) (by kernel_rfl) (by kernel_rfl) (fun _ _ _ h => h) (Or.inl ⟨by kernel_rfl, fun w' hS' => by clear hS'; go_simp⟩) hS ?_
              refine wpAnyH_take (i := 22) (v := .bool false) rfl (by kernel_rfl) (by kernel_rfl) (by kernel_rfl) (fun _ _ _ h => h) (Or.inl ⟨by kernel_rfl, fun w' hS' => by clear hS'; go_simp⟩) hS ?_
              refine wpAnyH_take (i := 23) (v := .bool false) rfl (by kernel_rfl) (by kernel_rfl) (by kernel_rfl) (fun _ _ _ h => h) (Or.inl ⟨by kernel_rfl, fun w' hS' => by clear hS'; go_simp⟩) hS ?_
              refine wpAnyH_done (by kernel_rfl) ?_ _
              go_simp
              go_step
              go_meet
              exact ⟨rfl, hS3⟩
            case rest =>
              obtain ⟨rfl, hS3h⟩ := hcut
              have hS3 := hS3h.out
              have HX3 : Hid (Below w.heap.size w wc) := HX2.out.trans (hS3.mono HX2.out.size)
              have HBO3 : Hid (wc.ownsRow w.heap.size 5 1 (.slice ba L bc) L (bcs (lns Ts))) := fr_block HBO2.out (fun g hg => hS3.block g (HBO2.out.lt g hg).2)
              have HEC3 : Hid (∀ i, i < k → ∃ ga, ea = some ⟨ga, 0, none⟩ ∧ wc.cell? ⟨ga, i, none⟩ = some (.int .i64 ((lnE Ts (i + 1) : Nat) : Int))) := fun i hi => by
                obtain ⟨ga, e1, hlt2, hc, _⟩ := HEC2.out i hi
                exact ⟨ga, e1, (hS3.cell (p := ⟨ga, i, none⟩) hlt2).trans hc⟩
              clear hS3h hS3 HC2 HBy2 hEE hBB hEb HX2 HBS2 HBO2 HEC2
              by_cases hL0 : L = 0
              · have hLq : ((L : Int) == 0) = true := by rw [hL0]; rfl
                have hk0 : k = 0 := by
                  have h1 := HL.out
                  have h2 := HT.out
                  cases hTs : Ts with
                  | nil => rw [hTs] at h2; exact h2.symm
                  | cons T r =>
                    rw [hTs, lns_cons, List.length_append] at h1
                    have := lnOf_pos T
                    omega
                have hkq : ((k : Int) == 0) = true := by rw [hk0]; rfl
                clear hL0 hk0 hlt hk
                go_wp2
                go_ret
                exact ⟨rfl, HX3.out⟩
              · have hLq : ((L : Int) == 0) = false := by rw [beq_eq_false_iff_ne]; omega
                have HPk2 := hide (pick_any a2 (L : Int) wc i2.1 i2.2 (by omega) (by omega))
                go_wp2_with fail
                refine HPk2.out.mono ?_
                rintro e W3' ⟨pi, m0, m1, rfl, rfl⟩
                obtain ⟨p, rfl⟩ : ∃ p : Nat, pi = (p : Int) := ⟨pi.toNat, by omega⟩
                have hpL : p < L := by omega
                clear HPk2 m0 m1
                have HP3a := hide (fun W => pick_det a3 255 W i3.1 i3.2 (by decide) (by decide))
                have b3 := pk_range a3 (n := 255) (by decide)
                obtain ⟨r, hr⟩ : ∃ r : Nat, pk a3 255 = (r : Int) := ⟨(pk a3 255).toNat, by omega⟩
                rw [hr] at b3 HP3a
                have HP3 := HP3a
                have hr255 : r < 255 := by omega
                clear hr b3 HP3a
                obtain ⟨b, hb⟩ : ∃ b, (lns Ts)[p]? = some b := ⟨_, List.getElem?_eq_getElem (by rw [HL.out]; exact hpL)⟩
                obtain ⟨x, hxx⟩ : ∃ x, x = UInt8.ofNat (b.toNat ^^^ (1 + r)) := ⟨_, rfl⟩
                have hxt : x.toNat = b.toNat ^^^ (1 + r) := by
                  have h9 : b.toNat ^^^ (1 + r) < 2 ^ 8 := Nat.xor_lt_two_pow (n := 8) b.toNat_lt (by omega)
                  rw [hxx, UInt8.toNat_ofNat']
                  exact Nat.mod_eq_of_lt h9
                have hxb : x ≠ b := fun e => by
                  rw [e] at hxt
                  have h9 := congrArg (fun z => b.toNat ^^^ z) hxt
                  simp only [Nat.xor_self, ← Nat.xor_assoc, Nat.zero_xor] at h9
                  omega
                have HXV : Hid (bits .xor .u8 ((b.toNat : Nat) : Int) (1 + (r : Int)) = ((x.toNat : Nat) : Int)) := by
                  have h9 := bits_xor_u8 b.toNat (1 + r) b.toNat_lt (by omega)
                  rw [← hxt] at h9
                  rw [← h9]
                  rfl
                obtain ⟨j2, hj2a, hOp2, hj2b, hj2c⟩ := opn_turn (P := PT) PT.cln Ts HPT.out p x (by rw [HL.out]; exact hpL) (by rw [hb]; intro e; injection e with e; exact hxb e.symm)
                rw [HT.out] at hj2a
                have HOp2 := hide hOp2
                have HJ2 : Hid (∀ i, i < k → (i < j2 → lnE Ts (i + 1) ≤ p) ∧ (j2 ≤ i → p < lnE Ts (i + 1))) := fun i hi => ⟨fun h => Nat.le_trans (HLP.out _ _ (by omega)) hj2b, fun h => Nat.lt_of_lt_of_le hj2c (HLP.out _ _ (by omega))⟩
                have HEB : Hid (lnE Ts j2 ≤ p) := hj2b
                have HBX := hide hb
                clear hOp2 hj2b hj2c hxx hxt hxb hb
                go_wp2
                go_loop [14, 18] (fun tv iv => ∃ i : Nat, i ≤ k ∧ iv = .int .i64 (i : Int) ∧ tv = .int .i64 ((lnE Ts (min i j2) : Nat) : Int)) (fun _ iv => k - (RowKit.intOf iv).toNat)
                case atStart => exact ⟨0, Nat.zero_le _, rfl, by rw [Nat.zero_min]; rfl⟩
                case round =>
                  obtain ⟨i, hi, rfl, rfl⟩ := hrel
                  by_cases hlt : i < k
                  · have hi1 : (i : Int) < (k : Int) := by omega
                    obtain ⟨ga, rfl, hcell⟩ := HEC3.out i hlt
                    obtain ⟨hJ1, hJ2⟩ := HJ2.out i hlt
                    by_cases hj : i < j2
                    · have hle : ((lnE Ts (i + 1) : Nat) : Int) ≤ (p : Int) := by have := hJ1 hj; omega
                      have hm : min (i + 1) j2 = i + 1 := by omega
                      have HM : Hid (lnE Ts (i + 1) = lnE Ts (min (i + 1) j2)) := by rw [hm]; rfl
                      clear hJ1 hJ2 hm hj
                      generalize lnE Ts (i + 1) = E1 at *
                      generalize lnE Ts (min i j2) = E0 at *
                      go_wp2
                      go_round
                      case rel => exact ⟨i + 1, by omega, by go_num, by rw [HM.out]⟩
                      case measure => simp [RowKit.intOf]; omega
                    · have hle : ¬ ((lnE Ts (i + 1) : Nat) : Int) ≤ (p : Int) := by have := hJ2 (by omega); omega
                      have hle2 : (p : Int) < ((lnE Ts (i + 1) : Nat) : Int) := by omega
                      have hm : min (i + 1) j2 = min i j2 := by omega
                      have HM : Hid (lnE Ts (min i j2) = lnE Ts (min (i + 1) j2)) := by rw [hm]; rfl
                      clear hJ1 hJ2 hm hj
                      generalize lnE Ts (i + 1) = E1 at *
                      generalize lnE Ts (min i j2) = E0 at *
                      go_wp2
                      go_round
                      case rel => exact ⟨i + 1, by omega, by go_num, by rw [HM.out]⟩
                      case measure => simp [RowKit.intOf]; omega
                  · have hik2 : k = i := by omega
                    subst hik2
                    have hmj : min k j2 = j2 := by omega
                    rw [hmj]
                    obtain ⟨E2, hE2⟩ : ∃ E2, lnE Ts j2 = E2 := ⟨_, rfl⟩
                    have HE2 := hide hE2
                    rw [hE2]
                    rw [hE2] at HEB
                    clear hE2 hmj
                    generalize wc = W3 at *
                    obtain ⟨bb, hba, hbcell, hbfrz, HST⟩ : ∃ bb, ba = some ⟨bb, 0, none⟩ ∧ W3.cell? ⟨bb, p, none⟩ = some (.int .u8 ((b.toNat : Nat) : Int)) ∧ W3.frozen? ⟨bb, p, none⟩ = false ∧ Hid (BySl (W3.setCell ⟨bb, p, none⟩ (.int .u8 ((x.toNat : Nat) : Int))) (.slice (some ⟨bb, 0, none⟩) L bc) ⟨((lns Ts).set p x).toArray⟩ ∧ w.heap.size ≤ bb) := by
                      have h9 := HBO3.out
                      rcases h9.2 with ⟨_, h0⟩ | ⟨g, cap, cur, e1, hg, hh, hn1, hn2, hn3, hn4⟩
                      · omega
                      · simp only [Value.slice.injEq] at e1
                        obtain ⟨e2, _, e3⟩ := e1
                        subst e3
                        refine ⟨g, e2, ?_, by simp [World.frozen?, hh], ?_, hg⟩
                        · have h5 : (bcs (lns Ts))[p]? = some (.int .u8 ((b.toNat : Nat) : Int)) := by unfold bcs; rw [List.getElem?_map, HBX.out]; rfl
                          rw [← hn4, List.getElem?_take, if_pos (by omega), Array.getElem?_toList] at h5
                          rw [World.cell?, hh]
                          exact h5
                        · subst e2
                          have h6 := owns_set (m := p) h9 (.int .u8 ((x.toNat : Nat) : Int))
                          have h7 : (bcs (lns Ts)).set p (.int .u8 ((x.toNat : Nat) : Int)) = bcs ((lns Ts).set p x) := by unfold bcs; rw [List.map_set]
                          rw [h7] at h6
                          have h8 : ((lns Ts).set p x).length = L := by rw [List.length_set]; exact HL.out
                          rw [← h8] at h6 ⊢
                          exact BySl.own h6
                    subst hba
                    have HBL : Hid (∀ v, Below w.heap.size w (W3.setCell ⟨bb, p, none⟩ v)) := fun v => HX3.out.setCell (p := ⟨bb, p, none⟩) HST.out.2 v
                    have hpi : (p : Int) < (L : Int) := by omega
                    have hw1r : IntKind.i64.wrap (1 + (r : Int)) = 1 + (r : Int) := by rw [IntKind.wrap_i64]; omega
                    have hw2r : IntKind.u8.wrap (1 + (r : Int)) = 1 + (r : Int) := by rw [show ∀ n : Int, IntKind.u8.wrap n = n % 256 from fun n => by simp [IntKind.wrap, IntKind.bits, IntKind.signed]]; omega
                    clear HBO3 HEC3 HJ2 HBX hL0 hLq hk hlt
                    go_upto_region 32 with fail
                    go_cut [14] from 70 to 153 (fun ev wx => ev = .int .i64 (E2 : Int) ∧ Hid (BySl wx (.slice (some ⟨bb, 0, none⟩) L bc) ⟨((lns Ts).set p x).toArray⟩ ∧ Below w.heap.size w wx))
                    case first =>
                      refine wp_region_held_drew (S := fun _ => True) (by kernel_rfl) trivial (fun hS => ?_)
                      refine wpAnyH_take (i := 0) (v := .slice (some ⟨bb, 0, none⟩) L bc) rfl (by kernel_rfl) (by kernel_rfl) (by kernel_rfl) (fun _ _ _ h => h) (Or.inl ⟨by kernel_rfl, fun w' hS' => by clear hS'; go_simp⟩) hS ?_
                      refine wpAnyH_take (i := 1) (v := .int .i64 (p : Int)) rfl (by kernel_rfl) (by kernel_rfl) (by kernel_rfl) (fun _ _ _ h => h) (Or.inl ⟨by kernel_rfl, fun w' hS' => by clear hS'; go_simp⟩) hS ?_
                      refine wpAnyH_take (i := 2) (v := .slice (some ⟨bb, 0, none⟩) L bc) rfl (by kernel_rfl) (by kernel_rfl) (by kernel_rfl) (fun _ _ _ h => h) (Or.inl ⟨by kernel_rfl, fun w' hS' => by clear hS'; go_simp⟩) hS ?_
                      refine wpAnyH_take (i := 3) (v := .int .i64 (p : Int)) rfl (by kernel_rfl) (by kernel_rfl) (by kernel_rfl) (fun _ _ _ h => h) (Or.inl ⟨by kernel_rfl, fun w' hS' => by clear hS'; go_simp⟩) hS ?_
                      refine wpAnyH_take (i := 4) (v := .pointer (some ⟨bb, p, none⟩)) rfl (by kernel_rfl) (by kernel_rfl) (by kernel_rfl) (fun _ _ _ h => h) (Or.inl ⟨by kernel_rfl, fun w' hS' => by clear hS'; go_simp⟩) hS ?_
                      refine wpAnyH_take (i := 6) (v := .int .i64 a3) rfl (by kernel_rfl) (by kernel_rfl) (by kernel_rfl) (fun _ _ _ h => h) (Or.inl ⟨by kernel_rfl, fun w' hS' => by clear hS'; go_simp⟩) hS ?_
                      refine wpAnyH_ready (rs := [5, 7]) (by kernel_rfl) (by simp) ?_
                      refine AllReadyH.cons rfl (fun K hK => ?_) (AllReadyH.cons rfl (fun K hK => ?_) AllReadyH.nil)
                      · go_simp
                        refine hK.out _ _ trivial (fun hS => ?_)
                        clear hK
                        refine wpAnyH_ready (rs := [7]) (by kernel_rfl) (by simp) ?_
                        refine AllReadyH.cons rfl (fun K hK => ?_) AllReadyH.nil
                        go_simp
                        refine (HP3.out _).mono ?_
                        rintro e W5 ⟨rfl, rfl⟩
                        refine hK.out _ _ trivial (fun hS => ?_)
                        clear hK
                        refine wpAnyH_take (i := 8) (v := .int .i64 (1 + (r : Int))) rfl (by kernel_rfl) (by kernel_rfl) (by kernel_rfl) (fun _ _ _ h => h) (Or.inl ⟨by kernel_rfl, fun w' hS' => by clear hS'; go_simp⟩) hS ?_
                        refine wpAnyH_take (i := 9) (v := .int .u8 (1 + (r : Int))) rfl (by kernel_rfl) (by kernel_rfl) (by kernel_rfl) (fun _ _ _ h => h) (Or.inl ⟨by kernel_rfl, fun w' hS' => by clear hS'; go_simp⟩) hS ?_
                        refine wpAnyH_take (i := 10) (v := .int .u8 (x.toNat : Int)) rfl (by kernel_rfl) (by kernel_rfl) (by kernel_rfl) (fun _ _ _ h => h) (Or.inl ⟨by kernel_rfl, fun w' hS' => by have hq := HXV.out; clear hS'; go_simp⟩) hS ?_
                        refine wpAnyH_take (i := 11) (v := .pointer (some ⟨bb, p, none⟩)) rfl (by kernel_rfl) (by kernel_rfl) (by kernel_rfl) (fun _ _ _ h => h) (Or.inl ⟨by kernel_rfl, fun w' hS' => by clear hS'; go_simp⟩) hS ?_
                        refine wpAnyH_ready (rs := [12]) (by kernel_rfl) (by simp) ?_
                        refine AllReadyH.cons rfl (fun K hK => ?_) AllReadyH.nil
                        go_simp
                        refine hK.out _ _ trivial (fun hS => ?_)
                        clear hK
                        refine wpAnyH_done (by kernel_rfl) ?_ _
                        go_simp
                        go_step
                        go_meet
                        exact ⟨rfl, HST.out.1, (HBL.out _).drew⟩
                      · go_simp
                        refine (HP3.out _).mono ?_
                        rintro e W5 ⟨rfl, rfl⟩
                        refine hK.out _ _ trivial (fun hS => ?_)
                        clear hK
                        refine wpAnyH_take (i := 8) (v := .int .i64 (1 + (r : Int))) rfl (by kernel_rfl) (by kernel_rfl) (by kernel_rfl) (fun _ _ _ h => h) (Or.inl ⟨by kernel_rfl, fun w' hS' => by clear hS'; go_simp⟩) hS ?_
                        refine wpAnyH_take (i := 9) (v := .int .u8 (1 + (r : Int))) rfl (by kernel_rfl) (by kernel_rfl) (by kernel_rfl) (fun _ _ _ h => h) (Or.inl ⟨by kernel_rfl, fun w' hS' => by clear hS'; go_simp⟩) hS ?_
                        refine wpAnyH_ready (rs := [5]) (by kernel_rfl) (by simp) ?_
                        refine AllReadyH.cons rfl (fun K hK => ?_) AllReadyH.nil
                        go_simp
                        refine hK.out _ _ trivial (fun hS => ?_)
                        clear hK
                        refine wpAnyH_take (i := 10) (v := .int .u8 (x.toNat : Int)) rfl (by kernel_rfl) (by kernel_rfl) (by kernel_rfl) (fun _ _ _ h => h) (Or.inl ⟨by kernel_rfl, fun w' hS' => by have hq := HXV.out; clear hS'; go_simp⟩) hS ?_
                        refine wpAnyH_take (i := 11) (v := .pointer (some ⟨bb, p, none⟩)) rfl (by kernel_rfl) (by kernel_rfl) (by kernel_rfl) (fun _ _ _ h => h) (Or.inl ⟨by kernel_rfl, fun w' hS' => by clear hS'; go_simp⟩) hS ?_
                        refine wpAnyH_ready (rs := [12]) (by kernel_rfl) (by simp) ?_
                        refine AllReadyH.cons rfl (fun K hK => ?_) AllReadyH.nil
                        go_simp
                        refine hK.out _ _ trivial (fun hS => ?_)
                        clear hK
                        refine wpAnyH_done (by kernel_rfl) ?_ _
                        go_simp
                        go_step
                        go_meet
                        exact ⟨rfl, HST.out.1, (HBL.out _).drew⟩
                    case rest =>
                      obtain ⟨rfl, HW5⟩ := hcut
                      generalize wc = W6 at *
                      have HOpen2 : Hid (Calls Tryd.prog 8 #[.slice (some ⟨bb, 0, none⟩) L bc] W6 fun e w' => ∃ (p : Nat) (u : Value) (xs : List Value), e = .returned (.tuple #[.pointer (some ⟨p, 0, none⟩), .int .i64 (E2 : Int)]) ∧ W6.heap.size ≤ p ∧ w'.heap[p]? = some (.cells #[u] 25) ∧ w'.ownsRow W6.heap.size 40 1 u xs.length xs ∧ Ents w' xs (Ts.take j2) ∧ Below W6.heap.size W6 w') := by
                        have h5 := open_ok (.slice (some ⟨bb, 0, none⟩) L bc) ⟨((lns Ts).set p x).toArray⟩ (Ts.take j2) W6 HW5.out.1 (HG.out.below HW5.out.2) (by
                          show ((lns Ts).set p x).toArray.size ≤ _
                          rw [List.size_toArray, List.length_set, HL.out]
                          omega) HOp2.out (by rw [List.length_take]; omega)
                        have h6 : (lns (Ts.take j2)).length = E2 := HE2.out
                        rw [h6] at h5
                        exact h5
                      go_wp2_with fail
                      refine HOpen2.out.mono ?_
                      rintro e W7 ⟨py, uy, zs, rfl, hpy, hhy, hoy, hey, hb7⟩
                      obtain ⟨B2, hB2⟩ : ∃ B2 : ByteArray, B2 = ⟨(lns (Ts.take j2)).toArray⟩ := ⟨_, rfl⟩
                      have hLt : (lns (Ts.take j2)).length = E2 := HE2.out
                      have HX7 : Hid (Below w.heap.size w W7) := HW5.out.2.trans (hb7.mono HW5.out.2.size)
                      have HC7 : Hid (∀ W', Below W7.heap.size W7 W' → (convert 32 9 (.slice (some ⟨bb, 0, none⟩) E2 bc)).run Tryd.prog W' = .ok (.string B2) W') := fun W' hW => by
                        have h1 := HW5.out.1
                        have h8 : ((lns Ts).set p x).length = L := by rw [List.length_set]; exact HL.out
                        rw [← h8] at h1
                        have hEL : E2 ≤ L := by have := HEB.out; omega
                        have h2 := by_take h1 E2 (by rw [h8]; exact hEL)
                        have h3 : ((lns Ts).set p x).take E2 = lns (Ts.take j2) := by
                          rw [List.take_set_of_le HEB.out, ← HE2.out]
                          exact lns_take Ts j2
                        rw [h3, ← hB2] at h2
                        exact by_conv (h2.below (hb7.trans (hW.mono hb7.size)))
                      have HBy7 : Hid (∀ W', Below W7.heap.size W7 W' → Calls Tryd.prog 6 #[.pointer (some ⟨py, 0, none⟩)] W' fun e w' => ∃ a9 c9, e = .returned (.slice a9 E2 c9) ∧ (convert 32 9 (.slice a9 E2 c9)).run Tryd.prog w' = .ok (.string B2) w' ∧ Below W'.heap.size W' w') := fun W' hW => by
                        refine (bytes_ok py (0, 0) uy zs (Ts.take j2) W' ((hW.block py (Array.getElem?_eq_some_iff.1 hhy).1).trans hhy) ((SlAt.own hoy).below hW) (hey.keep (StrK.of hW)) (HG.out.below (HX7.out.trans (hW.mono HX7.out.size))).tab ?_).mono ?_
                        · have h1 := hey.1
                          rw [h1, List.length_take]; omega
                        · rintro e w' ⟨u9, rfl, ho9, hb9⟩
                          have h5 := BySl.own ho9
                          rw [hLt] at ho9
                          obtain ⟨a9, c9, rfl⟩ := row_form ho9
                          refine ⟨a9, c9, rfl, ?_, hb9⟩
                          rw [← hB2] at h5
                          exact by_conv h5
                      have hEE : ((E2 : Int) == (E2 : Int)) = true := by simp
                      have hBB : (B2.toList == B2.toList) = true := by simp
                      have hEb : (E2 : Int) ≤ (bc : Int) := by have := HEB.out; have := HBC.out.1; omega
                      clear hB2 hLt hoy hhy hey hb7 HOpen2 HW5 hpy HOp2 HST
                      go_upto_region 34 with fail
                      refine wp_region_held_drew (S := fun W' => Below W7.heap.size W7 W') (by kernel_rfl) ((Below.refl _ _).drew) (fun hS => ?_)
                      refine wpAnyH_take (i := 0) (v := .pointer (some ⟨py, 0, none⟩)) rfl (by kernel_rfl) (by kernel_rfl) (by kernel_rfl) (fun _ _ _ h => h) (Or.inl ⟨by kernel_rfl, fun w' hS' => by clear hS'; go_simp⟩) hS ?_
                      refine wpAnyH_take (i := 1) (v := .bool true) rfl (by kernel_rfl) (by kernel_rfl) (by kernel_rfl) (fun _ _ _ h => h) (Or.inl ⟨by kernel_rfl, fun w' hS' => by clear hS'; go_simp⟩) hS ?_
                      refine wpAnyH_take (i := 2) (v := .bool true) rfl (by kernel_rfl) (by kernel_rfl) (by kernel_rfl) (fun _ _ _ h => h) (Or.inl ⟨by kernel_rfl, fun w' hS' => by clear hS'; go_simp⟩) hS ?_
                      refine wpAnyH_take (i := 3) (v := .int .i64 (E2 : Int)) rfl (by kernel_rfl) (by kernel_rfl) (by kernel_rfl) (fun _ _ _ h => h) (Or.inl ⟨by kernel_rfl, fun w' hS' => by clear hS'; go_simp⟩) hS ?_
                      refine wpAnyH_take (i := 4) (v := .int .i64 (E2 : Int)) rfl (by kernel_rfl) (by kernel_rfl) (by kernel_rfl) (fun _ _ _ h => h) (Or.inl ⟨by kernel_rfl, fun w' hS' => by clear hS'; go_simp⟩) hS ?_
                      refine wpAnyH_take (i := 5) (v := .bool true) rfl (by kernel_rfl) (by kernel_rfl) (by kernel_rfl) (fun _ _ _ h => h) (Or.inl ⟨by kernel_rfl, fun w' hS' => by clear hS'; go_simp⟩) hS ?_
                      refine wpAnyH_take (i := 6) (v := .bool true) rfl (by kernel_rfl) (by kernel_rfl) (by kernel_rfl) (fun _ _ _ h => h) (Or.inl ⟨by kernel_rfl, fun w' hS' => by clear hS'; go_simp⟩) hS ?_
                      refine wpAnyH_take (i := 7) (v := .bool true) rfl (by kernel_rfl) (by kernel_rfl) (by kernel_rfl) (fun _ _ _ h => h) (Or.inl ⟨by kernel_rfl, fun w' hS' => by clear hS'; go_simp⟩) hS ?_
                      refine wpAnyH_take (i := 8) (v := .pointer (some ⟨py, 0, none⟩)) rfl (by kernel_rfl) (by kernel_rfl) (by kernel_rfl) (fun _ _ _ h => h) (Or.inl ⟨by kernel_rfl, fun w' hS' => by clear hS'; go_simp⟩) hS ?_
                      refine wpAnyH_take (i := 11) (v := .slice (some ⟨bb, 0, none⟩) L bc) rfl (by kernel_rfl) (by kernel_rfl) (by kernel_rfl) (fun _ _ _ h => h) (Or.inl ⟨by kernel_rfl, fun w' hS' => by clear hS'; go_simp⟩) hS ?_
                      refine wpAnyH_take (i := 12) (v := .int .i64 (E2 : Int)) rfl (by kernel_rfl) (by kernel_rfl) (by kernel_rfl) (fun _ _ _ h => h) (Or.inl ⟨by kernel_rfl, fun w' hS' => by clear hS'; go_simp⟩) hS ?_
                      refine wpAnyH_take (i := 13) (v := .slice (some ⟨bb, 0, none⟩) E2 bc) rfl (by kernel_rfl) (by kernel_rfl) (by kernel_rfl) (fun _ _ _ h => h) (Or.inl ⟨by kernel_rfl, fun w' hS' => by clear hS'; go_simp⟩) hS ?_
                      refine wpAnyH_take (i := 14) (v := .string B2) rfl (by kernel_rfl) (by kernel_rfl) (by kernel_rfl) (fun _ _ _ h => h) (Or.inl ⟨by kernel_rfl, fun w' hS' => by have hq := HC7.out w' hS'; clear hS'; go_simp⟩) hS ?_
                      refine wpAnyH_ready (rs := [9]) (by kernel_rfl) (by simp) ?_
                      refine AllReadyH.cons rfl (fun K hK => ?_) AllReadyH.nil
                      go_simp
                      refine (HBy7.out _ ((Below.refl _ _).drew)).mono ?_
                      rintro e W8 ⟨a8, c8, rfl, hcv, hb8⟩
                      have hS8 : Below W7.heap.size W7 W8 := ((Below.refl W7.heap.size W7).drew).trans hb8
                      refine hK.out _ _ hS8 (fun hS => ?_)
                      clear hK
                      refine wpAnyH_ready (rs := [10]) (by kernel_rfl) (by simp) ?_
                      refine AllReadyH.cons rfl (fun K hK => ?_) AllReadyH.nil
                      go_simp
                      refine hK.out _ _ hS8 (fun hS => ?_)
                      clear hK
                      refine wpAnyH_take (i := 15) (v := .bool true) rfl (by kernel_rfl) (by kernel_rfl) (by kernel_rfl) (fun _ _ _ h => h) (Or.inl ⟨by kernel_rfl, fun w' hS' => by clear hS'; go_simp⟩) hS ?_
                      refine wpAnyH_take (i := 16) (v := .bool true) rfl (by kernel_rfl) (by kernel_rfl) (by kernel_rfl) (fun _ _ _ h => h) (Or.inl ⟨by kernel_rfl, fun w' hS' => by clear hS'; go_simp⟩) hS ?_
                      refine wpAnyH_take (i := 17) (v := .bool true) rfl (by kernel_rfl) (by kernel_rfl) (by kernel_rfl) (fun _ _ _ h => h) (Or.inl ⟨by kernel_rfl, fun w' hS' => by clear hS'; go_simp⟩) hS ?_
                      refine wpAnyH_done (by kernel_rfl) ?_ _
                      have HX8 : Hid (Below w.heap.size w W8) := HX7.out.trans (hS8.mono HX7.out.size)
                      clear hcv hb8 hS hS8 HC7 HBy7
                      go_simp
                      go_wp2
                      go_ret
                      exact ⟨rfl, HX8.out⟩

end Go.Proofs.YtffnfchekbafmaaDoor

/- Contracts of the answer's functions: Rank, At. -/
namespace Go.Proofs.YtffnfchekbafmaaDoor
open Go.RowKit
set_option maxRecDepth 20000

theorem cnt_append (x : Int) (l m : List Int) : cnt x (l ++ m) = cnt x l + cnt x m := by
  unfold cnt; rw [List.filter_append, List.length_append]

theorem cnt_rnd {n m : Nat} (h : m ≤ n) : cnt (m : Int) (rnd n) = m := by
  induction n with
  | zero => have : m = 0 := by omega
            subst this; rfl
  | succ n ih =>
    rw [rnd_snoc, cnt_append]
    by_cases e : m ≤ n
    · rw [ih e, show cnt (m : Int) [(n : Int)] = 0 from by unfold cnt; rw [List.filter_eq_nil_iff.2 (fun y hy => by have := List.mem_singleton.1 hy; subst this; simp; omega)]; rfl]; rfl
    · have e2 : m = n + 1 := by omega
      subst e2
      have h1 : cnt ((n + 1 : Nat) : Int) (rnd n) = n := by
        unfold cnt
        rw [List.filter_eq_self.2 (fun y hy => by
          obtain ⟨i, hi, rfl⟩ := List.mem_map.1 hy
          have := List.mem_range.1 hi
          simp; omega), rnd_length]
      have h2 : cnt ((n + 1 : Nat) : Int) [(n : Int)] = 1 := by
        unfold cnt
        rw [List.filter_eq_self.2 (fun y hy => by have := List.mem_singleton.1 hy; subst this; simp; omega)]; rfl
      rw [h1, h2]

theorem row_perm_rnd {a : List Int} (h : isRow a) : a.Perm (rnd a.length) :=
  perm_of_sub a (rnd a.length) h.2 (fun x hx => by have := h.1 x hx; exact List.mem_map.2 ⟨x.toNat, List.mem_range.2 (by omega), by omega⟩) (rnd_length _).symm

/-- Of a row: the lower ones ahead of a place, and behind it. -/
theorem cnt_split {a : List Int} (h : isRow a) {i m : Nat} (hi : i < a.length) (hm : a[i]?.getD 0 = (m : Int)) : cnt (m : Int) (a.take i) + cnt (m : Int) (a.drop (i + 1)) = m := by
  have hml : m < a.length := by
    have := h.at hi
    rw [show a.getD i 0 = (m : Int) from hm] at this
    omega
  have h1 : cnt (m : Int) a = m := by rw [cnt_perm (row_perm_rnd h), cnt_rnd (by omega)]
  have e : a = a.take i ++ ((m : Int) :: a.drop (i + 1)) := by
    have e2 : a[i] = (m : Int) := by rw [← hm]; simp [List.getElem?_eq_getElem hi]
    rw [← e2, ← List.drop_eq_getElem_cons hi, List.take_append_drop]
  rw [e, cnt_append] at h1
  have h2 : cnt (m : Int) ((m : Int) :: a.drop (i + 1)) = cnt (m : Int) (a.drop (i + 1)) := by
    unfold cnt; rw [List.filter_cons_of_neg (by simp)]
  rw [h2] at h1
  exact h1

theorem rankR_drop {a : List Int} {i m : Nat} (hi : i < a.length) (hm : a[i]?.getD 0 = (m : Int)) : rankR (a.drop i) = cnt (m : Int) (a.drop (i + 1)) * fct (a.length - 1 - i) + rankR (a.drop (i + 1)) := by
  have e2 : a[i] = (m : Int) := by rw [← hm]; simp [List.getElem?_eq_getElem hi]
  rw [List.drop_eq_getElem_cons hi, e2]
  show cnt (m : Int) (a.drop (i + 1)) * fct (a.drop (i + 1)).length + rankR (a.drop (i + 1)) = _
  rw [List.length_drop, show a.length - (i + 1) = a.length - 1 - i from by omega]

theorem rankR_le (a : List Int) (h : a.length ≤ 12) : rankR a ≤ 479001600 := by
  rw [← rkTo_all]; exact rkTo_le a a.length (Nat.le_refl _) h

/-- 'append' to a row of the call's own, as one step of a region that draws. -/
theorem step_append_own {P : Program} {ops : Array Oper} {o : Oper} {a : Act} {w : World} {K : Act → World → Prop} {Q : Exit → Act → World → Prop} {E : Prop} (hg : o.guard = none) (s x : Operand) (t : TypeId)
    (ho : o.op = .call { callee := .builtin .append, args := #[s, x], argTypes := #[t, t] })
    (base : Nat) (e : TypeId) (i : TypeInfo) (z : Value) (size bytes : Nat) (ht : P.underlying t = some (.slice e)) (hi : P.info? e = some i) (hz : i.zero = some z)
    (hsize : i.size = size) (hby : i.bytes = bytes) (hzs : z.cells.size = size) (hsz : 0 < size)
    (v : Value) (n : Nat) (xs : List Value) (hs : a.eval s = v) (hown : w.ownsRow base e size v n xs)
    (ad : Addr) (m c : Nat) (news : List Value) (hx : a.eval x = .slice (some ad) m c) (hl : news.length = m * size) (hnews : ∀ j u, news[j]? = some u → w.cell? (ad.add j) = some u) (h1 : ∀ u ∈ news, u.oneCell' = true)
    (h63 : n + m ≤ maxLen) (hbytes : (n + m) * bytes ≤ 140737488355328) (hbase : base ≤ w.heap.size)
    (h : ∀ v' w', w'.ownsRow base e size v' (n + m) (xs ++ news) → w.grownBy w' v.ownBlock → K (a.put o.dst v') w') :
    if Region.wanted o (yielded ops a.tmps) = true then Oper.wp P o a w K Q else E := by
  have hw : Region.wanted o (yielded ops a.tmps) = true := by simp [Region.wanted, hg]
  rw [if_pos hw]
  exact wp_append_own w s x t ho base e i z size bytes ht hi hz hsize hby hzs hsz v n xs hs hown ad m c news hx hl hnews h1 h63 hbytes hbase (fun v' w' h2 h3 _ => h v' w' h2 h3)

theorem own_at {w : World} {base e g n cap : Nat} {xs : List Value} (h : w.ownsRow base e 1 (.slice (some ⟨g, 0, none⟩) n cap) n xs) (w4 : World) (hw : w4.heap[g]? = w.heap[g]?) {j : Nat} {u : Value} (hu : xs[j]? = some u) : w4.cell? ⟨g, j, none⟩ = some u := by
  have h1 := h.cells (g := g) rfl j u hu
  rw [Addr.add_lit, Nat.zero_add] at h1
  rw [World.cell?_of_block (w := w) (a := ⟨g, j, none⟩) hw]
  exact h1

theorem own_ne {u v : Option Nat} {B : Nat} (hu : ∀ k, u = some k → k < B) (hv : ∀ k, v = some k → B ≤ k) : u = none ∨ u ≠ v := by
  cases u with
  | none => exact Or.inl rfl
  | some k =>
    refine Or.inr (fun e => ?_)
    have h1 := hu k rfl
    have h2 := hv k e.symm
    omega

theorem first_at {w : World} {base g n cap q : Nat} {L : List Int} (h : w.ownsRow base 3 1 (.slice (some ⟨g, 0, none⟩) n cap) n (L.map (Value.int .i64))) (w4 : World) (hw : w4.heap[g]? = w.heap[g]?) :
    ∀ j u, ((L.take q).map (Value.int .i64))[j]? = some u → w4.cell? ((⟨g, 0, none⟩ : Addr).add j) = some u := by
  intro j u hu
  rw [Addr.add_lit, Nat.zero_add]
  refine own_at h w4 hw ?_
  rw [List.map_take, List.getElem?_take] at hu
  split at hu
  · exact hu
  · cases hu

theorem rest_at {w : World} {base g n cap q : Nat} {L : List Int} (h : w.ownsRow base 3 1 (.slice (some ⟨g, 0, none⟩) n cap) n (L.map (Value.int .i64))) (hl : L.length = n) (hc : n ≤ cap) :
    ∃ A : Addr, (if cap = q + 1 then some (⟨g, 0, none⟩ : Addr) else some ⟨g, q + 1, none⟩) = some A ∧ Hid (∀ j u, ((L.drop (q + 1)).map (Value.int .i64))[j]? = some u → ∀ w4 : World, w4.heap[g]? = w.heap[g]? → w4.cell? (A.add j) = some u) := by
  by_cases e : cap = q + 1
  · refine ⟨⟨g, 0, none⟩, by simp [e], fun j u hu w4 _ => ?_⟩
    rw [List.drop_eq_nil_of_le (by omega)] at hu
    simp at hu
  · refine ⟨⟨g, q + 1, none⟩, by simp [e], fun j u hu w4 hw => ?_⟩
    rw [Addr.add_lit]
    refine own_at h w4 hw ?_
    rw [List.map_drop, List.getElem?_drop] at hu
    exact hu

end Go.Proofs.YtffnfchekbafmaaDoor

/- Contracts of the answer's functions: SameAll, Cycles. -/
namespace Go.Proofs.YtffnfchekbafmaaDoor
open Go.RowKit
set_option maxRecDepth 20000

/-- The slice value v holds these values. -/
def Vals (w : World) (v : Value) (vs : List Value) : Prop :=
  (vs = [] ∧ ∃ p c, v = .slice p 0 c) ∨
  ∃ b off cap, v = .slice (some ⟨b, off, none⟩) vs.length cap ∧ 0 < vs.length ∧ vs.length ≤ cap ∧ cap ≤ 9223372036854775807 ∧ b < w.heap.size ∧
    ∀ j, j < vs.length → w.cell? ⟨b, off + j, none⟩ = some (vs.getD j undef)

/-- The slice value v reads as a list of lists. -/
def IntsAll (w : World) (v : Value) (xss : List (List Int)) : Prop :=
  ∃ vs, Vals w v vs ∧ vs.length = xss.length ∧ ∀ j, j < xss.length → Ints w (vs.getD j undef) (xss.getD j [])

theorem Vals.below {w w' : World} {v : Value} {vs : List Value} (h : Vals w v vs) (hb : Below w.heap.size w w') : Vals w' v vs := by
  rcases h with h | ⟨b, off, cap, h1, h2, h3, h4, h5, h6⟩
  · exact Or.inl h
  · refine Or.inr ⟨b, off, cap, h1, h2, h3, h4, Nat.lt_of_lt_of_le h5 hb.size, fun j hj => ?_⟩
    rw [hb.cell (p := ⟨b, off + j, none⟩) h5]
    exact h6 j hj

theorem IntsAll.below {w w' : World} {v : Value} {xss : List (List Int)} (h : IntsAll w v xss) (hb : Below w.heap.size w w') : IntsAll w' v xss := by
  obtain ⟨vs, h1, h2, h3⟩ := h
  exact ⟨vs, h1.below hb, h2, fun j hj => (h3 j hj).below hb⟩

theorem Vals.form {w : World} {v : Value} {vs : List Value} (h : Vals w v vs) : ∃ p cap, v = .slice p vs.length cap := by
  rcases h with ⟨rfl, p, c, rfl⟩ | ⟨b, off, cap, h1, _⟩
  · exact ⟨p, c, rfl⟩
  · exact ⟨_, cap, h1⟩

theorem Vals.own {w : World} {base e : Nat} {v : Value} {vs : List Value} (h : w.ownsRow base e 1 v vs.length vs) : Vals w v vs := by
  rcases h.2 with ⟨rfl, h0⟩ | ⟨g, cap, cur, hv, _, hh, hn, hm, hs, ht⟩
  · exact Or.inl ⟨List.length_eq_zero_iff.1 h0, none, 0, rfl⟩
  · rcases Nat.eq_zero_or_pos vs.length with h0 | h0
    · exact Or.inl ⟨List.length_eq_zero_iff.1 h0, _, cap, by rw [hv, h0]⟩
    · refine Or.inr ⟨g, 0, cap, hv, h0, hn, by unfold maxLen at hm; omega, (Array.getElem?_eq_some_iff.1 hh).1, fun j hj => ?_⟩
      rw [Nat.zero_add]
      rw [hv] at h
      exact owns_val h hj

theorem IntsAll.own {w : World} {base e : Nat} {v : Value} {vs : List Value} {xss : List (List Int)} (h : w.ownsRow base e 1 v vs.length vs) (ha : OwnAll w base vs xss) : IntsAll w v xss :=
  ⟨vs, Vals.own h, OwnAll.length ha, fun j hj => Ints.own (ownAll_at ha (by rw [OwnAll.length ha]; exact hj))⟩

theorem takes_eq_snoc {xs ys : List (List Int)} {k : Nat} (h : xs.take k = ys.take k) (hx : k < xs.length) (hy : k < ys.length) (e : xs.getD k [] = ys.getD k []) : xs.take (k + 1) = ys.take (k + 1) := by
  rw [List.take_succ_eq_append_getElem hx, List.take_succ_eq_append_getElem hy, h]
  simp only [List.getD, List.getElem?_eq_getElem hx, List.getElem?_eq_getElem hy, Option.getD_some] at e
  rw [e]

theorem elAt {w : World} {b off k : Nat} {vs : List Value} (hcell : ∀ j, j < vs.length → w.cell? ⟨b, off + j, none⟩ = some (vs.getD j undef)) (h : k < vs.length) {X : List Int} (hi : Ints w (vs.getD k undef) X) :
    ∃ p c, w.cell? ⟨b, off + k, none⟩ = some (.slice p X.length c) ∧ Hid (Ints w (.slice p X.length c) X) := by
  obtain ⟨p, c, e⟩ := hi.form
  refine ⟨p, c, by rw [hcell k h, e], ?_⟩
  rw [← e]; exact hi

end Go.Proofs.YtffnfchekbafmaaDoor

/- A slice of lists that came in reads as a list of lists. -/
namespace Go.Proofs.YtffnfchekbafmaaDoor
open Go.RowKit Go.ChangeShapes Go.WideShapes

theorem ints_row {w : World} {a : Option Addr} {len cap : Nat} {zs : List Int} (hl : len ≤ cap) (hm : cap ≤ maxLen) (hz : zs.length = cap) (hn : a = none → cap = 0)
    (hc : ∀ x, a = some x → ∀ c, c < cap → w.cell? (x.add c) = some (.int .i64 (zs.getD c 0))) : Ints w (.slice a len cap) (zs.take len) := by
  rcases Nat.eq_zero_or_pos len with h0 | h0
  · subst h0
    exact Or.inl ⟨rfl, a, cap, rfl⟩
  · cases a with
    | none => have := hn rfl; omega
    | some x =>
      obtain ⟨b, off, rfl, hcell⟩ := ints_at (zs := zs) (fun i hi => hc x rfl i (by omega)) (by omega)
      have hlen : (zs.take len).length = len := by rw [List.length_take]; omega
      refine Or.inr ⟨b, off, cap, by rw [hlen], by omega, by omega, by unfold maxLen at hm; omega, ?_, fun j hj => ?_⟩
      · exact World.block_lt_of_cell? w _ (hcell 0 (by omega))
      · rw [hlen] at hj
        rw [hcell j (by omega)]
        simp [List.getD, hj]

theorem rows_all {w : World} {base : Nat} {a : Addr} {len cap : Nat} {A : Nat → Option Addr} {L C : Nat → Nat} {Z : Nat → List Int} (hl : len ≤ cap) (hm : cap ≤ maxLen)
    (h : ∀ r, r < cap → w.cell? (a.add r) = some (.slice (A r) (L r) (C r)) ∧ L r ≤ C r ∧ C r ≤ maxLen ∧ (Z r).length = C r ∧ (∀ n ∈ Z r, (Lit.int .i64 n).wf = true) ∧ (A r = none → C r = 0) ∧
        ∀ a', A r = some a' → base ≤ a'.block ∧ ∀ c, c < C r → w.cell? (a'.add c) = some (.int .i64 ((Z r).getD c 0))) :
    ∃ xss, IntsAll w (.slice (some a) len cap) xss := by
  refine ⟨(List.range len).map (fun r => (Z r).take (L r)), (List.range len).map (fun r => .slice (A r) (L r) (C r)), ?_, by simp, fun j hj => ?_⟩
  · rcases Nat.eq_zero_or_pos len with h0 | h0
    · subst h0
      exact Or.inl ⟨rfl, _, _, rfl⟩
    · obtain ⟨b, off, spot⟩ := a
      have hspot : spot = none := by simpa [Addr.add] using World.cell?_spot (h 0 (by omega)).1
      subst hspot
      refine Or.inr ⟨b, off, cap, by simp, by simpa using h0, by simpa using hl, by unfold maxLen at hm; omega, ?_, fun j hj => ?_⟩
      · exact World.block_lt_of_cell? w _ (h 0 (by omega)).1
      · simp at hj
        rw [← Addr.add_lit, (h j (by omega)).1]
        simp [List.getD, hj]
  · simp at hj
    have e1 : ((List.range len).map (fun r => Value.slice (A r) (L r) (C r))).getD j undef = .slice (A j) (L j) (C j) := by simp [List.getD, hj]
    have e2 : ((List.range len).map (fun r => (Z r).take (L r))).getD j [] = (Z j).take (L j) := by simp [List.getD, hj]
    rw [e1, e2]
    obtain ⟨_, a1, a2, a3, _, a5, a6⟩ := h j (by omega)
    exact ints_row a1 a2 a3 a5 (fun x hx => (a6 x hx).2)

end Go.Proofs.YtffnfchekbafmaaDoor
