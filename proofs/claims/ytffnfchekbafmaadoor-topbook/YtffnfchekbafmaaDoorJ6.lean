/- Joined: BoU, BoV. -/
import Derived.Test.YtffnfchekbafmaaDoorJ5
import Derived.Deep.RegionHeld3
import Derived.Deep.QuietTactic
import Derived.Deep.CutRange
/- Contract: the answer's RecordOf. -/
namespace Go.Proofs.YtffnfchekbafmaaDoor
open Go.RowKit Go.Lib
set_option maxRecDepth 100000
set_option linter.unusedVariables false

def nmAda : ByteArray := ⟨#[65, 100, 97]⟩
def nmBo : ByteArray := ⟨#[66, 111]⟩
def nmCy : ByteArray := ⟨#[67, 121, 32, 195, 150, 122]⟩
def nmDee : ByteArray := ⟨#[68, 101, 101]⟩
def nmE7 : ByteArray := ⟨#[69, 55]⟩
def nmPB : ByteArray := ⟨#[80, 108, 97, 105, 110, 32, 66, 111, 98]⟩

def NM5 : List ByteArray := [nmAda, nmBo, nmCy, nmDee, nmE7]

theorem NM5_names : ∀ x, x ∈ NM5 → nm x = true := by
  intro x hx
  simp only [NM5, List.mem_cons, List.not_mem_nil, or_false] at hx
  rcases hx with rfl | rfl | rfl | rfl | rfl <;> kernel_rfl

theorem nmPB_name : nm nmPB = true := by kernel_rfl

theorem NM5_nodup : NM5.Nodup := by decide

theorem Tryd.info9 : (Tryd.prog.info? 9).map (fun i => (i.zero, i.size, i.bytes)) = some (some (.string ByteArray.empty), 1, 16) := infoStrB

theorem rgS_own {w : World} {base : Nat} {v : Value} {ring : List ByteArray} (h : w.ownsRow base 9 1 v ring.length (ring.map Value.string)) (h1 : 1 ≤ ring.length) : RgS w v ring := by
  rcases h.2 with ⟨_, h0⟩ | ⟨g, cap, cur, rfl, hg, hh, hn1, hn2, hn3, hn4⟩
  · omega
  · refine ⟨g, 0, cap, cur, _, rfl, hh, hn1, by unfold maxLen at hn2; omega, fun j x hj => ?_⟩
    have hjl : j < ring.length := (List.getElem?_eq_some_iff.1 hj).1
    have h5 : (ring.map Value.string)[j]? = some (.string x) := by rw [List.getElem?_map, hj]; rfl
    rw [← hn4, List.getElem?_take, if_pos (by omega), Array.getElem?_toList] at h5
    rw [Nat.zero_add]
    exact h5

/-- What the loop of RecordOf knows. -/
structure RcR (d c : Int) (B b : Nat) (w wr : World) (k : Nat) (ring : List ByteArray) (ua : Option Addr) (uc : Nat) : Prop where
  res : wr.heap[B]? = some (.cells #[.int .i64 0, .int .i64 0, .string ⟨#[]⟩, .slice none 0 0] 30)
  nms : wr.heap[B + 1]? = some (.cells #[.string nmAda, .string nmBo, .string nmCy, .string nmDee, .string nmE7] 9)
  rcd : wr.heap[b]? = some (.cells #[.int .i64 d, .int .i64 c, .string nmPB, .slice ua ring.length uc] 30)
  own : wr.ownsRow (B + 3) 9 1 (.slice ua ring.length uc) ring.length (ring.map Value.string)
  sub : ring.Sublist (NM5.take k)
  some : k = 5 → 1 ≤ ring.length
  below : Below B w wr

set_option maxHeartbeats 4000000 in
theorem recordOf_ok (z : Int) (w : World) (h1 : -9223372036854775808 ≤ z) (h2 : z ≤ 9223372036854775807) :
    Calls Tryd.prog 5 #[.int .i64 z] w fun e w' => ∃ (d c : Nat) (m : ByteArray) (ring : List ByteArray) (v : Value), e = .returned (.agg #[.int .i64 (d : Int), .int .i64 (c : Int), .string m, v]) ∧ MayR (d : Int) (c : Int) m ring ∧ RgS w' v ring ∧ Below w.heap.size w w' := by
  obtain ⟨i0, hi, hz0, hz1, hz2⟩ := info_parts Tryd.info9
  have HPk : Hid (∀ W, Calls Tryd.prog 7 #[.int .i64 z, .int .i64 1099511627776] W fun e w' => ∃ k : Int, 0 ≤ k ∧ k < 1099511627776 ∧ e = .returned (.int .i64 k) ∧ W = w') := fun W => pick_any z 1099511627776 W h1 h2 (by decide) (by decide)
  go_enter Tryd.func5, Tryd.ntmps5
  go_wp2_with fail
  refine (HPk.out _).mono ?_
  rintro e W1 ⟨y, y0, y1, rfl, rfl⟩
  obtain ⟨c, rfl⟩ : ∃ c : Nat, y = (c : Int) := ⟨y.toNat, by omega⟩
  clear HPk
  have HY := hide y1
  clear y1 y0
  obtain ⟨a1, a3, a4, a5⟩ := alloc3 w (.cells #[.int .i64 0, .int .i64 0, .string { data := #[] }, .slice none 0 0] 30) (.cells #[.string { data := #[65, 100, 97] }, .string { data := #[66, 111] }, .string { data := #[67, 121, 32, 195, 150, 122] }, .string { data := #[68, 101, 101] }, .string { data := #[69, 55] }] 9) (.cells #[.int .i64 ((c : Int) % 50), .int .i64 (1 + (c : Int) % 5040), .string { data := #[80, 108, 97, 105, 110, 32, 66, 111, 98] }, .slice none 0 0] 30)
  have HR0 : Hid (RcR ((c : Int) % 50) (1 + (c : Int) % 5040) w.heap.size (w.heap.size + 1 + 1) w (((w.alloc (.cells #[.int .i64 0, .int .i64 0, .string { data := #[] }, .slice none 0 0] 30)).alloc (.cells #[.string { data := #[65, 100, 97] }, .string { data := #[66, 111] }, .string { data := #[67, 121, 32, 195, 150, 122] }, .string { data := #[68, 101, 101] }, .string { data := #[69, 55] }] 9)).alloc (.cells #[.int .i64 ((c : Int) % 50), .int .i64 (1 + (c : Int) % 5040), .string { data := #[80, 108, 97, 105, 110, 32, 66, 111, 98] }, .slice none 0 0] 30)) 0 [] none 0) :=
    ⟨((heap_alloc_old _ _ (by rw [alloc_sz, alloc_sz]; omega)).trans (heap_alloc_old _ _ (by rw [alloc_sz]; omega))).trans (heap_alloc_new w _), a3, a4, World.ownsRow_nil _ _ _ _, List.Sublist.refl _, fun h => (by cases h), a1⟩
  clear a1 a3 a4 a5
  go_wp2
  go_loopw [5] (fun iv wr => ∃ (k : Nat) (ring : List ByteArray) (ua : Option Addr) (uc : Nat), k ≤ 5 ∧ iv = .int .i64 (k : Int) ∧ Hid (RcR ((c : Int) % 50) (1 + (c : Int) % 5040) w.heap.size (w.heap.size + 1 + 1) w wr k ring ua uc)) (fun iv _ => 5 - (RowKit.intOf iv).toNat)
  case atStart => exact ⟨0, [], none, 0, by decide, rfl, HR0⟩
  case round =>
    obtain ⟨k, ring, ua, uc, hk, rfl, HR⟩ := hrel
    clear HR0
    by_cases hlt : k < 5
    · have hi1 : (k : Int) < 5 := by omega
      obtain ⟨⟨r0, r1, r2, r3⟩, f0, f1, f2, f3⟩ := cells4 HR.out.rcd
      generalize hrl : ring.length = rl at *
      have HRL := hide hrl
      clear hrl h1 h2
      go_upto_region 7 with fail
      go_cut [33] from 19 to 33 (fun c wx => ∃ b : Bool, c = .bool b ∧ (k = 4 → rl = 0 → b = true) ∧ wx = wr)
      case first =>
        by_cases hb : ((c : Int) / 2 ^ k).tmod 2 = 1
        · have hbq : (((c : Int) / 2 ^ k).tmod 2 == 1) = true := by rw [hb]; rfl
          clear hb
          go_wp2_with fail
          go_meet
          exact ⟨true, rfl, fun _ _ => rfl, rfl⟩
        · have hbq : (((c : Int) / 2 ^ k).tmod 2 == 1) = false := by rw [beq_eq_false_iff_ne]; exact hb
          clear hb
          by_cases hk4 : k = 4
          · have hkq : ((k : Int) == 4) = true := by rw [hk4]; rfl
            by_cases hr0 : rl = 0
            · have hrq : ((rl : Int) == 0) = true := by rw [hr0]; rfl
              clear hk4 hr0
              go_wp2_with fail
              go_meet
              exact ⟨true, rfl, fun _ _ => rfl, rfl⟩
            · have hrq : ((rl : Int) == 0) = false := by rw [beq_eq_false_iff_ne]; omega
              have HNN : Hid (¬ rl = 0) := hr0
              clear hk4 hr0
              go_wp2_with fail
              go_meet
              exact ⟨false, rfl, fun _ h => absurd h HNN.out, rfl⟩
          · have hkq : ((k : Int) == 4) = false := by rw [beq_eq_false_iff_ne]; omega
            have HNN : Hid (¬ k = 4) := hk4
            clear hk4
            go_wp2_with fail
            go_meet
            exact ⟨false, rfl, fun h => absurd h HNN.out, rfl⟩
      case rest =>
        obtain ⟨b, rfl, hb4, rfl⟩ := hcut
        have HB4 := hide hb4
        clear hb4
        cases b with
        | false =>
          have HRN : Hid (RcR ((c : Int) % 50) (1 + (c : Int) % 5040) w.heap.size (w.heap.size + 1 + 1) w wc (k + 1) ring ua uc) := by
            have h9 := HR.out
            refine ⟨h9.res, h9.nms, h9.rcd, h9.own, h9.sub.trans (List.take_sublist_take_left (by omega)), fun h5 => ?_, h9.below⟩
            have h8 := HB4.out (by omega)
            rw [HRL.out]
            rcases Nat.eq_zero_or_pos rl with h | h
            · exact absurd (h8 h) (by decide)
            · exact h
          go_wp2
          go_roundw
          case rel => exact ⟨k + 1, ring, ua, uc, by omega, by go_num, HRN⟩
          case measure => simp [RowKit.intOf]; omega
        | true =>
          go_upto_region 8 with fail
          obtain ⟨x, hxk, hcx⟩ : ∃ x, NM5[k]? = some x ∧ wc.cell? ⟨w.heap.size + 1, k, none⟩ = some (.string x) := by
            have hn := HR.out.nms
            match k, hlt with
            | 0, _ => exact ⟨_, rfl, by rw [World.cell?, hn]; rfl⟩
            | 1, _ => exact ⟨_, rfl, by rw [World.cell?, hn]; rfl⟩
            | 2, _ => exact ⟨_, rfl, by rw [World.cell?, hn]; rfl⟩
            | 3, _ => exact ⟨_, rfl, by rw [World.cell?, hn]; rfl⟩
            | 4, _ => exact ⟨_, rfl, by rw [World.cell?, hn]; rfl⟩
          have hrle : rl ≤ 5 := by
            have := HR.out.sub.length_le
            rw [List.length_take, HRL.out] at this
            have : min k NM5.length ≤ 5 := Nat.min_le_right _ _
            omega
          have hown := HR.out.own
          have hrcd := HR.out.rcd
          rw [HRL.out] at hown hrcd
          have HCX : Hid (wc.cell? ⟨w.heap.size + 1, k, none⟩ = some (.string x)) := hcx
          have HRLE : Hid (rl ≤ 5) := hrle
          have HOA : Hid ((wc.drew.alloc (.cells #[.string x] 9)).ownsRow (w.heap.size + 3) 9 1 (.slice ua rl uc) rl (ring.map Value.string)) := (show wc.drew.ownsRow (w.heap.size + 3) 9 1 (.slice ua rl uc) rl (ring.map Value.string) from hown).alloc _
          have HCA : Hid (∀ j u, [Value.string x][j]? = some u → (wc.drew.alloc (.cells #[.string x] 9)).cell? ((⟨wc.heap.size, 0, none⟩ : Addr).add j) = some u) := cell_one_new wc.drew (.string x) 9
          have HSZ := hide HR.out.below.size
          have HSZ3 : Hid (w.heap.size + 3 ≤ wc.heap.size) := by
            have h9 := (Array.getElem?_eq_some_iff.1 HR.out.rcd).1
            show _ ≤ _
            omega
          have HBA : Hid (w.heap.size + 3 ≤ (wc.drew.alloc (.cells #[.string x] 9)).heap.size) := by
            rw [alloc_sz]
            have := HSZ3.out
            show w.heap.size + 3 ≤ wc.heap.size + 1
            omega
          have HAFT : Hid (∀ (v' : Value) (w4 : World), w4.ownsRow (w.heap.size + 3) 9 1 v' (rl + 1) (ring.map Value.string ++ [.string x]) → (wc.drew.alloc (.cells #[.string x] 9)).grownBy w4 (Value.slice ua rl uc).ownBlock →
              w4.cell? ⟨w.heap.size + 1, k, none⟩ = some (.string x) ∧ w4.heap[w.heap.size + 1 + 1]? = some (.cells #[.int .i64 ((c : Int) % 50), .int .i64 (1 + (c : Int) % 5040), .string nmPB, .slice ua rl uc] 30) ∧
              ∀ va vc, v' = .slice va (rl + 1) vc → RcR ((c : Int) % 50) (1 + (c : Int) % 5040) w.heap.size (w.heap.size + 1 + 1) w (w4.setCell ⟨w.heap.size + 1 + 1, 3, none⟩ (.slice va (rl + 1) vc)) (k + 1) (ring ++ [x]) va vc) := fun v' w4 ho hg => by
            have hg2 : wc.grownBy w4 (Value.slice ua rl uc).ownBlock := (World.grownBy_alloc wc _ _).trans (show (wc.alloc (.cells #[.string x] 9)).grownBy w4 (Value.slice ua rl uc).ownBlock from ⟨hg.os, hg.tape, hg.output, hg.size, hg.block⟩)
            have hlow : ∀ b, b < w.heap.size + 3 → w4.heap[b]? = wc.heap[b]? := fun b hb => hg2.block b (Nat.lt_of_lt_of_le hb HSZ3.out) (fun e => by
              have := (hown.lt b e.symm).1
              omega)
            have hB4 : Below w.heap.size w w4 := HR.out.below.grown hg2 HSZ.out (fun b e => by have := (hown.lt b e).1; omega)
            have p4 : w4.heap[w.heap.size + 1 + 1]? = some (.cells #[.int .i64 ((c : Int) % 50), .int .i64 (1 + (c : Int) % 5040), .string nmPB, .slice ua rl uc] 30) := (hlow _ (by omega)).trans hrcd
            refine ⟨(World.cell?_of_block (a := ⟨w.heap.size + 1, k, none⟩) (hlow _ (by show w.heap.size + 1 < _; omega))).trans HCX.out, p4, fun va vc ev => ?_⟩
            subst ev
            have hlen : (ring ++ [x]).length = rl + 1 := by rw [List.length_append, HRL.out]; rfl
            refine ⟨(setCell_at w4 _ _ _ (by show w.heap.size ≠ w.heap.size + 1 + 1; omega)).trans ((hlow _ (by omega)).trans HR.out.res), (setCell_at w4 _ _ _ (by show w.heap.size + 1 ≠ w.heap.size + 1 + 1; omega)).trans ((hlow _ (by omega)).trans HR.out.nms), by rw [hlen]; exact set4_3 p4 _, ?_, ?_, fun _ => by rw [hlen]; omega, hB4.setCell (p := ⟨w.heap.size + 1 + 1, 3, none⟩) (by show w.heap.size ≤ w.heap.size + 1 + 1; omega) _⟩
            · rw [hlen, List.map_append]
              refine fr_block ho (fun g hgb => setCell_at w4 _ _ g (fun e => ?_))
              have h9 := (ho.lt g hgb).1
              have e2 : g = w.heap.size + 1 + 1 := e
              omega
            · rw [List.take_add_one, hxk]
              exact HR.out.sub.append (List.Sublist.refl _)
          have hk5 : (k : Int) < 5 := hi1
          clear hown hrcd HB4 HSZ hrle
          have a3 : (wc.alloc (.cells #[.string x] 9)).cell? ⟨w.heap.size + 1 + 1, 3, none⟩ = some (.slice ua rl uc) := (World.cell?_of_block (w := wc) (a := ⟨w.heap.size + 1 + 1, 3, none⟩) (heap_alloc_old wc _ (by have := HSZ3.out; show w.heap.size + 1 + 1 < wc.heap.size; omega))).trans r3
          have aN : (wc.drew.alloc (.cells #[.string x] 9)).cell? ⟨w.heap.size + 1, k, none⟩ = some (.string x) := (World.cell?_of_block (w := wc) (a := ⟨w.heap.size + 1, k, none⟩) (heap_alloc_old wc.drew _ (by have := HSZ3.out; show w.heap.size + 1 < wc.heap.size; omega))).trans hcx
          refine wp_region_held_drew (S := fun W' => W'.cell? ⟨w.heap.size + 1, k, none⟩ = some (.string x)) (by kernel_rfl) hcx (fun hS => ?_)
          refine wpAnyH_take (i := 0) (v := .pointer (some ⟨w.heap.size + 1 + 1, 3, none⟩)) rfl (by kernel_rfl) (by kernel_rfl) (by kernel_rfl) (fun _ _ _ h => h) (Or.inl ⟨by kernel_rfl, fun w' hS' => by clear hS'; go_simp⟩) hS ?_
          refine wpAnyH_take (i := 2) (v := .slice (some ⟨w.heap.size + 1, 0, none⟩) 5 5) rfl (by kernel_rfl) (by kernel_rfl) (by kernel_rfl) (fun _ _ _ h => h) (Or.inl ⟨by kernel_rfl, fun w' hS' => by clear hS'; go_simp⟩) hS ?_
          refine wpAnyH_take (i := 3) (v := .int .i64 (k : Int)) rfl (by kernel_rfl) (by kernel_rfl) (by kernel_rfl) (fun _ _ _ h => h) (Or.inl ⟨by kernel_rfl, fun w' hS' => by clear hS'; go_simp⟩) hS ?_
          refine wpAnyH_take (i := 4) (v := .pointer (some ⟨w.heap.size + 1, k, none⟩)) rfl (by kernel_rfl) (by kernel_rfl) (by kernel_rfl) (fun _ _ _ h => h) (Or.inl ⟨by kernel_rfl, fun w' hS' => by clear hS'; go_simp⟩) hS ?_
          refine wpAnyH_take (i := 5) (v := .string x) rfl (by kernel_rfl) (by kernel_rfl) (by kernel_rfl) (fun _ _ _ h => h) (Or.inl ⟨by kernel_rfl, fun w' hS' => by have hq := hS'; clear hS'; go_simp⟩) hS ?_
          refine wpAnyH_ready (rs := [1, 6]) (by kernel_rfl) (by simp) ?_
          refine AllReadyH.cons rfl (fun K hK => ?_) (AllReadyH.cons rfl (fun K hK => ?_) AllReadyH.nil)
          · go_simp
            refine hK.out _ _ hcx (fun hS => ?_)
            clear hK
            refine wpAnyH_ready (rs := [6]) (by kernel_rfl) (by simp) ?_
            refine AllReadyH.cons rfl (fun K hK => ?_) AllReadyH.nil
            go_simp
            refine hK.out _ _ aN (fun hS => ?_)
            clear hK
            refine wpAnyH_ready (rs := [7]) (by kernel_rfl) (by simp) ?_
            refine AllReadyH.cons rfl (fun K hK => ?_) AllReadyH.nil
            refine step_append_keep rfl (.tmp 35) (.tmp 40) 28 rfl (w.heap.size + 3) 9 i0 (.string ByteArray.empty) 1 16 Tryd.underlying28 hi hz0 hz1 hz2 rfl (by decide) (.slice ua rl uc) rl (ring.map Value.string) rfl HOA.out ⟨wc.heap.size, 0, none⟩ 1 1 [.string x] rfl rfl HCA.out (by intro u hu; simp at hu; subst hu; rfl) (by have := HRLE.out; unfold maxLen; omega) (by have := HRLE.out; omega) HBA.out ?_
            intro v' w4 hown4 hgrow4 hk4
            obtain ⟨hN4, HP4, HF4⟩ := HAFT.out v' w4 hown4 hgrow4
            refine hK.out _ _ hN4 (fun hS => ?_)
            clear hK
            obtain ⟨va, vc, ev⟩ := row_form hown4
            subst ev
            have d3 : w4.cell? ⟨w.heap.size + 1 + 1, 3, none⟩ = some (.slice ua rl uc) := (cells4 HP4).1.2.2.2
            have g3 : w4.frozen? ⟨w.heap.size + 1 + 1, 3, none⟩ = false := (cells4 HP4).2.2.2.2
            refine wpAnyH_take (i := 8) (v := .pointer (some ⟨w.heap.size + 1 + 1, 3, none⟩)) rfl (by kernel_rfl) (by kernel_rfl) (by kernel_rfl) (fun _ _ _ h => h) (Or.inl ⟨by kernel_rfl, fun w' hS' => by clear hS'; go_simp⟩) hS ?_
            refine wpAnyH_ready (rs := [9]) (by kernel_rfl) (by simp) ?_
            refine AllReadyH.cons rfl (fun K hK => ?_) AllReadyH.nil
            go_simp
            refine hK.out _ _ ((World.cell?_of_block (a := ⟨w.heap.size + 1, k, none⟩) (setCell_at w4 _ _ (w.heap.size + 1) (by show w.heap.size + 1 ≠ w.heap.size + 1 + 1; omega))).trans hN4) (fun hS => ?_)
            clear hK
            refine wpAnyH_done (by kernel_rfl) ?_ _
            have HF5 := hide (HF4 va vc rfl)
            clear hown4 hgrow4 hk4 hN4 HP4 HF4 d3 g3 hS HAFT HOA HCA
            go_wp2
            go_roundw
            case rel => exact ⟨k + 1, ring ++ [x], va, vc, by omega, by go_num, HF5⟩
            case measure => simp [RowKit.intOf]; omega
          · go_simp
            refine hK.out _ _ aN (fun hS => ?_)
            clear hK
            refine wpAnyH_ready (rs := [1]) (by kernel_rfl) (by simp) ?_
            refine AllReadyH.cons rfl (fun K hK => ?_) AllReadyH.nil
            go_simp
            refine hK.out _ _ aN (fun hS => ?_)
            clear hK
            refine wpAnyH_ready (rs := [7]) (by kernel_rfl) (by simp) ?_
            refine AllReadyH.cons rfl (fun K hK => ?_) AllReadyH.nil
            refine step_append_keep rfl (.tmp 35) (.tmp 40) 28 rfl (w.heap.size + 3) 9 i0 (.string ByteArray.empty) 1 16 Tryd.underlying28 hi hz0 hz1 hz2 rfl (by decide) (.slice ua rl uc) rl (ring.map Value.string) rfl HOA.out ⟨wc.heap.size, 0, none⟩ 1 1 [.string x] rfl rfl HCA.out (by intro u hu; simp at hu; subst hu; rfl) (by have := HRLE.out; unfold maxLen; omega) (by have := HRLE.out; omega) HBA.out ?_
            intro v' w4 hown4 hgrow4 hk4
            obtain ⟨hN4, HP4, HF4⟩ := HAFT.out v' w4 hown4 hgrow4
            refine hK.out _ _ hN4 (fun hS => ?_)
            clear hK
            obtain ⟨va, vc, ev⟩ := row_form hown4
            subst ev
            have d3 : w4.cell? ⟨w.heap.size + 1 + 1, 3, none⟩ = some (.slice ua rl uc) := (cells4 HP4).1.2.2.2
            have g3 : w4.frozen? ⟨w.heap.size + 1 + 1, 3, none⟩ = false := (cells4 HP4).2.2.2.2
            refine wpAnyH_take (i := 8) (v := .pointer (some ⟨w.heap.size + 1 + 1, 3, none⟩)) rfl (by kernel_rfl) (by kernel_rfl) (by kernel_rfl) (fun _ _ _ h => h) (Or.inl ⟨by kernel_rfl, fun w' hS' => by clear hS'; go_simp⟩) hS ?_
            refine wpAnyH_ready (rs := [9]) (by kernel_rfl) (by simp) ?_
            refine AllReadyH.cons rfl (fun K hK => ?_) AllReadyH.nil
            go_simp
            refine hK.out _ _ ((World.cell?_of_block (a := ⟨w.heap.size + 1, k, none⟩) (setCell_at w4 _ _ (w.heap.size + 1) (by show w.heap.size + 1 ≠ w.heap.size + 1 + 1; omega))).trans hN4) (fun hS => ?_)
            clear hK
            refine wpAnyH_done (by kernel_rfl) ?_ _
            have HF5 := hide (HF4 va vc rfl)
            clear hown4 hgrow4 hk4 hN4 HP4 HF4 d3 g3 hS HAFT HOA HCA
            go_wp2
            go_roundw
            case rel => exact ⟨k + 1, ring ++ [x], va, vc, by omega, by go_num, HF5⟩
            case measure => simp [RowKit.intOf]; omega
    · obtain rfl : k = 5 := by omega
      have HRX := hide (HR.out.sub.length_le)
      obtain ⟨⟨r0, r1, r2, r3⟩, f0, f1, f2, f3⟩ := cells4 HR.out.rcd
      obtain ⟨⟨s0, s1, s2, s3⟩, g0, g1, g2, g3⟩ := cells4 HR.out.res
      have HRES := hide HR.out.res
      have HB := hide HR.out.below
      have HRg : Hid (RgS wr (.slice ua ring.length uc) ring) := rgS_own HR.out.own (HR.out.some rfl)
      have HSUB := hide HR.out.sub
      have HS1 := hide (HR.out.some rfl)
      have e1 : (c : Int) % 50 = ((c % 50 : Nat) : Int) := by omega
      have e2 : 1 + (c : Int) % 5040 = ((1 + c % 5040 : Nat) : Int) := by omega
      have HE1 := hide e1
      have HE2 := hide e2
      generalize hrl : ring.length = rl at *
      have HRL := hide hrl
      clear e1 e2 hrl HR h1 h2 hlt
      go_wp2
      refine bodyPost_ret (results_cell_row (p := 2) (ty := 30) rfl _ _ w.heap.size 30 _ _ _ rfl (set4_all HRES.out _ _ _ _) Tryd.underlying30 rfl (by kernel_rfl)) rfl ?_
      refine ⟨c % 50, 1 + c % 5040, nmPB, ring, _, by rw [← HE1.out, ← HE2.out], ⟨by omega, by omega, by omega, by omega, nmPB_name, by rw [HRL.out]; exact HS1.out, ?_, fun x hx => NM5_names x (HSUB.out.subset hx), List.Nodup.sublist HSUB.out NM5_nodup⟩, ?_, ?_⟩
      · have := HSUB.out.length_le
        have h9 : (NM5.take 5).length = 5 := by decide
        omega
      · have z1 := HRES.out
        have k1 := StrK.set (a := ⟨w.heap.size, 0, none⟩) z1 (by decide) (.int .i64 ((c : Int) % 50))
        have z2 := set4_0 z1 (.int .i64 ((c : Int) % 50))
        have k2 := StrK.set (a := ⟨w.heap.size, 1, none⟩) z2 (by decide) (.int .i64 (1 + (c : Int) % 5040))
        have z3 := set4_1 z2 (.int .i64 (1 + (c : Int) % 5040))
        have k3 := StrK.set (a := ⟨w.heap.size, 2, none⟩) z3 (by decide) (.string nmPB)
        have z4 := set4_2 z3 (.string nmPB)
        have k4 := StrK.set (a := ⟨w.heap.size, 3, none⟩) z4 (by decide) (.slice ua rl uc)
        exact (((HRg.out.keep k1).keep k2).keep k3).keep k4
      · exact (((HB.out.setCell (p := ⟨w.heap.size, 0, none⟩) (Nat.le_refl _) _).setCell (p := ⟨w.heap.size, 1, none⟩) (Nat.le_refl _) _).setCell (p := ⟨w.heap.size, 2, none⟩) (Nat.le_refl _) _).setCell (p := ⟨w.heap.size, 3, none⟩) (Nat.le_refl _) _

end Go.Proofs.YtffnfchekbafmaaDoor

/- Contract: the law TopBook, its first part. -/
namespace Go.Proofs.YtffnfchekbafmaaDoor
open Go.RowKit Go.Lib
set_option maxRecDepth 100000
set_option linter.unusedVariables false

/-- Where each line ends. -/
def endsL (Ts : List (List UInt8)) : List Int := (List.range Ts.length).map (fun j => ((lnE Ts (j + 1) : Nat) : Int))

theorem endsL_length (Ts : List (List UInt8)) : (endsL Ts).length = Ts.length := by unfold endsL; simp

theorem endsL_get {Ts : List (List UInt8)} {k : Nat} (h : k < Ts.length) : (endsL Ts)[k]? = some ((lnE Ts (k + 1) : Nat) : Int) := by
  unfold endsL; simp [h]

theorem endsL_snoc (Ts : List (List UInt8)) (T : List UInt8) : endsL (Ts ++ [T]) = endsL Ts ++ [(((lns (Ts ++ [T])).length : Nat) : Int)] := by
  unfold endsL
  rw [List.length_append, List.length_singleton, List.range_succ, List.map_append]
  congr 1
  · apply List.map_congr_left
    intro j hj
    rw [List.mem_range] at hj
    unfold lnE
    rw [List.take_append_of_le_length (by omega)]
  · simp only [List.map_cons, List.map_nil]
    unfold lnE
    rw [List.take_of_length_le (by simp)]

theorem lnE_mono (Ts : List (List UInt8)) {i j : Nat} (h : i ≤ j) : lnE Ts i ≤ lnE Ts j := by
  unfold lnE
  have e : Ts.take i = (Ts.take j).take i := by rw [List.take_take, Nat.min_eq_left h]
  have e2 : Ts.take j = Ts.take i ++ (Ts.take j).drop i := by
    conv => lhs; rw [← List.take_append_drop i (Ts.take j)]
    rw [← e]
  rw [e2, lns_append, List.length_append]
  omega

theorem row_not {w : World} {base e n p : Nat} {u : Value} {xs : List Value} {cur : Array Value} {t : TypeId} {fr : Nat × Nat} (h : w.ownsRow base e 1 u n xs) (hp : w.heap[p]? = some (.cells cur t fr)) (ht : t ≠ e) : u.ownBlock ≠ some p := fun hk => by
  rcases h.2 with ⟨rfl, _⟩ | ⟨g, cap, cur2, rfl, hgb, hh, _⟩
  · cases hk
  · have hk2 : g = p := by simpa [Value.ownBlock] using hk
    subst hk2
    rw [hp] at hh
    injection hh with e
    injection e with _ e2 _
    exact ht e2

/-- What the first loop of TopBook knows. -/
structure TbR (w wr : World) (bp : Nat) (u : Value) (xs : List Value) (Ts : List (List UInt8)) (ev : Value) : Prop where
  bk : wr.heap[bp]? = some (.cells #[u] 25)
  own : wr.ownsRow w.heap.size 40 1 u xs.length xs
  ents : Ents wr xs Ts
  ends : wr.ownsRow w.heap.size 3 1 ev Ts.length ((endsL Ts).map (Value.int .i64))
  below : Below w.heap.size w wr

theorem TbR.on {w wr w' : World} {bp : Nat} {u ev : Value} {xs : List Value} {Ts : List (List UInt8)} (h : TbR w wr bp u xs Ts ev) (hb : Below wr.heap.size wr w') : TbR w w' bp u xs Ts ev :=
  ⟨(hb.block bp (Array.getElem?_eq_some_iff.1 h.bk).1).trans h.bk, fr_block h.own (fun g hg => hb.block g (h.own.lt g hg).2), h.ents.keep (StrK.of hb), fr_block h.ends (fun g hg => hb.block g (h.ends.lt g hg).2), h.below.trans (hb.mono h.below.size)⟩

theorem TbR.added {w wr w' : World} {bp : Nat} {u u' x ev : Value} {xs : List Value} {Ts : List (List UInt8)} {T : List UInt8} (h : TbR w wr bp u xs Ts ev) (hbp : w.heap.size ≤ bp) (h1 : w'.heap[bp]? = some (.cells #[u'] 25)) (h2 : w'.ownsRow wr.heap.size 40 1 u' (xs.length + 1) (xs ++ [x])) (h3 : Ents w' (xs ++ [x]) (Ts ++ [T])) (h4 : But bp wr w') :
    w'.heap[bp]? = some (.cells #[u'] 25) ∧ w'.ownsRow w.heap.size 40 1 u' (xs ++ [x]).length (xs ++ [x]) ∧ Ents w' (xs ++ [x]) (Ts ++ [T]) ∧ w'.ownsRow w.heap.size 3 1 ev Ts.length ((endsL Ts).map (Value.int .i64)) ∧ Below w.heap.size w w' := by
  refine ⟨h1, ?_, h3, ?_, h.below.trans (h4.below hbp h.below.size)⟩
  · rw [List.length_append]; exact row_low h2 h.below.size
  · exact fr_block h.ends (fun g hg => h4.block g (h.ends.lt g hg).2 (fun e => row_not h.ends h.bk (by decide) (by rw [hg, e])))

theorem TbR.made {w w3 w4 : World} {bp : Nat} {u ev ev' : Value} {xs : List Value} {Ts : List (List UInt8)} {T : List UInt8} (h : w3.heap[bp]? = some (.cells #[u] 25) ∧ w3.ownsRow w.heap.size 40 1 u xs.length xs ∧ Ents w3 xs (Ts ++ [T]) ∧ w3.ownsRow w.heap.size 3 1 ev Ts.length ((endsL Ts).map (Value.int .i64)) ∧ Below w.heap.size w w3)
    (hg : w3.grownBy w4 ev.ownBlock) (ho : w4.ownsRow w.heap.size 3 1 ev' (Ts.length + 1) ((endsL Ts).map (Value.int .i64) ++ [.int .i64 ((lns (Ts ++ [T])).length : Int)])) : TbR w w4 bp u xs (Ts ++ [T]) ev' := by
  obtain ⟨h1, h2, h3, h4, h5⟩ := h
  have hs : StrK w3 w4 := fun b cur fr e => by
    refine (hg.block b (Array.getElem?_eq_some_iff.1 e).1 (fun hk => ?_)).trans e
    exact row_not h4 e (by decide) hk.symm
  refine ⟨(hg.block bp (Array.getElem?_eq_some_iff.1 h1).1 (fun e => row_not h4 h1 (by decide) e.symm)).trans h1, fr_block h2 (fun g hgb => hg.block g (h2.lt g hgb).2 (fun e => fr_ty h2 h4 (by decide) g hgb e.symm)), h3.keep hs, ?_, h5.grown hg h5.size (fun k hk => (h4.lt k hk).1)⟩
  rw [endsL_snoc, List.map_append, List.length_append]
  exact ho

theorem tb5_on {w w3 w4 : World} {bp n m : Nat} {u ev : Value} {xs ys : List Value} {Ts : List (List UInt8)} (h : w3.heap[bp]? = some (.cells #[u] 25) ∧ w3.ownsRow w.heap.size 40 1 u n xs ∧ Ents w3 xs Ts ∧ w3.ownsRow w.heap.size 3 1 ev m ys ∧ Below w.heap.size w w3) (hb : Below w3.heap.size w3 w4) :
    w4.heap[bp]? = some (.cells #[u] 25) ∧ w4.ownsRow w.heap.size 40 1 u n xs ∧ Ents w4 xs Ts ∧ w4.ownsRow w.heap.size 3 1 ev m ys ∧ Below w.heap.size w w4 := by
  obtain ⟨h1, h2, h3, h4, h5⟩ := h
  exact ⟨(hb.block bp (Array.getElem?_eq_some_iff.1 h1).1).trans h1, fr_block h2 (fun g hg => hb.block g (h2.lt g hg).2), h3.keep (StrK.of hb), fr_block h4 (fun g hg => hb.block g (h4.lt g hg).2), h5.trans (hb.mono h5.size)⟩

theorem pre_bytes {w : World} {g o : Nat} {l : List UInt8} (h : Lib.Bytes w g o ⟨l.toArray⟩) (q : Nat) (hq : q ≤ l.length) : Lib.Bytes w g o ⟨(l.take q).toArray⟩ := fun i hi => by
  have hs : (⟨(l.take q).toArray⟩ : ByteArray).size = q := by show (l.take q).toArray.size = q; rw [List.size_toArray, List.length_take]; omega
  have hi2 : i < (⟨l.toArray⟩ : ByteArray).size := by show i < l.toArray.size; rw [List.size_toArray]; omega
  rw [h i hi2]
  have e : (⟨l.toArray⟩ : ByteArray)[i] = (⟨(l.take q).toArray⟩ : ByteArray)[i] := by
    show l.toArray[i] = (l.take q).toArray[i]
    rw [List.getElem_toArray, List.getElem_toArray, List.getElem_take]
  rw [e]

/-- The first bytes. -/
theorem by_take {w : World} {ba : Option Addr} {bc : Nat} {l : List UInt8} (h : BySl w (.slice ba l.length bc) ⟨l.toArray⟩) (q : Nat) (hq : q ≤ l.length) : BySl w (.slice ba q bc) ⟨(l.take q).toArray⟩ := by
  obtain ⟨a, cap, e, h1, h2, h3, h4⟩ := h
  simp only [Value.slice.injEq] at e
  obtain ⟨rfl, e2, rfl⟩ := e
  have hs : (⟨(l.take q).toArray⟩ : ByteArray).size = q := by show (l.take q).toArray.size = q; rw [List.size_toArray, List.length_take]; omega
  refine ⟨ba, bc, by rw [hs], by rw [hs]; omega, h2, h3, ?_⟩
  rcases h4 with h0 | ⟨g, o, ea, hg, hb⟩
  · left; rw [hs]; omega
  · exact Or.inr ⟨g, o, ea, hg, pre_bytes hb q hq⟩

theorem by_conv {w : World} {ba : Option Addr} {n bc : Nat} {t : ByteArray} (h : BySl w (.slice ba n bc) t) : (convert 32 9 (.slice ba n bc)).run Tryd.prog w = .ok (.string t) w := by
  obtain ⟨a, cap, e, h1, h2, h3, h4⟩ := h
  simp only [Value.slice.injEq] at e
  obtain ⟨rfl, rfl, rfl⟩ := e
  rcases h4 with h0 | ⟨g, o, rfl, hg, hb⟩
  · have ht : t = ⟨([] : List UInt8).toArray⟩ := by
      apply ByteArray.ext
      apply Array.eq_empty_of_size_eq_zero
      exact h0
    rw [h0, ht]
    exact run_convert_empty9 ba bc w
  · exact Lib.run_convert_whole (P := Tryd.prog) w 32 5 9 Tryd.underlying32 Tryd.underlying5 Tryd.underlying9 g o t hb bc

theorem lns_take (Ts : List (List UInt8)) (j : Nat) : (lns Ts).take (lnE Ts j) = lns (Ts.take j) := by
  unfold lnE
  have e : lns Ts = lns (Ts.take j) ++ lns (Ts.drop j) := by rw [← lns_append, List.take_append_drop]
  conv => lhs; rw [e]
  rw [List.take_append_of_le_length (Nat.le_refl _), List.take_length]

theorem bits_xor_u8 (a b : Nat) (ha : a < 256) (hb : b < 256) :
    bits .xor .u8 (a : Int) (b : Int) = ((a ^^^ b : Nat) : Int) := by
  have hx : a ^^^ b < 2 ^ 8 := Nat.xor_lt_two_pow (by omega) (by omega)
  have h1 : (BitVec.ofInt 8 (a : Int)).toNat = a := by
    rw [BitVec.ofInt_natCast, BitVec.toNat_ofNat]; exact Nat.mod_eq_of_lt (by omega)
  have h2 : (BitVec.ofInt 8 (b : Int)).toNat = b := by
    rw [BitVec.ofInt_natCast, BitVec.toNat_ofNat]; exact Nat.mod_eq_of_lt (by omega)
  show IntKind.u8.wrap ((BitVec.ofInt 8 (a : Int) ^^^ BitVec.ofInt 8 (b : Int)).toNat : Int) = _
  rw [BitVec.toNat_xor, h1, h2, show ∀ n : Int, IntKind.u8.wrap n = n % 256 from fun n => by simp [IntKind.wrap, IntKind.bits, IntKind.signed]]
  omega

theorem TbR.slat {w wr : World} {bp : Nat} {u ev : Value} {xs : List Value} {Ts : List (List UInt8)} (h : TbR w wr bp u xs Ts ev) : SlAt wr u xs := SlAt.own h.own

theorem TbR.few {w wr : World} {bp : Nat} {u ev : Value} {xs : List Value} {Ts : List (List UInt8)} (h : TbR w wr bp u xs Ts ev) (hn : Ts.length ≤ 20) : (lns Ts).length ≤ 78280 := by
  have h1 := lns_le h.ents.pt
  have : Ts.length * 3914 ≤ 20 * 3914 := Nat.mul_le_mul_right _ hn
  omega

end Go.Proofs.YtffnfchekbafmaaDoor
