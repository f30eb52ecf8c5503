/- Joined: SaD, SaE, SaF, Cln, SaG. -/
import Derived.Test.YtoiiadiimfohiaaJ3
import Derived.Deep.Cut
import Derived.Deep.RegionHeld3
import Derived.Laws.StructEq
/- Contracts: search's ring and silence. -/
namespace Go.Proofs.Ytoiiadiimfohiaa
open Go.RowKit

/-- Rows of a lead, from a head on. -/
def rws (h : Pm) (X : List Pm) : List Pm := X.map (fun x => h * x)

theorem rws_length (h : Pm) (X : List Pm) : (rws h X).length = X.length := by simp [rws]

theorem rws_take_succ (h : Pm) (X : List Pm) {i : Nat} (hi : i < X.length) : rws h (X.take (i + 1)) = rws h (X.take i) ++ [h * X[i]] := by
  unfold rws; rw [List.take_succ_eq_append_getElem hi, List.map_append]; rfl

def RingPost (mb : Nat) (h : Pm) (X S : List Pm) (w : World) (e : Ending) (w' : World) : Prop :=
  ∃ k : Nat, k ≤ X.length ∧ e = .returned (.int .i64 k) ∧ PSet w' mb ((rws h (X.take k)).reverse ++ S) ∧ TB mb w w' ∧ (∀ hk : k < X.length, h * X[k] ∈ (rws h (X.take k)).reverse ++ S)

theorem struct_cell {w w' : World} {mb sb j : Nat} {u : Value} {S : List Pm} (h : w.cell? ⟨sb, j, none⟩ = some u) (hm : PSet w mb S) (ht : TB mb w w') : w'.cell? ⟨sb, j, none⟩ = some u := by
  obtain ⟨es, k, hobj⟩ := hm.obj
  have hne : sb ≠ mb := by
    intro e
    subst e
    simp [World.cell?, hobj] at h
  rw [World.cell?_of_block (w := w) (a := ⟨sb, j, none⟩) (ht.block sb (World.block_lt_of_cell? w _ h) hne)]
  exact h

set_option maxRecDepth 20000 in
set_option maxHeartbeats 8000000 in
theorem ring_ok (sb mb : Nat) (h : Pm) (v : Value) (X S : List Pm) (w : World) (h3 : w.cell? ⟨sb, 3, none⟩ = some (.map (some mb))) (hm : PSet w mb S) (hX : PmsAt w v X) (hl : X.length ≤ 1000) (hSl : S.length ≤ 1000000) :
    Calls Try.prog 97 #[.pointer (some ⟨sb, 0, none⟩), pv h, v] w (RingPost mb h X S w) := by
  obtain ⟨p0, c0, rfl⟩ := hX.form
  have hhl := h.len
  have HX := hide hX
  have HM := hide hm
  have H3 := hide h3
  have HA0 := hide (SAr.new w h.l hhl)
  have HM0 : Hid (PSet (w.alloc (.cells (i8s h.l) 85)) mb S) := hm.of_block (Below.heap_alloc w _ mb hm.lt)
  clear hX hm h3
  unfold pv
  go_enter Try.func97, Try.ntmps97
  go_wp2
  go_loopw [13] (fun i wr => ∃ k : Nat, k ≤ X.length ∧ i = .int .i64 k ∧ Hid (PSet wr mb ((rws h (X.take k)).reverse ++ S)) ∧ Hid (SAr wr w.heap.size h.l) ∧ Hid (TB mb w wr)) (fun i _ => X.length - (intOf i).toNat)
  case atStart => exact ⟨0, by omega, rfl, HM0, HA0, (TB.refl mb w).alloc _⟩
  case round =>
    clear HA0 HM0
    obtain ⟨k, hk, rfl, hM, hA, hT⟩ := hrel
    by_cases hlt : k < X.length
    · obtain ⟨y, hy⟩ : ∃ y, X[k] = y := ⟨_, rfl⟩
      have hPX := HX.out.tb HM.out hT.out
      rcases hPX with ⟨rfl, _⟩ | ⟨b, off, cap, he, hx1, hx2, hx3, hx4, hx5⟩
      · simp at hlt
      simp only [Value.slice.injEq] at he
      obtain ⟨rfl, _, rfl⟩ := he
      have hrg := hx5 k hlt
      rw [hy] at hrg
      have hyl := y.len
      have HRT := hide (rws_take_succ h X hlt)
      rw [hy] at HRT
      have hxy := (h * y).len
      have hSz : ((rws h (X.take k)).reverse ++ S).length ≤ 2000000 := by rw [List.length_append, List.length_reverse, rws_length, List.length_take]; omega
      have HY := hide hy
      clear hx5 hy
      go_upto_region 4 with (first | refine wpList_load_mid rfl _ _ rfl b (off + k * 12) rfl (y.l.map (Value.int .i8)) _ hrg Try.underlying85 rfl (by rw [Try.size85, List.length_map, hyl]) ?_ | (refine wpList_store_sar rfl _ _ rfl wr.heap.size zeros12 y.l (szeros_new wr) rfl rfl hyl ?_; intro w1 hA1 hg1))
      have hT1 : TB mb w w1 := (hT.out.alloc _).grown hg1 hT.out.size
      have hAh1 := (hA.out.alloc (.cells (i8s zeros12) 85)).kept hg1 (by intro e; injection e with e; have := hT.out.size; have := hA.out.lt; omega)
      have hM1 : PSet w1 mb ((rws h (X.take k)).reverse ++ S) := (hM.out.of_block (w' := wr.alloc (.cells (i8s zeros12) 85)) (Below.heap_alloc wr _ mb hM.out.lt)).of_block (hg1.block mb (by have := hM.out.lt; simp; omega) (by intro e; injection e with e; have := hM.out.lt; omega))
      have HT1 := hide hT1
      have HM1 := hide hM1
      have hw1 : wr.heap.size < w1.heap.size := by have := hg1.size; simp at this; omega
      have hDlt : w.heap.size < wr.heap.size := hA.out.lt
      have hmbD : mb < wr.heap.size := hM.out.lt
      generalize hD : wr.heap.size = D at *
      clear hrg hg1 hM1 hM hA hT hT1 hD
      go_wp2_with (first | refine wpList_load_sar rfl _ rfl _ _ hAh1 rfl ?_ | refine wpList_load_sar rfl _ rfl _ _ hA1 rfl ?_)
      refine (stimes_ok h y w1).mono ?_
      unfold pv
      rintro e w2 ⟨rfl, hb2⟩
      have hA2 := hA1.below hb2 hA1.lt
      have hAh2 := hAh1.below hb2 hAh1.lt
      have HM2 := hide (HM1.out.of_block (hb2.block mb HM1.out.lt))
      have HT2 := hide (HT1.out.below hb2)
      clear hA1 hAh1 HM1 HT1 hb2
      go_upto_region 5 with (refine wpList_store_sar rfl _ _ rfl D y.l (h * y).l hA2 rfl rfl hxy ?_; intro w3 hA3 hg3)
      have hAh3 := hAh2.kept hg3 (by intro e; injection e with e; omega)
      have hT3 : TB mb w w3 := HT2.out.grown hg3 (by omega)
      have hM3 : PSet w3 mb ((rws h (X.take k)).reverse ++ S) := HM2.out.of_block (hg3.block mb HM2.out.lt (by intro e; injection e with e; omega))
      have h33 := struct_cell H3.out HM.out hT3
      have HM3 := hide hM3
      have HT3 := hide hT3
      have HAh3 := hide hAh3
      clear hA2 hAh2 HM2 HT2 hg3 hM3 hT3 hAh3
      by_cases hin : h * y ∈ (rws h (X.take k)).reverse ++ S
      · obtain ⟨lv, hlk⟩ := (HM3.out.of_block (w' := w3.drew) rfl).yes hin
        go_upto_region 5 with fail
        refine wp_region_held_drew (S := fun W' => W'.cell? ⟨sb, 3, none⟩ = some (.map (some mb)) ∧ SAr W' D (h * y).l ∧ (Instr.lookup 78 (.map (some mb)) (.agg ((h * y).l.map (Value.int .i8)).toArray) true).run Try.prog W' = .ok (.tuple #[lv, .bool true]) W') (by kernel_rfl) ⟨h33, hA3, hlk⟩ (fun hS => ?_)
        refine wpAnyH_take (i := 0) (v := .pointer (some ⟨sb, 0, none⟩)) rfl (by kernel_rfl) (by kernel_rfl) (by kernel_rfl) (fun _ _ _ h => h) (Or.inl ⟨by kernel_rfl, fun w' hS' => by obtain ⟨q0, q1, q2⟩ := hS'; go_simp⟩) hS ?_
        refine wpAnyH_take (i := 1) (v := .pointer (some ⟨sb, 0, none⟩)) rfl (by kernel_rfl) (by kernel_rfl) (by kernel_rfl) (fun _ _ _ h => h) (Or.inl ⟨by kernel_rfl, fun w' hS' => by obtain ⟨q0, q1, q2⟩ := hS'; go_simp⟩) hS ?_
        refine wpAnyH_take (i := 2) (v := .pointer (some ⟨sb, 3, none⟩)) rfl (by kernel_rfl) (by kernel_rfl) (by kernel_rfl) (fun _ _ _ h => h) (Or.inl ⟨by kernel_rfl, fun w' hS' => by obtain ⟨q0, q1, q2⟩ := hS'; go_simp⟩) hS ?_
        refine wpAnyH_take (i := 3) (v := .map (some mb)) rfl (by kernel_rfl) (by kernel_rfl) (by kernel_rfl) (fun _ _ _ h => h) (Or.inl ⟨by kernel_rfl, fun w' hS' => by obtain ⟨q0, q1, q2⟩ := hS'; go_simp⟩) hS ?_
        refine wpAnyH_take (i := 4) rfl (by kernel_rfl) (by kernel_rfl) (by kernel_rfl) (fun _ _ _ h => h) (yieldsIf_load_mid (by kernel_rfl) _ _ rfl D 0 rfl ((h * y).l.map (Value.int .i8)) _ (fun w' hS' => hS'.2.1.range) Try.underlying85 rfl (by rw [Try.size85, List.length_map, Pm.len])) hS ?_
        refine wpAnyH_take (i := 5) (v := .tuple #[lv, .bool true]) rfl (by kernel_rfl) (by kernel_rfl) (by kernel_rfl) (fun _ _ _ h => h) (Or.inl ⟨by kernel_rfl, fun w' hS' => by obtain ⟨q0, q1, q2⟩ := hS'; go_simp⟩) hS ?_
        refine wpAnyH_take (i := 6) (v := .tuple #[lv, .bool true]) rfl (by kernel_rfl) (by kernel_rfl) (by kernel_rfl) (fun _ _ _ h => h) (Or.inl ⟨by kernel_rfl, fun w' hS' => by obtain ⟨q0, q1, q2⟩ := hS'; go_simp⟩) hS ?_
        refine wpAnyH_take (i := 7) (v := lv) rfl (by kernel_rfl) (by kernel_rfl) (by kernel_rfl) (fun _ _ _ h => h) (Or.inl ⟨by kernel_rfl, fun w' hS' => by obtain ⟨q0, q1, q2⟩ := hS'; go_simp⟩) hS ?_
        refine wpAnyH_take (i := 8) (v := .bool true) rfl (by kernel_rfl) (by kernel_rfl) (by kernel_rfl) (fun _ _ _ h => h) (Or.inl ⟨by kernel_rfl, fun w' hS' => by obtain ⟨q0, q1, q2⟩ := hS'; go_simp⟩) hS ?_
        refine wpAnyH_take (i := 9) (v := lv) rfl (by kernel_rfl) (by kernel_rfl) (by kernel_rfl) (fun _ _ _ h => h) (Or.inl ⟨by kernel_rfl, fun w' hS' => by obtain ⟨q0, q1, q2⟩ := hS'; go_simp⟩) hS ?_
        refine wpAnyH_take (i := 10) (v := .bool true) rfl (by kernel_rfl) (by kernel_rfl) (by kernel_rfl) (fun _ _ _ h => h) (Or.inl ⟨by kernel_rfl, fun w' hS' => by obtain ⟨q0, q1, q2⟩ := hS'; go_simp⟩) hS ?_
        refine wpAnyH_done (by kernel_rfl) ?_ _
        clear hS hlk
        go_wp2
        go_ret
        exact ⟨k, by omega, rfl, HM3.out.of_block rfl, HT3.out.drew, fun hk' => by rw [HY.out]; exact hin⟩
      · obtain ⟨lv, hlk⟩ := (HM3.out.of_block (w' := w3.drew) rfl).no hin
        go_upto_region 5 with fail
        refine wp_region_held_drew (S := fun W' => W'.cell? ⟨sb, 3, none⟩ = some (.map (some mb)) ∧ SAr W' D (h * y).l ∧ (Instr.lookup 78 (.map (some mb)) (.agg ((h * y).l.map (Value.int .i8)).toArray) true).run Try.prog W' = .ok (.tuple #[lv, .bool false]) W') (by kernel_rfl) ⟨h33, hA3, hlk⟩ (fun hS => ?_)
        refine wpAnyH_take (i := 0) (v := .pointer (some ⟨sb, 0, none⟩)) rfl (by kernel_rfl) (by kernel_rfl) (by kernel_rfl) (fun _ _ _ h => h) (Or.inl ⟨by kernel_rfl, fun w' hS' => by obtain ⟨q0, q1, q2⟩ := hS'; go_simp⟩) hS ?_
        refine wpAnyH_take (i := 1) (v := .pointer (some ⟨sb, 0, none⟩)) rfl (by kernel_rfl) (by kernel_rfl) (by kernel_rfl) (fun _ _ _ h => h) (Or.inl ⟨by kernel_rfl, fun w' hS' => by obtain ⟨q0, q1, q2⟩ := hS'; go_simp⟩) hS ?_
        refine wpAnyH_take (i := 2) (v := .pointer (some ⟨sb, 3, none⟩)) rfl (by kernel_rfl) (by kernel_rfl) (by kernel_rfl) (fun _ _ _ h => h) (Or.inl ⟨by kernel_rfl, fun w' hS' => by obtain ⟨q0, q1, q2⟩ := hS'; go_simp⟩) hS ?_
        refine wpAnyH_take (i := 3) (v := .map (some mb)) rfl (by kernel_rfl) (by kernel_rfl) (by kernel_rfl) (fun _ _ _ h => h) (Or.inl ⟨by kernel_rfl, fun w' hS' => by obtain ⟨q0, q1, q2⟩ := hS'; go_simp⟩) hS ?_
        refine wpAnyH_take (i := 4) rfl (by kernel_rfl) (by kernel_rfl) (by kernel_rfl) (fun _ _ _ h => h) (yieldsIf_load_mid (by kernel_rfl) _ _ rfl D 0 rfl ((h * y).l.map (Value.int .i8)) _ (fun w' hS' => hS'.2.1.range) Try.underlying85 rfl (by rw [Try.size85, List.length_map, Pm.len])) hS ?_
        refine wpAnyH_take (i := 5) (v := .tuple #[lv, .bool false]) rfl (by kernel_rfl) (by kernel_rfl) (by kernel_rfl) (fun _ _ _ h => h) (Or.inl ⟨by kernel_rfl, fun w' hS' => by obtain ⟨q0, q1, q2⟩ := hS'; go_simp⟩) hS ?_
        refine wpAnyH_take (i := 6) (v := .tuple #[lv, .bool false]) rfl (by kernel_rfl) (by kernel_rfl) (by kernel_rfl) (fun _ _ _ h => h) (Or.inl ⟨by kernel_rfl, fun w' hS' => by obtain ⟨q0, q1, q2⟩ := hS'; go_simp⟩) hS ?_
        refine wpAnyH_take (i := 7) (v := lv) rfl (by kernel_rfl) (by kernel_rfl) (by kernel_rfl) (fun _ _ _ h => h) (Or.inl ⟨by kernel_rfl, fun w' hS' => by obtain ⟨q0, q1, q2⟩ := hS'; go_simp⟩) hS ?_
        refine wpAnyH_take (i := 8) (v := .bool false) rfl (by kernel_rfl) (by kernel_rfl) (by kernel_rfl) (fun _ _ _ h => h) (Or.inl ⟨by kernel_rfl, fun w' hS' => by obtain ⟨q0, q1, q2⟩ := hS'; go_simp⟩) hS ?_
        refine wpAnyH_take (i := 9) (v := lv) rfl (by kernel_rfl) (by kernel_rfl) (by kernel_rfl) (fun _ _ _ h => h) (Or.inl ⟨by kernel_rfl, fun w' hS' => by obtain ⟨q0, q1, q2⟩ := hS'; go_simp⟩) hS ?_
        refine wpAnyH_take (i := 10) (v := .bool false) rfl (by kernel_rfl) (by kernel_rfl) (by kernel_rfl) (fun _ _ _ h => h) (Or.inl ⟨by kernel_rfl, fun w' hS' => by obtain ⟨q0, q1, q2⟩ := hS'; go_simp⟩) hS ?_
        refine wpAnyH_done (by kernel_rfl) ?_ _
        clear hS hlk
        obtain ⟨w4, hput, hset4, hturn4⟩ := (HM3.out.of_block (w' := w3.drew.drew) rfl).put hin (by unfold maxLen; omega) (.int .i64 ((((rws h (X.take k)).reverse ++ S).length : Nat) : Int))
        have hput' : (Instr.mapUpdate 78 (.map (some mb)) (.agg ((h * y).l.map (Value.int .i8)).toArray) (.int .i64 ((((rws h (X.take k)).reverse ++ S).length : Nat) : Int))).run Try.prog w3.drew.drew = .ok () w4 := hput
        have hlen := (HM3.out.of_block (w' := w3.drew.drew) rfl).len
        have HSet4 : Hid (PSet w4 mb ((rws h (X.take (k + 1))).reverse ++ S)) := by
          show PSet _ _ _
          rw [HRT.out, List.reverse_append]
          exact hset4
        have HT4 := hide (HT3.out.drew.drew.turned hturn4)
        have h34 := struct_cell H3.out HM.out HT4.out
        have hA4 : SAr w4 D (h * y).l := ⟨(turned_block hturn4 (by omega)).trans hA3.1, hA3.2⟩
        have HAh4 : Hid (SAr w4 w.heap.size h.l) := ⟨(turned_block hturn4 (by intro e; have h7 := HAh3.out.1; rw [e] at h7; obtain ⟨es, ck, h8⟩ := HM3.out.obj; rw [h8] at h7; cases h7)).trans HAh3.out.1, HAh3.out.2⟩
        clear hput hset4 hturn4
        generalize (((rws h (X.take k)).reverse ++ S).length : Nat) = sl at *
        go_upto_region 8 with fail
        refine wp_region_held_drew (S := fun W' => W'.cell? ⟨sb, 3, none⟩ = some (.map (some mb)) ∧ SAr W' D (h * y).l) (by kernel_rfl) ⟨h33, hA3⟩ (fun hS => ?_)
        refine wpAnyH_take (i := 0) (v := .pointer (some ⟨sb, 0, none⟩)) rfl (by kernel_rfl) (by kernel_rfl) (by kernel_rfl) (fun _ _ _ h => h) (Or.inl ⟨by kernel_rfl, fun w' hS' => by obtain ⟨q0, q1⟩ := hS'; go_simp⟩) hS ?_
        refine wpAnyH_take (i := 1) (v := .pointer (some ⟨sb, 0, none⟩)) rfl (by kernel_rfl) (by kernel_rfl) (by kernel_rfl) (fun _ _ _ h => h) (Or.inl ⟨by kernel_rfl, fun w' hS' => by obtain ⟨q0, q1⟩ := hS'; go_simp⟩) hS ?_
        refine wpAnyH_take (i := 2) (v := .pointer (some ⟨sb, 3, none⟩)) rfl (by kernel_rfl) (by kernel_rfl) (by kernel_rfl) (fun _ _ _ h => h) (Or.inl ⟨by kernel_rfl, fun w' hS' => by obtain ⟨q0, q1⟩ := hS'; go_simp⟩) hS ?_
        refine wpAnyH_take (i := 3) (v := .map (some mb)) rfl (by kernel_rfl) (by kernel_rfl) (by kernel_rfl) (fun _ _ _ h => h) (Or.inl ⟨by kernel_rfl, fun w' hS' => by obtain ⟨q0, q1⟩ := hS'; go_simp⟩) hS ?_
        refine wpAnyH_take (i := 4) rfl (by kernel_rfl) (by kernel_rfl) (by kernel_rfl) (fun _ _ _ h => h) (yieldsIf_load_mid (by kernel_rfl) _ _ rfl D 0 rfl ((h * y).l.map (Value.int .i8)) _ (fun w' hS' => hS'.2.range) Try.underlying85 rfl (by rw [Try.size85, List.length_map, Pm.len])) hS ?_
        refine wpAnyH_take (i := 5) (v := .pointer (some ⟨sb, 0, none⟩)) rfl (by kernel_rfl) (by kernel_rfl) (by kernel_rfl) (fun _ _ _ h => h) (Or.inl ⟨by kernel_rfl, fun w' hS' => by obtain ⟨q0, q1⟩ := hS'; go_simp⟩) hS ?_
        refine wpAnyH_take (i := 6) (v := .pointer (some ⟨sb, 0, none⟩)) rfl (by kernel_rfl) (by kernel_rfl) (by kernel_rfl) (fun _ _ _ h => h) (Or.inl ⟨by kernel_rfl, fun w' hS' => by obtain ⟨q0, q1⟩ := hS'; go_simp⟩) hS ?_
        refine wpAnyH_take (i := 7) (v := .pointer (some ⟨sb, 3, none⟩)) rfl (by kernel_rfl) (by kernel_rfl) (by kernel_rfl) (fun _ _ _ h => h) (Or.inl ⟨by kernel_rfl, fun w' hS' => by obtain ⟨q0, q1⟩ := hS'; go_simp⟩) hS ?_
        refine wpAnyH_take (i := 8) (v := .map (some mb)) rfl (by kernel_rfl) (by kernel_rfl) (by kernel_rfl) (fun _ _ _ h => h) (Or.inl ⟨by kernel_rfl, fun w' hS' => by obtain ⟨q0, q1⟩ := hS'; go_simp⟩) hS ?_
        refine wpAnyH_ready (rs := [9]) (by kernel_rfl) (by simp) ?_
        refine AllReadyH.cons rfl (fun K hK => ?_) (AllReadyH.nil)
        go_simp
        refine hK.out _ _ ⟨h33, hA3⟩ (fun hS => ?_)
        clear hK
        refine wpAnyH_ready (rs := [10]) (by kernel_rfl) (by simp) ?_
        refine AllReadyH.cons rfl (fun K hK => ?_) (AllReadyH.nil)
        go_simp
        refine hK.out _ _ ⟨h34, hA4⟩ (fun hS => ?_)
        clear hK
        refine wpAnyH_done (by kernel_rfl) ?_ _
        clear hput' hlen h33 hA3 hS h34 hA4
        go_wp2
        go_roundw
        case rel => exact ⟨k + 1, by omega, by go_num, HSet4, HAh4, HT4⟩
        case measure => simp [intOf]; omega
    · obtain rfl : k = X.length := by omega
      have HM9 := hide hM.out
      have HT9 := hide hT.out
      clear hM hA hT
      go_wp2
      go_ret
      exact ⟨X.length, Nat.le_refl _, rfl, HM9.out, HT9.out, fun hk => absurd hk (by omega)⟩

end Go.Proofs.Ytoiiadiimfohiaa

/- Contract: search's silence. -/
namespace Go.Proofs.Ytoiiadiimfohiaa
open Go.RowKit

theorem PSet.dropT {w : World} {b : Nat} {x : Pm} {S : List Pm} (h : PSet w b (x :: S)) :
    ∃ w', (∀ ty, (Builtin.delete_ #[78, 85] ty #[.map (some b), pv x]).run Try.prog w = .ok (.tuple #[]) w') ∧ PSet w' b S ∧ w.mapTurned w' b := by
  obtain ⟨w', hrun, h1, h2⟩ := h.drop 0
  exact ⟨w', fun _ => hrun, h1, h2⟩

theorem rws_drop (h : Pm) (X : List Pm) {i : Nat} (hi : i < X.length) : rws h (X.drop i) = h * X[i] :: rws h (X.drop (i + 1)) := by
  unfold rws; rw [List.drop_eq_getElem_cons hi, List.map_cons]

set_option maxRecDepth 20000 in
set_option maxHeartbeats 8000000 in
theorem silence_ok (sb mb : Nat) (h : Pm) (v : Value) (X S : List Pm) (w : World) (h3 : w.cell? ⟨sb, 3, none⟩ = some (.map (some mb))) (hm : PSet w mb ((rws h X).reverse ++ S)) (hX : PmsAt w v X) (hl : X.length ≤ 1000) :
    Calls Try.prog 100 #[.pointer (some ⟨sb, 0, none⟩), pv h, v] w fun e w' => e = .returned (.tuple #[]) ∧ PSet w' mb S ∧ TB mb w w' := by
  obtain ⟨p0, c0, rfl⟩ := hX.form
  have hhl := h.len
  have HX := hide hX
  have HM := hide hm
  have H3 := hide h3
  have HA0 := hide (SAr.new w h.l hhl)
  have HM0 : Hid (PSet (w.alloc (.cells (i8s h.l) 85)) mb (rws h (X.drop 0) ++ S)) := (hm.of_block (Below.heap_alloc w _ mb hm.lt)).perm ((List.reverse_perm _).append_right _)
  clear hX hm h3
  unfold pv
  go_enter Try.func100, Try.ntmps100
  go_wp2
  go_loopw [10] (fun i wr => ∃ k : Nat, k ≤ X.length ∧ i = .int .i64 k ∧ Hid (PSet wr mb (rws h (X.drop k) ++ S)) ∧ Hid (SAr wr w.heap.size h.l) ∧ Hid (TB mb w wr)) (fun i _ => X.length - (intOf i).toNat)
  case atStart => exact ⟨0, by omega, rfl, HM0, HA0, (TB.refl mb w).alloc _⟩
  case round =>
    clear HA0 HM0
    obtain ⟨k, hk, rfl, hM, hA, hT⟩ := hrel
    by_cases hlt : k < X.length
    · obtain ⟨y, hy⟩ : ∃ y, X[k] = y := ⟨_, rfl⟩
      have hPX := HX.out.tb HM.out hT.out
      rcases hPX with ⟨rfl, _⟩ | ⟨b, off, cap, he, hx1, hx2, hx3, hx4, hx5⟩
      · simp at hlt
      simp only [Value.slice.injEq] at he
      obtain ⟨rfl, _, rfl⟩ := he
      have hrg := hx5 k hlt
      rw [hy] at hrg
      have hyl := y.len
      have HRT := hide (rws_drop h X hlt)
      rw [hy] at HRT
      clear hx5 hy
      go_upto_region 4 with (first | refine wpList_load_mid rfl _ _ rfl b (off + k * 12) rfl (y.l.map (Value.int .i8)) _ hrg Try.underlying85 rfl (by rw [Try.size85, List.length_map, hyl]) ?_ | (refine wpList_store_sar rfl _ _ rfl wr.heap.size zeros12 y.l (szeros_new wr) rfl rfl hyl ?_; intro w1 hA1 hg1))
      have hT1 : TB mb w w1 := (hT.out.alloc _).grown hg1 hT.out.size
      have hAh1 := (hA.out.alloc (.cells (i8s zeros12) 85)).kept hg1 (by intro e; injection e with e; have := hT.out.size; have := hA.out.lt; omega)
      have hM1 : PSet w1 mb (h * y :: (rws h (X.drop (k + 1)) ++ S)) := by
        have h9 := (hM.out.of_block (w' := wr.alloc (.cells (i8s zeros12) 85)) (Below.heap_alloc wr _ mb hM.out.lt)).of_block (hg1.block mb (by have := hM.out.lt; simp; omega) (by intro e; injection e with e; have := hM.out.lt; omega))
        rw [HRT.out] at h9
        exact h9
      have HT1 := hide hT1
      have HM1 := hide hM1
      have h31 := struct_cell H3.out HM.out hT1
      have hDlt : w.heap.size < wr.heap.size := hA.out.lt
      have hmbD : mb < wr.heap.size := hM.out.lt
      generalize hD : wr.heap.size = D at *
      clear hrg hg1 hM1 hM hA hT hT1 hD
      refine wp_region_held_drew (S := fun W' => W'.cell? ⟨sb, 3, none⟩ = some (.map (some mb)) ∧ SAr W' w.heap.size h.l ∧ SAr W' D y.l) (by kernel_rfl) ⟨h31, hAh1, hA1⟩ (fun hS => ?_)
      refine wpAnyH_take (i := 0) (v := .pointer (some ⟨sb, 0, none⟩)) rfl (by kernel_rfl) (by kernel_rfl) (by kernel_rfl) (fun _ _ _ h => h) (Or.inl ⟨by kernel_rfl, fun w' hS' => by obtain ⟨q0, q1, q2⟩ := hS'; go_simp⟩) hS ?_
      refine wpAnyH_take (i := 1) (v := .pointer (some ⟨sb, 0, none⟩)) rfl (by kernel_rfl) (by kernel_rfl) (by kernel_rfl) (fun _ _ _ h => h) (Or.inl ⟨by kernel_rfl, fun w' hS' => by obtain ⟨q0, q1, q2⟩ := hS'; go_simp⟩) hS ?_
      refine wpAnyH_take (i := 2) (v := .pointer (some ⟨sb, 3, none⟩)) rfl (by kernel_rfl) (by kernel_rfl) (by kernel_rfl) (fun _ _ _ h => h) (Or.inl ⟨by kernel_rfl, fun w' hS' => by obtain ⟨q0, q1, q2⟩ := hS'; go_simp⟩) hS ?_
      refine wpAnyH_take (i := 3) (v := .map (some mb)) rfl (by kernel_rfl) (by kernel_rfl) (by kernel_rfl) (fun _ _ _ h => h) (Or.inl ⟨by kernel_rfl, fun w' hS' => by obtain ⟨q0, q1, q2⟩ := hS'; go_simp⟩) hS ?_
      refine wpAnyH_take (i := 4) rfl (by kernel_rfl) (by kernel_rfl) (by kernel_rfl) (fun _ _ _ h => h) (yieldsIf_load_mid (by kernel_rfl) _ _ rfl w.heap.size 0 rfl (h.l.map (Value.int .i8)) _ (fun w' hS' => hS'.2.1.range) Try.underlying85 rfl (by rw [Try.size85, List.length_map, Pm.len])) hS ?_
      refine wpAnyH_take (i := 5) rfl (by kernel_rfl) (by kernel_rfl) (by kernel_rfl) (fun _ _ _ h => h) (yieldsIf_load_mid (by kernel_rfl) _ _ rfl D 0 rfl (y.l.map (Value.int .i8)) _ (fun w' hS' => hS'.2.2.range) Try.underlying85 rfl (by rw [Try.size85, List.length_map, Pm.len])) hS ?_
      refine wpAnyH_ready (rs := [6]) (by kernel_rfl) (by simp) ?_
      refine AllReadyH.cons rfl (fun K hK => ?_) (AllReadyH.nil)
      go_simp
      refine (stimes_ok h y w1.drew).mono ?_
      rintro e w2 ⟨rfl, hb2⟩
      have hb2' : Below w1.heap.size w1 w2 := ((Below.refl _ _).drew).trans hb2
      have HM2 : Hid (PSet w2 mb (h * y :: (rws h (X.drop (k + 1)) ++ S))) := HM1.out.of_block (hb2'.block mb HM1.out.lt)
      have HT2 := hide (HT1.out.below hb2')
      have h32 := struct_cell H3.out HM.out HT2.out
      have hAh2 := hAh1.below hb2' hAh1.lt
      have hA2 := hA1.below hb2' hA1.lt
      refine hK.out _ _ ⟨h32, hAh2, hA2⟩ (fun hS => ?_)
      clear hK hb2
      obtain ⟨w3, hdrop, hset3, hturn3⟩ := HM2.out.dropT
      have HSet3 := hide hset3
      have HT3 := hide (HT2.out.turned hturn3)
      have h33 := struct_cell H3.out HM.out HT3.out
      have hmbh : w.heap.size ≠ mb := by intro e; have h7 := hAh2.1; rw [e] at h7; obtain ⟨es, ck, h8⟩ := HM2.out.obj; rw [h8] at h7; cases h7
      have hAh3 : SAr w3 w.heap.size h.l := ⟨(turned_block hturn3 hmbh).trans hAh2.1, hAh2.2⟩
      have hA3 : SAr w3 D y.l := ⟨(turned_block hturn3 (by omega)).trans hA2.1, hA2.2⟩
      clear hturn3 hset3
      unfold pv at hdrop
      refine wpAnyH_ready (rs := [7]) (by kernel_rfl) (by simp) ?_
      refine AllReadyH.cons rfl (fun K hK => ?_) (AllReadyH.nil)
      unfold pv
      go_simp
      refine hK.out _ _ ⟨h33, hAh3, hA3⟩ (fun hS => ?_)
      clear hK
      refine wpAnyH_done (by kernel_rfl) ?_ _
      have HAh3 := hide hAh3
      clear hdrop hS h33 hA3 hAh3 h32 hAh2 hA2 h31 hAh1 hA1
      go_wp2
      go_roundw
      case rel => exact ⟨k + 1, by omega, by go_num, HSet3, HAh3, HT3⟩
      case measure => simp [intOf]; omega
    · obtain rfl : k = X.length := by omega
      have HM9 : Hid (PSet wr mb S) := by
        have := hM.out
        rw [List.drop_length] at this
        exact this
      have HT9 := hide hT.out
      clear hM hA hT
      go_wp2
      exact bodyPost_end (results_none rfl _ _ _) rfl ⟨rfl, HM9.out, HT9.out⟩

end Go.Proofs.Ytoiiadiimfohiaa

/- Packed rows held against each other; plain: what a search finds. -/
namespace Go.Proofs.Ytoiiadiimfohiaa
open Go.RowKit Go.Maps

theorem KeyT.lits {K E : TypeId} {q : IntKind} (h : KeyT K E q) {zs : List Int} (hz : OkK q zs) : (kv q zs).formed Try.prog K = true ∧ ∃ ls, Try.prog.keyLits (Try.prog.types.size + 1) K (kv q zs).cells.toList = some ls := by
  obtain ⟨hl, hw⟩ := hz
  have hf : (kv q zs).formed Try.prog K = true := by
    unfold kv Value.formed
    rw [h.arr]
    simp [h.cK, hl]
  refine ⟨hf, ?_⟩
  have hcs : (kv q zs).cells.toList = zs.map (Value.int q) := by simp [kv, Value.cells]
  rw [hcs]
  unfold Program.keyLits
  rw [h.arr]
  simp only
  rw [if_pos (by simp [h.cK, hl])]
  obtain ⟨ys, hys⟩ := mapM_some (fun i => Try.prog.keyLits Try.prog.types.size E (((zs.map (Value.int q)).drop (i * Try.prog.cellsOf E)).take (Try.prog.cellsOf E))) (List.range 12) (fun i hi => by
    have hi' : i < zs.length := by rw [hl]; simpa using hi
    refine ⟨[.int q zs[i]], ?_⟩
    rw [h.cE, Nat.mul_one]
    have e : ((zs.map (Value.int q)).drop i).take 1 = [.int q zs[i]] := by
      rw [List.drop_eq_getElem_cons (by simpa using hi')]
      simp
    rw [e]
    obtain ⟨d, hd⟩ : ∃ d, Try.prog.types.size = d + 1 := pos_succ _ (Nat.lt_of_le_of_lt (Nat.zero_le _) h.low)
    rw [hd]
    unfold Program.keyLits
    rw [h.int]
    simp [hw zs[i] (List.getElem_mem hi')])
  exact ⟨ys.flatten, by rw [hys]; rfl⟩

theorem KeyT.same {K E : TypeId} {q : IntKind} (h : KeyT K E q) {zs zs' : List Int} (hz : OkK q zs) (hz' : OkK q zs') (e : Try.prog.keyLits (Try.prog.types.size + 1) K (kv q zs).cells.toList = Try.prog.keyLits (Try.prog.types.size + 1) K (kv q zs').cells.toList) :
    keyOf Try.prog K (kv q zs) = keyOf Try.prog K (kv q zs') := by
  unfold keyOf
  rw [h.arr]
  simp only
  rw [(h.lits hz).1, (h.lits hz').1, e]

theorem peq (x y : Pm) (w : World) : ∃ r : Bool, (binOp .eql 85 (.agg (i8s x.l)) (.agg (i8s y.l))).run Try.prog w = .ok (.bool r) w ∧ (r = true ↔ x = y) := by
  obtain ⟨f1, l1, h1⟩ := skeyT.lits (okK_pm x)
  obtain ⟨f2, l2, h2⟩ := skeyT.lits (okK_pm y)
  obtain ⟨r, hr, hiff⟩ := run_equalIn_deep (P := Try.prog) 9997 3 85 (by kernel_rfl) w _ _ _ _ l1 l2 f1 f2 h1 h2
  refine ⟨r, ?_, hiff.trans ⟨fun e => ?_, fun e => ?_⟩⟩
  · rw [run_eql_struct]
    have hr' : (Op.equalIn 10000 85 (.agg (i8s x.l)) (.agg (i8s y.l))).run Try.prog w = .ok r w := hr
    rw [hr']
    rfl
  · obtain ⟨lx, hx⟩ := pm_key x
    have hk := skeyT.same (okK_pm x) (okK_pm y) (by rw [h1, h2, e])
    exact pm_key_inj hx (hk ▸ hx)
  · subst e
    rw [h1] at h2
    exact Option.some.inj h2

/-! what a search finds -/
section
open Classical

/-- Is a lead rung from a head on without a row that was rung? -/
def okl (S : List Pm) (h : Pm) (X : List Pm) : Prop := ((rws h X).reverse ++ S).Nodup

/-- All touches of so many leads more that are true and come round, in order. -/
noncomputable def sols (G : List (List Pm × Pm)) : Nat → List Pm → Pm → List (List Nat)
  | 0, _, h => if h = 1 then [[]] else []
  | l + 1, S, h => (List.range G.length).flatMap (fun c => if okl S h (G.getD c ([], 1)).1 then (sols G l ((rws h (G.getD c ([], 1)).1).reverse ++ S) (h * (G.getD c ([], 1)).2)).map (fun t => c :: t) else [])

/-- .. by one call. -/
noncomputable def solBy (G : List (List Pm × Pm)) (l : Nat) (S : List Pm) (h : Pm) (c : Nat) : List (List Nat) :=
  if okl S h (G.getD c ([], 1)).1 then (sols G l ((rws h (G.getD c ([], 1)).1).reverse ++ S) (h * (G.getD c ([], 1)).2)).map (fun t => c :: t) else []

/-- .. by the first calls. -/
noncomputable def solTo (G : List (List Pm × Pm)) (l : Nat) (S : List Pm) (h : Pm) (k : Nat) : List (List Nat) := (List.range k).flatMap (solBy G l S h)

end

theorem sols_succ (G : List (List Pm × Pm)) (l : Nat) (S : List Pm) (h : Pm) : sols G (l + 1) S h = solTo G l S h G.length := rfl

theorem solTo_succ (G : List (List Pm × Pm)) (l : Nat) (S : List Pm) (h : Pm) (k : Nat) : solTo G l S h (k + 1) = solTo G l S h k ++ solBy G l S h k := by
  unfold solTo; rw [List.range_succ, List.flatMap_append]; simp

/-- How many beginnings there are at most. -/
def bnd (C : Nat) : Nat → Nat
  | 0 => 0
  | l + 1 => C * (1 + bnd C l)

/-- What is found, so many at most. -/
def fnd (many : Nat) (F : List (List Nat)) (P : List Nat) (A : List (List Nat)) : List (List Nat) := (F ++ A.map (fun t => P ++ t)).take many

theorem fnd_nil {many : Nat} {F : List (List Nat)} (P : List Nat) (h : F.length ≤ many) : fnd many F P [] = F := by
  unfold fnd; rw [List.map_nil, List.append_nil, List.take_of_length_le h]

theorem fnd_full {many : Nat} {F : List (List Nat)} {P : List Nat} {A : List (List Nat)} (B : List (List Nat)) (h : ¬ (fnd many F P A).length < many) : fnd many F P (A ++ B) = fnd many F P A := by
  unfold fnd at h ⊢
  rw [List.map_append, ← List.append_assoc]
  have h1 : many ≤ (F ++ A.map (fun t => P ++ t)).length := by
    rw [List.length_take] at h
    omega
  rw [List.take_append_of_le_length h1]

theorem fnd_more {many : Nat} {F : List (List Nat)} {P : List Nat} {A : List (List Nat)} (B : List (List Nat)) (h : (fnd many F P A).length < many) : fnd many (fnd many F P A) P B = fnd many F P (A ++ B) := by
  have h1 : (F ++ A.map (fun t => P ++ t)).length < many := by
    unfold fnd at h
    rw [List.length_take] at h
    omega
  unfold fnd
  rw [List.take_of_length_le (Nat.le_of_lt h1), List.map_append, List.append_assoc]

theorem fnd_len (many : Nat) (F : List (List Nat)) (P : List Nat) (A : List (List Nat)) : (fnd many F P A).length ≤ many := by unfold fnd; rw [List.length_take]; omega

theorem fnd_call (many : Nat) (F : List (List Nat)) (P : List Nat) (c : Nat) (A : List (List Nat)) : fnd many F (P ++ [c]) A = fnd many F P (A.map (fun t => c :: t)) := by
  unfold fnd
  rw [List.map_map]
  congr 2
  refine List.map_congr_left (fun t _ => ?_)
  simp

end Go.Proofs.Ytoiiadiimfohiaa

/- Contract: slices.Clone of a row of the call's own. -/
namespace Go.Proofs.Ytoiiadiimfohiaa
open Go.RowKit

set_option maxRecDepth 20000 in
set_option maxHeartbeats 1000000 in
theorem clone_own {base : Nat} {v : Value} {xs : List Int} {w : World} (h : w.ownsRow base 3 1 v xs.length (xs.map (Value.int .i64))) (hl : xs.length ≤ 1000000) :
    Calls Try.prog 96 #[v] w fun e w' => ∃ v', e = .returned v' ∧ w'.ownsRow w.heap.size 3 1 v' xs.length (xs.map (Value.int .i64)) ∧ Below w.heap.size w w' := by
  obtain ⟨j0, hj, hq0, hq1, hq2⟩ := info_parts Try.info3
  have q1 := run_nil_eq
  have q3 := run_some_eq
  rcases h.2 with ⟨rfl, hz⟩ | ⟨g, cap, cur, rfl, hbg, hh, hnc, hm, hs, ht⟩
  · have hx : xs = [] := List.length_eq_zero_iff.1 hz
    subst hx
    clear h hz
    go_enter Try.func96, Try.ntmps96
    go_wp2
    go_ret
    exact ⟨_, rfl, World.ownsRow_nil _ _ _ _, Below.refl _ _⟩
  · have h1c : ∀ v ∈ xs.map (Value.int .i64), v.oneCell' = true := by
      intro v hv'
      obtain ⟨z, _, rfl⟩ := List.mem_map.1 hv'
      rfl
    have hnew : (w.alloc (.cells #[] 3)).ownsRow w.heap.size 3 1 (.slice (some ⟨w.heap.size, 0, none⟩) 0 0) 0 [] := World.ownsRow_made w #[] 0 (Nat.le_refl _) (by unfold maxLen; omega) rfl
    have hsrc := h.alloc (.cells #[] 3)
    clear hh hs ht h
    go_enter Try.func96, Try.ntmps96
    go_wp2_with (at_builtin; refine wpList_append_more rfl _ _ 26 rfl w.heap.size base 3 j0 (.int .i64 0) 8 Try.underlying26 hj hq0 hq1 hq2 rfl _ _ _ rfl hnew _ _ _ rfl hsrc h1c ?c3 ?c4 ?c5 ?_)
    case c3 => unfold maxLen; omega
    case c4 => omega
    case c5 => simp
    · intro v' w' hown hgrow
      have hB : Below w.heap.size w w' := ((Below.refl _ _).alloc (Nat.le_refl _) _).grown hgrow (by simp) (fun k hk => by have : w.heap.size = k := Option.some.inj hk; omega)
      try rw [Nat.zero_add] at hown
      try rw [List.nil_append] at hown
      clear hgrow
      go_wp2
      go_ret
      exact ⟨_, rfl, hown, hB⟩

end Go.Proofs.Ytoiiadiimfohiaa

/- A search in memory; contract: search's end. -/
namespace Go.Proofs.Ytoiiadiimfohiaa
open Go.RowKit

theorem LL.frm' {w w' : World} {base : Nat} {v : Value} {vs : List Value} {xss : List (List Int)} (h : LL w base v vs xss) (hb : ∀ b, base ≤ b → b < w.heap.size → w'.heap[b]? = w.heap[b]?) : LL w' base v vs xss :=
  ⟨owns_block h.row (fun g hg => hb g (h.row.lt g hg).1 (h.row.lt g hg).2), h.all.mono (fun _ _ _ h' => owns_block h' (fun g hg => hb g (h'.lt g hg).1 (h'.lt g hg).2))⟩

/-- Boxes of packed rows and of leads are as they were. -/
def Boxes (w w' : World) : Prop := ∀ (b : Nat) (cs : Array Value) (t : TypeId), w.heap[b]? = some (.cells cs t) → t = 85 ∨ t = 87 → w'.heap[b]? = w.heap[b]?

theorem Boxes.refl (w : World) : Boxes w w := fun _ _ _ _ _ => rfl

theorem Boxes.trans {a b c : World} (h : Boxes a b) (k : Boxes b c) : Boxes a c := fun x cs t h1 h2 => (k x cs t ((h x cs t h1 h2).trans h1) h2).trans (h x cs t h1 h2)

theorem Boxes.below {w w' : World} (h : Below w.heap.size w w') : Boxes w w' := fun x _ _ h1 _ => h.block x (Array.getElem?_eq_some_iff.1 h1).1

theorem Boxes.set {w : World} {sb j : Nat} {cs : Array Value} {u : Value} (h : w.heap[sb]? = some (.cells cs 81)) : Boxes w (w.setCell ⟨sb, j, none⟩ u) := fun x cs' t h1 h2 => Below.heap_setCell _ _ _ _ (fun e => by
  have e' : x = sb := e
  subst e'
  rw [h] at h1
  injection h1 with h3
  injection h3 with _ h4 _
  rcases h2 with h5 | h5 <;> rw [h5] at h4 <;> exact absurd h4 (by decide))

theorem Boxes.tb {w w' : World} {mb : Nat} {S : List Pm} (h : TB mb w w') (hm : PSet w mb S) : Boxes w w' := fun x cs t h1 _ => h.block x (Array.getElem?_eq_some_iff.1 h1).1 (fun e => by
  obtain ⟨es, k, h2⟩ := hm.obj
  rw [e, h2] at h1
  cases h1)

theorem Boxes.grown {w w' : World} {base e n : Nat} {v : Value} {xs : List Value} (h : w.ownsRow base e 1 v n xs) (hg : w.grownBy w' v.ownBlock) (he : e ≠ 85 ∧ e ≠ 87) : Boxes w w' := fun x cs t h1 h2 => hg.block x (Array.getElem?_eq_some_iff.1 h1).1 (fun ex => by
  rcases h.2 with ⟨rfl, _⟩ | ⟨g, cap, cur, rfl, _, h3, _⟩
  · cases ex
  · have e' : x = g := Option.some.inj ex
    rw [← e', h1] at h3
    injection h3 with h4
    injection h4 with _ h5 _
    rcases h2 with h6 | h6 <;> rw [h6] at h5
    · exact he.1 h5.symm
    · exact he.2 h5.symm)

/-- A search, as it lies. -/
structure Qs (w : World) (B sb mb leads many : Nat) (byv tv fv : Value) (met : Nat) (S : List Pm) (P : List Nat) (F : List (List Nat)) : Prop where
  blk : w.heap[sb]? = some (.cells #[.int .i64 leads, .int .i64 many, byv, .map (some mb), tv, .int .i64 met, fv] 81)
  set : PSet w mb S
  way : w.ownsRow B 3 1 tv P.length ((nI P).map (Value.int .i64))
  fnd : ∃ vs, LL w B fv vs (F.map nI) ∧ ∀ u, u ∈ vs → ∀ g, u.ownBlock = some g → tv.ownBlock ≠ some g

theorem Qs.drew {w : World} {B sb mb leads many : Nat} {byv tv fv : Value} {met : Nat} {S : List Pm} {P : List Nat} {F : List (List Nat)} (h : Qs w B sb mb leads many byv tv fv met S P F) : Qs w.drew B sb mb leads many byv tv fv met S P F := by
  obtain ⟨vs, hL, ha⟩ := h.fnd
  exact ⟨h.blk, h.set.of_block rfl, h.way, vs, hL.frm' (fun _ _ _ => rfl), ha⟩

theorem Qs.below {w w' : World} {B sb mb leads many : Nat} {byv tv fv : Value} {met : Nat} {S : List Pm} {P : List Nat} {F : List (List Nat)} (h : Qs w B sb mb leads many byv tv fv met S P F) (hb : Below w.heap.size w w') (h1 : sb < w.heap.size) (h2 : mb < w.heap.size) : Qs w' B sb mb leads many byv tv fv met S P F := by
  obtain ⟨vs, hL, ha⟩ := h.fnd
  exact ⟨(hb.block sb h1).trans h.blk, h.set.of_block (hb.block mb h2), owns_below h.way hb (Nat.le_refl _), vs, hL.below hb, ha⟩

theorem cells7 {w1 : World} {B : Nat} {a b c d e f g : Value} {t : TypeId} (h : w1.heap[B]? = some (.cells #[a, b, c, d, e, f, g] t)) :
    w1.cell? ⟨B, 0, none⟩ = some a ∧ w1.cell? ⟨B, 1, none⟩ = some b ∧ w1.cell? ⟨B, 2, none⟩ = some c ∧ w1.cell? ⟨B, 3, none⟩ = some d ∧ w1.cell? ⟨B, 4, none⟩ = some e ∧ w1.cell? ⟨B, 5, none⟩ = some f ∧ w1.cell? ⟨B, 6, none⟩ = some g ∧ w1.frozen? ⟨B, 4, none⟩ = false ∧ w1.frozen? ⟨B, 5, none⟩ = false ∧ w1.frozen? ⟨B, 6, none⟩ = false := by
  simp [World.cell?, World.frozen?, h]

theorem set7t {w1 : World} {B : Nat} {a b c d e f g : Value} {t : TypeId} (h : w1.heap[B]? = some (.cells #[a, b, c, d, e, f, g] t)) (u : Value) : (w1.setCell ⟨B, 4, none⟩ u).heap[B]? = some (.cells #[a, b, c, d, u, f, g] t) := by
  simp [World.setCell, Array.getElem?_modify, h]
theorem set7m {w1 : World} {B : Nat} {a b c d e f g : Value} {t : TypeId} (h : w1.heap[B]? = some (.cells #[a, b, c, d, e, f, g] t)) (u : Value) : (w1.setCell ⟨B, 5, none⟩ u).heap[B]? = some (.cells #[a, b, c, d, e, u, g] t) := by
  simp [World.setCell, Array.getElem?_modify, h]
theorem set7f {w1 : World} {B : Nat} {a b c d e f g : Value} {t : TypeId} (h : w1.heap[B]? = some (.cells #[a, b, c, d, e, f, g] t)) (u : Value) : (w1.setCell ⟨B, 6, none⟩ u).heap[B]? = some (.cells #[a, b, c, d, e, f, u] t) := by
  simp [World.setCell, Array.getElem?_modify, h]

def EndPost (B sb mb leads many : Nat) (byv tv : Value) (met : Nat) (S : List Pm) (P : List Nat) (R : List (List Nat)) (w : World) (e : Ending) (w' : World) : Prop :=
  Frm B sb mb w w' ∧ Boxes w w' ∧ ∃ fv, e = .returned (.bool (decide (R.length < many))) ∧ Qs w' B sb mb leads many byv tv fv met S P R

set_option maxRecDepth 20000 in
set_option maxHeartbeats 8000000 in
theorem end_yes (B sb mb leads many : Nat) (byv tv fv : Value) (met : Nat) (S : List Pm) (P : List Nat) (F : List (List Nat)) (w : World) (hQ : Qs w B sb mb leads many byv tv fv met S P F) (hsbB : sb < B) (hmbB : mb < B) (hne : sb ≠ mb) (hB : B ≤ w.heap.size) (hF : F.length < many) (hmany : many ≤ 50) (hP : P.length ≤ 1000) :
    Calls Try.prog 71 #[.pointer (some ⟨sb, 0, none⟩), pv 1] w (EndPost B sb mb leads many byv tv met S P (F ++ [P]) w) := by
  obtain ⟨i0, hi, hz0, hz1, hz2⟩ := info_parts Try.info26
  obtain ⟨vs, hLL, hApart⟩ := hQ.fnd
  have hvn : vs.length = F.length := by rw [hLL.len, List.length_map]
  have hfr := hLL.row
  rw [hvn] at hfr
  obtain ⟨fp, fc, rfl⟩ := owns_slice hfr
  obtain ⟨tp, tc, rfl⟩ := owns_slice hQ.way
  have hl1 := (1 : Pm).len
  have hBAA : Below w.heap.size w (w.alloc (.cells (i8s (1 : Pm).l) 85)) := (Below.refl _ _).alloc (Nat.le_refl _) _
  have HA0 := hide (SAr.new w (1 : Pm).l hl1)
  have HQ := hide hQ
  have HVN := hide hvn
  have HApart := hide hApart
  have heq : ∀ W, (binOp .eql 85 (.agg ((1 : Pm).l.map (Value.int .i8)).toArray) (.agg (i8s (1 : Pm).l))).run Try.prog W = .ok (.bool true) W := fun W => by
    obtain ⟨r, hr, hiff⟩ := peq 1 1 W
    rw [hiff.2 rfl] at hr
    exact hr
  have hll0 := hLL
  have HLL := hide hLL
  clear hQ hLL hfr hvn hApart hll0
  unfold pv
  go_enter Try.func71, Try.ntmps71
  go_upto_region 1 with fail
  generalize hW0 : w.alloc (.cells (i8s (1 : Pm).l) 85) = W0 at *
  refine wp_region_held_drew (S := fun W' => SAr W' w.heap.size (1 : Pm).l) (by kernel_rfl) HA0.out (fun hS => ?_)
  refine wpAnyH_take (i := 0) rfl (by kernel_rfl) (by kernel_rfl) (by kernel_rfl) (fun _ _ _ h => h) (yieldsIf_load_mid (by kernel_rfl) _ _ rfl w.heap.size 0 rfl ((1 : Pm).l.map (Value.int .i8)) _ (fun w' hS' => SAr.range hS') Try.underlying85 rfl (by rw [Try.size85, List.length_map, Pm.len])) hS ?_
  refine wpAnyH_ready (rs := [1]) (by kernel_rfl) (by simp) ?_
  refine AllReadyH.cons rfl (fun K hK => ?_) (AllReadyH.nil)
  go_simp
  refine (srounds_ok W0.drew).mono ?_
  unfold pv
  rintro e W1 ⟨rfl, hb1⟩
  have hb01 : Below W0.heap.size W0 W1 := ((Below.refl _ _).drew).trans hb1
  refine hK.out _ _ (HA0.out.below hb01 HA0.out.lt) (fun hS => ?_)
  clear hK
  refine wpAnyH_take (i := 2) (v := .bool true) rfl (by kernel_rfl) (by kernel_rfl) (by kernel_rfl) (fun _ _ _ h => h) (Or.inl ⟨by kernel_rfl, fun w' hS' => by have hq := heq w'; go_simp⟩) hS ?_
  refine wpAnyH_done (by kernel_rfl) ?_ _
  have hbw1 : Below w.heap.size w W1 := hBAA.trans (hb01.mono hBAA.size)
  have hBW : B ≤ W1.heap.size := Nat.le_trans hB hbw1.size
  have hsb1 : sb < W1.heap.size := by omega
  have HFr : Hid (Frm B sb mb w W1) := Frm.of_below hbw1 hB
  have HBx := hide (Boxes.below hbw1)
  have HBK := hide ((hbw1.block sb (by omega)).trans HQ.out.blk)
  have HPS := hide (HQ.out.set.of_block (hbw1.block mb (by omega)))
  have HWY := hide (owns_below HQ.out.way hbw1 (Nat.le_refl _))
  have HFL := hide (HLL.out.below hbw1)
  have HCL := hide (fun W (hW : Below W1.heap.size W1 W) => clone_own (xs := nI P) (base := B) (by rw [nI_len]; exact owns_below HWY.out hW (Nat.le_refl _)) (by rw [nI_len]; omega))
  rw [nI_len] at HCL
  obtain ⟨z0, z1, z2, z3, z4, z5, z6, _, _, _⟩ := cells7 HBK.out
  have hd0 : Below W1.heap.size W1 W1.drew := (Below.refl _ _).drew
  clear heq HA0 hb1 hb01 hbw1 hS HLL HQ z0 z1 z2 z3 z5
  go_upto_region 2 with fail
  refine wp_region_held_drew (S := fun W' => W'.cell? ⟨sb, 4, none⟩ = some (.slice tp P.length tc)) (by kernel_rfl) z4 (fun hS => ?_)
  refine wpAnyH_take (i := 0) (v := .pointer (some ⟨sb, 0, none⟩)) rfl (by kernel_rfl) (by kernel_rfl) (by kernel_rfl) (fun _ _ _ h => h) (Or.inl ⟨by kernel_rfl, fun w' hS' => by go_simp⟩) hS ?_
  refine wpAnyH_take (i := 1) (v := .pointer (some ⟨sb, 0, none⟩)) rfl (by kernel_rfl) (by kernel_rfl) (by kernel_rfl) (fun _ _ _ h => h) (Or.inl ⟨by kernel_rfl, fun w' hS' => by go_simp⟩) hS ?_
  refine wpAnyH_take (i := 2) (v := .pointer (some ⟨sb, 0, none⟩)) rfl (by kernel_rfl) (by kernel_rfl) (by kernel_rfl) (fun _ _ _ h => h) (Or.inl ⟨by kernel_rfl, fun w' hS' => by go_simp⟩) hS ?_
  refine wpAnyH_take (i := 3) (v := .pointer (some ⟨sb, 6, none⟩)) rfl (by kernel_rfl) (by kernel_rfl) (by kernel_rfl) (fun _ _ _ h => h) (Or.inl ⟨by kernel_rfl, fun w' hS' => by go_simp⟩) hS ?_
  refine wpAnyH_take (i := 5) (v := .pointer (some ⟨sb, 0, none⟩)) rfl (by kernel_rfl) (by kernel_rfl) (by kernel_rfl) (fun _ _ _ h => h) (Or.inl ⟨by kernel_rfl, fun w' hS' => by go_simp⟩) hS ?_
  refine wpAnyH_take (i := 6) (v := .pointer (some ⟨sb, 0, none⟩)) rfl (by kernel_rfl) (by kernel_rfl) (by kernel_rfl) (fun _ _ _ h => h) (Or.inl ⟨by kernel_rfl, fun w' hS' => by go_simp⟩) hS ?_
  refine wpAnyH_take (i := 7) (v := .pointer (some ⟨sb, 4, none⟩)) rfl (by kernel_rfl) (by kernel_rfl) (by kernel_rfl) (fun _ _ _ h => h) (Or.inl ⟨by kernel_rfl, fun w' hS' => by go_simp⟩) hS ?_
  refine wpAnyH_take (i := 8) (v := .slice tp P.length tc) rfl (by kernel_rfl) (by kernel_rfl) (by kernel_rfl) (fun _ _ _ h => h) (Or.inl ⟨by kernel_rfl, fun w' hS' => by go_simp⟩) hS ?_
  refine wpAnyH_ready (rs := [4, 9]) (by kernel_rfl) (by simp) ?_
  refine AllReadyH.cons rfl (fun K hK => ?_) (AllReadyH.cons rfl (fun K hK => ?_) (AllReadyH.nil))
  · go_simp
    refine hK.out _ _ z4 (fun hS => ?_)
    clear hK
    refine wpAnyH_ready (rs := [9]) (by kernel_rfl) (by simp) ?_
    refine AllReadyH.cons rfl (fun K hK => ?_) (AllReadyH.nil)
    go_simp
    refine (HCL.out W1.drew hd0).mono ?_
    rintro ex wo ⟨lu, rfl, hlu, hbo⟩
    have hBo : Below W1.heap.size W1 wo := hd0.trans (hbo.mono hd0.size)
    have x4 : wo.cell? ⟨sb, 4, none⟩ = some (.slice tp P.length tc) := (hBo.cell (p := ⟨sb, 4, none⟩) hsb1).trans z4
    have x6 : wo.cell? ⟨sb, 6, none⟩ = some (.slice fp F.length fc) := (hBo.cell (p := ⟨sb, 6, none⟩) hsb1).trans z6
    obtain ⟨lp, lc, rfl⟩ := owns_slice hlu
    have hBA : Below wo.heap.size wo (wo.alloc (.cells #[.slice lp P.length lc] 26)) := (Below.refl _ _).alloc (Nat.le_refl _) _
    have x4a : (wo.alloc (.cells #[.slice lp P.length lc] 26)).cell? ⟨sb, 4, none⟩ = some (.slice tp P.length tc) := (hBA.cell (p := ⟨sb, 4, none⟩) (by have := hBo.size; show sb < wo.heap.size; omega)).trans x4
    have x6a : (wo.alloc (.cells #[.slice lp P.length lc] 26)).cell? ⟨sb, 6, none⟩ = some (.slice fp F.length fc) := (hBA.cell (p := ⟨sb, 6, none⟩) (by have := hBo.size; show sb < wo.heap.size; omega)).trans x6
    refine hK.out _ _ x4 (fun hS => ?_)
    clear hK
    refine wpAnyH_ready (rs := [10]) (by kernel_rfl) (by simp) ?_
    refine AllReadyH.cons rfl (fun K hK => ?_) (AllReadyH.nil)
    go_simp
    refine hK.out _ _ x4a (fun hS => ?_)
    clear hK
    refine wpAnyH_ready (rs := [11]) (by kernel_rfl) (by simp) ?_
    refine AllReadyH.cons rfl (fun K hK => ?_) (AllReadyH.nil)
    have hL1 := (HFL.out.below hBo)
    have hrow1 := hL1.row
    rw [HVN.out] at hrow1
    have HL1 := hide hL1
    have HLU := hide (owns_base hlu (show B ≤ W1.drew.heap.size from hBW))
    have hso := hBo.size
    refine step_append_own rfl (.tmp 12) (.tmp 18) 22 rfl B 26 i0 (.slice none 0 0) 1 24 Try.underlying22 hi hz0 hz1 hz2 rfl (by decide) (.slice fp F.length fc) F.length vs rfl (hrow1.alloc _) ⟨wo.heap.size, 0, none⟩ 1 1 [.slice lp P.length lc] rfl rfl (cell_one_new _ _ _) (by intro u hu; simp at hu; subst hu; rfl) (by unfold maxLen; omega) (by omega) (by simp; omega) ?_
    intro v' w4 hown4 hgrow
    have hb4 : Below B W1 w4 := ((hBo.mono hBW).alloc (by omega) _).grown hgrow (by simp; omega) (fun g hg => (hrow1.lt g hg).1)
    have hk4 := (hb4.block sb hsbB).trans HBK.out
    obtain ⟨y0, y1, y2, y3, y4, y5, y6, g4, g5, g6⟩ := cells7 hk4
    refine hK.out _ _ y4 (fun hS => ?_)
    clear hK
    refine wpAnyH_take (i := 12) (v := .pointer (some ⟨sb, 0, none⟩)) rfl (by kernel_rfl) (by kernel_rfl) (by kernel_rfl) (fun _ _ _ h => h) (Or.inl ⟨by kernel_rfl, fun w' hS' => by go_simp⟩) hS ?_
    refine wpAnyH_take (i := 13) (v := .pointer (some ⟨sb, 6, none⟩)) rfl (by kernel_rfl) (by kernel_rfl) (by kernel_rfl) (fun _ _ _ h => h) (Or.inl ⟨by kernel_rfl, fun w' hS' => by go_simp⟩) hS ?_
    refine wpAnyH_ready (rs := [14]) (by kernel_rfl) (by simp) ?_
    refine AllReadyH.cons rfl (fun K hK => ?_) (AllReadyH.nil)
    obtain ⟨vp, vc, rfl⟩ := owns_slice hown4
    go_simp
    have HS5 := hide (set7f hk4 (.slice vp (F.length + 1) vc))
    have HL4 : Hid (LL w4 B (.slice vp (F.length + 1) vc) (vs ++ [.slice lp P.length lc]) ((F ++ [P]).map nI)) := by
      show LL _ _ _ _ _
      rw [List.map_append]
      exact HL1.out.push (by rw [nI_len]; exact HLU.out) (by rw [HVN.out]; exact hown4) hgrow
    have HL5 : Hid (LL (w4.setCell ⟨sb, 6, none⟩ (.slice vp (F.length + 1) vc)) B (.slice vp (F.length + 1) vc) (vs ++ [.slice lp P.length lc]) ((F ++ [P]).map nI)) := HL4.out.frm' (fun b h1 _ => Below.heap_setCell _ _ _ _ (by show b ≠ sb; omega))
    have HF5 : Hid (Frm B sb mb w (w4.setCell ⟨sb, 6, none⟩ (.slice vp (F.length + 1) vc))) := (HFr.out.trans (Frm.of_below hb4 (Nat.le_refl _))).set 6 _
    have HBx5 : Hid (Boxes w (w4.setCell ⟨sb, 6, none⟩ (.slice vp (F.length + 1) vc))) := ((HBx.out.trans (Boxes.below (hBo.alloc (Nat.le_trans (Nat.le_refl _) hBo.size) (.cells #[.slice lp P.length lc] 26)))).trans (Boxes.grown (hrow1.alloc _) hgrow (by decide))).trans (Boxes.set hk4)
    have HW5 : Hid ((w4.setCell ⟨sb, 6, none⟩ (.slice vp (F.length + 1) vc)).ownsRow B 3 1 (.slice tp P.length tc) P.length ((nI P).map (Value.int .i64))) := by
      have h1 := owns_below HWY.out hBo (Nat.le_refl _)
      have h2 := owns_kept_ty (h1.alloc (.cells #[.slice lp P.length lc] 26)) (hrow1.alloc _) hgrow
      exact owns_block h2 (fun g hg => Below.heap_setCell _ _ _ _ (by have := (h2.lt g hg).1; show g ≠ sb; omega))
    have HI5 : Hid (PSet (w4.setCell ⟨sb, 6, none⟩ (.slice vp (F.length + 1) vc)) mb S) := HPS.out.of_block ((Below.heap_setCell _ _ _ _ (by show mb ≠ sb; omega)).trans (hb4.block mb hmbB))
    have HAP : Hid (∀ u, u ∈ vs ++ [Value.slice lp P.length lc] → ∀ g, u.ownBlock = some g → (Value.slice tp P.length tc).ownBlock ≠ some g) := fun u hu g hg => by
      rcases List.mem_append.1 hu with h | h
      · exact HApart.out u h g hg
      · rw [List.mem_singleton] at h
        subst h
        intro e
        have h1 := (hlu.lt g hg).1
        have h2 := (HWY.out.lt g e).2
        have h3 : W1.heap.size ≤ g := h1
        omega
    have HQ5 : Hid (Qs (w4.setCell ⟨sb, 6, none⟩ (.slice vp (F.length + 1) vc)) B sb mb leads many byv (.slice tp P.length tc) (.slice vp (F.length + 1) vc) met S P (F ++ [P])) := ⟨HS5.out, HI5.out, HW5.out, _, HL5.out, HAP.out⟩
    clear HL4 HL5 HS5 HW5 HI5 HAP hb4 hk4 y0 y1 y2 y3 y4 y5 y6 g4 g5 g6 hown4 hgrow hrow1 hL1 HL1 HLU
    generalize w4.setCell ⟨sb, 6, none⟩ (.slice vp (F.length + 1) vc) = w5 at *
    have hq5 := HQ5.out
    refine hK.out _ _ ?hSS (fun hS => ?_)
    case hSS => exact (cells7 HQ5.out.blk).2.2.2.2.1
    clear hK hq5
    refine wpAnyH_done (by kernel_rfl) ?_ _
    clear hS x4 x6 x4a x6a hBo hlu hbo hBA
    obtain ⟨t0, t1, t2, t3, t4, t5, t6, _, _, _⟩ := cells7 (show w5.drew.heap[sb]? = _ from HQ5.out.blk)
    have HFd : Hid (decide (((F.length : Nat) : Int) + 1 < ((many : Nat) : Int)) = decide ((F ++ [P]).length < many)) := by
      show _ = _
      rw [List.length_append, List.length_singleton, decide_eq_decide]
      omega
    go_upto_region 3 with fail
    go_region
    go_wp2
    go_ret
    exact ⟨HF5.out.trans (Frm.of_below ((Below.refl B _).drew) (Nat.le_refl _)), HBx5.out, _, ret_bool HFd.out, HQ5.out.drew⟩
  · go_simp
    refine (HCL.out W1.drew hd0).mono ?_
    rintro ex wo ⟨lu, rfl, hlu, hbo⟩
    have hBo : Below W1.heap.size W1 wo := hd0.trans (hbo.mono hd0.size)
    have x4 : wo.cell? ⟨sb, 4, none⟩ = some (.slice tp P.length tc) := (hBo.cell (p := ⟨sb, 4, none⟩) hsb1).trans z4
    have x6 : wo.cell? ⟨sb, 6, none⟩ = some (.slice fp F.length fc) := (hBo.cell (p := ⟨sb, 6, none⟩) hsb1).trans z6
    obtain ⟨lp, lc, rfl⟩ := owns_slice hlu
    have hBA : Below wo.heap.size wo (wo.alloc (.cells #[.slice lp P.length lc] 26)) := (Below.refl _ _).alloc (Nat.le_refl _) _
    have x4a : (wo.alloc (.cells #[.slice lp P.length lc] 26)).cell? ⟨sb, 4, none⟩ = some (.slice tp P.length tc) := (hBA.cell (p := ⟨sb, 4, none⟩) (by have := hBo.size; show sb < wo.heap.size; omega)).trans x4
    have x6a : (wo.alloc (.cells #[.slice lp P.length lc] 26)).cell? ⟨sb, 6, none⟩ = some (.slice fp F.length fc) := (hBA.cell (p := ⟨sb, 6, none⟩) (by have := hBo.size; show sb < wo.heap.size; omega)).trans x6
    refine hK.out _ _ x4 (fun hS => ?_)
    clear hK
    refine wpAnyH_ready (rs := [4, 10]) (by kernel_rfl) (by simp) ?_
    refine AllReadyH.cons rfl (fun K hK => ?_) (AllReadyH.cons rfl (fun K hK => ?_) (AllReadyH.nil))
    · go_simp
      refine hK.out _ _ x4 (fun hS => ?_)
      clear hK
      refine wpAnyH_ready (rs := [10]) (by kernel_rfl) (by simp) ?_
      refine AllReadyH.cons rfl (fun K hK => ?_) (AllReadyH.nil)
      go_simp
      refine hK.out _ _ x4a (fun hS => ?_)
      clear hK
      refine wpAnyH_ready (rs := [11]) (by kernel_rfl) (by simp) ?_
      refine AllReadyH.cons rfl (fun K hK => ?_) (AllReadyH.nil)
      have hL1 := (HFL.out.below hBo)
      have hrow1 := hL1.row
      rw [HVN.out] at hrow1
      have HL1 := hide hL1
      have HLU := hide (owns_base hlu (show B ≤ W1.drew.heap.size from hBW))
      have hso := hBo.size
      refine step_append_own rfl (.tmp 12) (.tmp 18) 22 rfl B 26 i0 (.slice none 0 0) 1 24 Try.underlying22 hi hz0 hz1 hz2 rfl (by decide) (.slice fp F.length fc) F.length vs rfl (hrow1.alloc _) ⟨wo.heap.size, 0, none⟩ 1 1 [.slice lp P.length lc] rfl rfl (cell_one_new _ _ _) (by intro u hu; simp at hu; subst hu; rfl) (by unfold maxLen; omega) (by omega) (by simp; omega) ?_
      intro v' w4 hown4 hgrow
      have hb4 : Below B W1 w4 := ((hBo.mono hBW).alloc (by omega) _).grown hgrow (by simp; omega) (fun g hg => (hrow1.lt g hg).1)
      have hk4 := (hb4.block sb hsbB).trans HBK.out
      obtain ⟨y0, y1, y2, y3, y4, y5, y6, g4, g5, g6⟩ := cells7 hk4
      refine hK.out _ _ y4 (fun hS => ?_)
      clear hK
      refine wpAnyH_take (i := 12) (v := .pointer (some ⟨sb, 0, none⟩)) rfl (by kernel_rfl) (by kernel_rfl) (by kernel_rfl) (fun _ _ _ h => h) (Or.inl ⟨by kernel_rfl, fun w' hS' => by go_simp⟩) hS ?_
      refine wpAnyH_take (i := 13) (v := .pointer (some ⟨sb, 6, none⟩)) rfl (by kernel_rfl) (by kernel_rfl) (by kernel_rfl) (fun _ _ _ h => h) (Or.inl ⟨by kernel_rfl, fun w' hS' => by go_simp⟩) hS ?_
      refine wpAnyH_ready (rs := [14]) (by kernel_rfl) (by simp) ?_
      refine AllReadyH.cons rfl (fun K hK => ?_) (AllReadyH.nil)
      obtain ⟨vp, vc, rfl⟩ := owns_slice hown4
      go_simp
      have HS5 := hide (set7f hk4 (.slice vp (F.length + 1) vc))
      have HL4 : Hid (LL w4 B (.slice vp (F.length + 1) vc) (vs ++ [.slice lp P.length lc]) ((F ++ [P]).map nI)) := by
        show LL _ _ _ _ _
        rw [List.map_append]
        exact HL1.out.push (by rw [nI_len]; exact HLU.out) (by rw [HVN.out]; exact hown4) hgrow
      have HL5 : Hid (LL (w4.setCell ⟨sb, 6, none⟩ (.slice vp (F.length + 1) vc)) B (.slice vp (F.length + 1) vc) (vs ++ [.slice lp P.length lc]) ((F ++ [P]).map nI)) := HL4.out.frm' (fun b h1 _ => Below.heap_setCell _ _ _ _ (by show b ≠ sb; omega))
      have HF5 : Hid (Frm B sb mb w (w4.setCell ⟨sb, 6, none⟩ (.slice vp (F.length + 1) vc))) := (HFr.out.trans (Frm.of_below hb4 (Nat.le_refl _))).set 6 _
      have HBx5 : Hid (Boxes w (w4.setCell ⟨sb, 6, none⟩ (.slice vp (F.length + 1) vc))) := ((HBx.out.trans (Boxes.below (hBo.alloc (Nat.le_trans (Nat.le_refl _) hBo.size) (.cells #[.slice lp P.length lc] 26)))).trans (Boxes.grown (hrow1.alloc _) hgrow (by decide))).trans (Boxes.set hk4)
      have HW5 : Hid ((w4.setCell ⟨sb, 6, none⟩ (.slice vp (F.length + 1) vc)).ownsRow B 3 1 (.slice tp P.length tc) P.length ((nI P).map (Value.int .i64))) := by
        have h1 := owns_below HWY.out hBo (Nat.le_refl _)
        have h2 := owns_kept_ty (h1.alloc (.cells #[.slice lp P.length lc] 26)) (hrow1.alloc _) hgrow
        exact owns_block h2 (fun g hg => Below.heap_setCell _ _ _ _ (by have := (h2.lt g hg).1; show g ≠ sb; omega))
      have HI5 : Hid (PSet (w4.setCell ⟨sb, 6, none⟩ (.slice vp (F.length + 1) vc)) mb S) := HPS.out.of_block ((Below.heap_setCell _ _ _ _ (by show mb ≠ sb; omega)).trans (hb4.block mb hmbB))
      have HAP : Hid (∀ u, u ∈ vs ++ [Value.slice lp P.length lc] → ∀ g, u.ownBlock = some g → (Value.slice tp P.length tc).ownBlock ≠ some g) := fun u hu g hg => by
        rcases List.mem_append.1 hu with h | h
        · exact HApart.out u h g hg
        · rw [List.mem_singleton] at h
          subst h
          intro e
          have h1 := (hlu.lt g hg).1
          have h2 := (HWY.out.lt g e).2
          have h3 : W1.heap.size ≤ g := h1
          omega
      have HQ5 : Hid (Qs (w4.setCell ⟨sb, 6, none⟩ (.slice vp (F.length + 1) vc)) B sb mb leads many byv (.slice tp P.length tc) (.slice vp (F.length + 1) vc) met S P (F ++ [P])) := ⟨HS5.out, HI5.out, HW5.out, _, HL5.out, HAP.out⟩
      clear HL4 HL5 HS5 HW5 HI5 HAP hb4 hk4 y0 y1 y2 y3 y4 y5 y6 g4 g5 g6 hown4 hgrow hrow1 hL1 HL1 HLU
      generalize w4.setCell ⟨sb, 6, none⟩ (.slice vp (F.length + 1) vc) = w5 at *
      have hq5 := HQ5.out
      refine hK.out _ _ ?hSS (fun hS => ?_)
      case hSS => exact (cells7 HQ5.out.blk).2.2.2.2.1
      clear hK hq5
      refine wpAnyH_done (by kernel_rfl) ?_ _
      clear hS x4 x6 x4a x6a hBo hlu hbo hBA
      obtain ⟨t0, t1, t2, t3, t4, t5, t6, _, _, _⟩ := cells7 (show w5.drew.heap[sb]? = _ from HQ5.out.blk)
      have HFd : Hid (decide (((F.length : Nat) : Int) + 1 < ((many : Nat) : Int)) = decide ((F ++ [P]).length < many)) := by
        show _ = _
        rw [List.length_append, List.length_singleton, decide_eq_decide]
        omega
      go_upto_region 3 with fail
      go_region
      go_wp2
      go_ret
      exact ⟨HF5.out.trans (Frm.of_below ((Below.refl B _).drew) (Nat.le_refl _)), HBx5.out, _, ret_bool HFd.out, HQ5.out.drew⟩
    · go_simp
      refine hK.out _ _ x4a (fun hS => ?_)
      clear hK
      refine wpAnyH_ready (rs := [4]) (by kernel_rfl) (by simp) ?_
      refine AllReadyH.cons rfl (fun K hK => ?_) (AllReadyH.nil)
      go_simp
      refine hK.out _ _ x4a (fun hS => ?_)
      clear hK
      refine wpAnyH_ready (rs := [11]) (by kernel_rfl) (by simp) ?_
      refine AllReadyH.cons rfl (fun K hK => ?_) (AllReadyH.nil)
      have hL1 := (HFL.out.below hBo)
      have hrow1 := hL1.row
      rw [HVN.out] at hrow1
      have HL1 := hide hL1
      have HLU := hide (owns_base hlu (show B ≤ W1.drew.heap.size from hBW))
      have hso := hBo.size
      refine step_append_own rfl (.tmp 12) (.tmp 18) 22 rfl B 26 i0 (.slice none 0 0) 1 24 Try.underlying22 hi hz0 hz1 hz2 rfl (by decide) (.slice fp F.length fc) F.length vs rfl (hrow1.alloc _) ⟨wo.heap.size, 0, none⟩ 1 1 [.slice lp P.length lc] rfl rfl (cell_one_new _ _ _) (by intro u hu; simp at hu; subst hu; rfl) (by unfold maxLen; omega) (by omega) (by simp; omega) ?_
      intro v' w4 hown4 hgrow
      have hb4 : Below B W1 w4 := ((hBo.mono hBW).alloc (by omega) _).grown hgrow (by simp; omega) (fun g hg => (hrow1.lt g hg).1)
      have hk4 := (hb4.block sb hsbB).trans HBK.out
      obtain ⟨y0, y1, y2, y3, y4, y5, y6, g4, g5, g6⟩ := cells7 hk4
      refine hK.out _ _ y4 (fun hS => ?_)
      clear hK
      refine wpAnyH_take (i := 12) (v := .pointer (some ⟨sb, 0, none⟩)) rfl (by kernel_rfl) (by kernel_rfl) (by kernel_rfl) (fun _ _ _ h => h) (Or.inl ⟨by kernel_rfl, fun w' hS' => by go_simp⟩) hS ?_
      refine wpAnyH_take (i := 13) (v := .pointer (some ⟨sb, 6, none⟩)) rfl (by kernel_rfl) (by kernel_rfl) (by kernel_rfl) (fun _ _ _ h => h) (Or.inl ⟨by kernel_rfl, fun w' hS' => by go_simp⟩) hS ?_
      refine wpAnyH_ready (rs := [14]) (by kernel_rfl) (by simp) ?_
      refine AllReadyH.cons rfl (fun K hK => ?_) (AllReadyH.nil)
      obtain ⟨vp, vc, rfl⟩ := owns_slice hown4
      go_simp
      have HS5 := hide (set7f hk4 (.slice vp (F.length + 1) vc))
      have HL4 : Hid (LL w4 B (.slice vp (F.length + 1) vc) (vs ++ [.slice lp P.length lc]) ((F ++ [P]).map nI)) := by
        show LL _ _ _ _ _
        rw [List.map_append]
        exact HL1.out.push (by rw [nI_len]; exact HLU.out) (by rw [HVN.out]; exact hown4) hgrow
      have HL5 : Hid (LL (w4.setCell ⟨sb, 6, none⟩ (.slice vp (F.length + 1) vc)) B (.slice vp (F.length + 1) vc) (vs ++ [.slice lp P.length lc]) ((F ++ [P]).map nI)) := HL4.out.frm' (fun b h1 _ => Below.heap_setCell _ _ _ _ (by show b ≠ sb; omega))
      have HF5 : Hid (Frm B sb mb w (w4.setCell ⟨sb, 6, none⟩ (.slice vp (F.length + 1) vc))) := (HFr.out.trans (Frm.of_below hb4 (Nat.le_refl _))).set 6 _
      have HBx5 : Hid (Boxes w (w4.setCell ⟨sb, 6, none⟩ (.slice vp (F.length + 1) vc))) := ((HBx.out.trans (Boxes.below (hBo.alloc (Nat.le_trans (Nat.le_refl _) hBo.size) (.cells #[.slice lp P.length lc] 26)))).trans (Boxes.grown (hrow1.alloc _) hgrow (by decide))).trans (Boxes.set hk4)
      have HW5 : Hid ((w4.setCell ⟨sb, 6, none⟩ (.slice vp (F.length + 1) vc)).ownsRow B 3 1 (.slice tp P.length tc) P.length ((nI P).map (Value.int .i64))) := by
        have h1 := owns_below HWY.out hBo (Nat.le_refl _)
        have h2 := owns_kept_ty (h1.alloc (.cells #[.slice lp P.length lc] 26)) (hrow1.alloc _) hgrow
        exact owns_block h2 (fun g hg => Below.heap_setCell _ _ _ _ (by have := (h2.lt g hg).1; show g ≠ sb; omega))
      have HI5 : Hid (PSet (w4.setCell ⟨sb, 6, none⟩ (.slice vp (F.length + 1) vc)) mb S) := HPS.out.of_block ((Below.heap_setCell _ _ _ _ (by show mb ≠ sb; omega)).trans (hb4.block mb hmbB))
      have HAP : Hid (∀ u, u ∈ vs ++ [Value.slice lp P.length lc] → ∀ g, u.ownBlock = some g → (Value.slice tp P.length tc).ownBlock ≠ some g) := fun u hu g hg => by
        rcases List.mem_append.1 hu with h | h
        · exact HApart.out u h g hg
        · rw [List.mem_singleton] at h
          subst h
          intro e
          have h1 := (hlu.lt g hg).1
          have h2 := (HWY.out.lt g e).2
          have h3 : W1.heap.size ≤ g := h1
          omega
      have HQ5 : Hid (Qs (w4.setCell ⟨sb, 6, none⟩ (.slice vp (F.length + 1) vc)) B sb mb leads many byv (.slice tp P.length tc) (.slice vp (F.length + 1) vc) met S P (F ++ [P])) := ⟨HS5.out, HI5.out, HW5.out, _, HL5.out, HAP.out⟩
      clear HL4 HL5 HS5 HW5 HI5 HAP hb4 hk4 y0 y1 y2 y3 y4 y5 y6 g4 g5 g6 hown4 hgrow hrow1 hL1 HL1 HLU
      generalize w4.setCell ⟨sb, 6, none⟩ (.slice vp (F.length + 1) vc) = w5 at *
      have hq5 := HQ5.out
      refine hK.out _ _ ?hSS (fun hS => ?_)
      case hSS => exact (cells7 HQ5.out.blk).2.2.2.2.1
      clear hK hq5
      refine wpAnyH_done (by kernel_rfl) ?_ _
      clear hS x4 x6 x4a x6a hBo hlu hbo hBA
      obtain ⟨t0, t1, t2, t3, t4, t5, t6, _, _, _⟩ := cells7 (show w5.drew.heap[sb]? = _ from HQ5.out.blk)
      have HFd : Hid (decide (((F.length : Nat) : Int) + 1 < ((many : Nat) : Int)) = decide ((F ++ [P]).length < many)) := by
        show _ = _
        rw [List.length_append, List.length_singleton, decide_eq_decide]
        omega
      go_upto_region 3 with fail
      go_region
      go_wp2
      go_ret
      exact ⟨HF5.out.trans (Frm.of_below ((Below.refl B _).drew) (Nat.le_refl _)), HBx5.out, _, ret_bool HFd.out, HQ5.out.drew⟩

set_option maxRecDepth 20000 in
set_option maxHeartbeats 8000000 in
theorem end_no (h : Pm) (hh : h ≠ 1) (B sb mb leads many : Nat) (byv tv fv : Value) (met : Nat) (S : List Pm) (P : List Nat) (F : List (List Nat)) (w : World) (hQ : Qs w B sb mb leads many byv tv fv met S P F) (hsbB : sb < B) (hmbB : mb < B) (hB : B ≤ w.heap.size) :
    Calls Try.prog 71 #[.pointer (some ⟨sb, 0, none⟩), pv h] w (EndPost B sb mb leads many byv tv met S P F w) := by
  obtain ⟨vs, hLL, hApart⟩ := hQ.fnd
  have hvn : vs.length = F.length := by rw [hLL.len, List.length_map]
  have hfr := hLL.row
  rw [hvn] at hfr
  obtain ⟨fp, fc, rfl⟩ := owns_slice hfr
  have hl1 := h.len
  have hBAA : Below w.heap.size w (w.alloc (.cells (i8s h.l) 85)) := (Below.refl _ _).alloc (Nat.le_refl _) _
  have HA0 := hide (SAr.new w h.l hl1)
  have HQ := hide hQ
  have heq : ∀ W, (binOp .eql 85 (.agg (h.l.map (Value.int .i8)).toArray) (.agg (i8s (1 : Pm).l))).run Try.prog W = .ok (.bool false) W := fun W => by
    obtain ⟨r, hr, hiff⟩ := peq h 1 W
    have : r = false := by
      rw [Bool.eq_false_iff]
      exact fun e => hh (hiff.1 e)
    rw [this] at hr
    exact hr
  clear hQ hLL hfr hvn hApart hh
  unfold pv
  go_enter Try.func71, Try.ntmps71
  go_upto_region 1 with fail
  generalize hW0 : w.alloc (.cells (i8s h.l) 85) = W0 at *
  refine wp_region_held_drew (S := fun W' => SAr W' w.heap.size h.l) (by kernel_rfl) HA0.out (fun hS => ?_)
  refine wpAnyH_take (i := 0) rfl (by kernel_rfl) (by kernel_rfl) (by kernel_rfl) (fun _ _ _ h => h) (yieldsIf_load_mid (by kernel_rfl) _ _ rfl w.heap.size 0 rfl (h.l.map (Value.int .i8)) _ (fun w' hS' => SAr.range hS') Try.underlying85 rfl (by rw [Try.size85, List.length_map, Pm.len])) hS ?_
  refine wpAnyH_ready (rs := [1]) (by kernel_rfl) (by simp) ?_
  refine AllReadyH.cons rfl (fun K hK => ?_) (AllReadyH.nil)
  go_simp
  refine (srounds_ok W0.drew).mono ?_
  unfold pv
  rintro e W1 ⟨rfl, hb1⟩
  have hb01 : Below W0.heap.size W0 W1 := ((Below.refl _ _).drew).trans hb1
  refine hK.out _ _ (HA0.out.below hb01 HA0.out.lt) (fun hS => ?_)
  clear hK
  refine wpAnyH_take (i := 2) (v := .bool false) rfl (by kernel_rfl) (by kernel_rfl) (by kernel_rfl) (fun _ _ _ h => h) (Or.inl ⟨by kernel_rfl, fun w' hS' => by have hq := heq w'; go_simp⟩) hS ?_
  refine wpAnyH_done (by kernel_rfl) ?_ _
  have hbw1 : Below w.heap.size w W1 := hBAA.trans (hb01.mono hBAA.size)
  have HFr : Hid (Frm B sb mb w W1) := Frm.of_below hbw1 hB
  have HBx := hide (Boxes.below hbw1)
  have HQ1 := hide (HQ.out.below hbw1 (by omega) (by omega))
  obtain ⟨z0, z1, z2, z3, z4, z5, z6, _, _, _⟩ := cells7 (show W1.drew.heap[sb]? = _ from HQ1.out.blk)
  clear heq HA0 hb1 hb01 hbw1 hS HQ
  go_upto_region 3 with fail
  go_region
  all_goals
    go_wp2
    go_ret
    exact ⟨HFr.out.trans (Frm.of_below ((Below.refl B _).drew) (Nat.le_refl _)), HBx.out, _, rfl, HQ1.out.drew⟩

end Go.Proofs.Ytoiiadiimfohiaa
