/- Contracts: Normal's closure; Normal. -/
import Derived.Test.YtbddhpbeekioiaaMakeB
namespace Go.Proofs.Ytbddhpbeekioiaa
open Go.RowKit

theorem pin (x : Pm) : (Try.prog.info? 92).map (·.size) = some (x.l.map (Value.int .i8)).length := by rw [List.length_map, x.len]; exact Try.size92

set_option maxRecDepth 20000 in
set_option maxHeartbeats 2000000 in
theorem about_ok (x y : Pm) (b : Nat) (w : World) (hX : Arr w b x.l) : Calls Try.prog 78 #[.agg (y.l.map (Value.int .i8)).toArray, .pointer (some ⟨b, 0, none⟩)] w fun e w' => e = .returned (.agg ((x * y * x⁻¹).l.map (Value.int .i8)).toArray) ∧ Below w.heap.size w w' := by
  have hb := hX.lt
  have hX2 : ∀ o1 o2 : Obj, Arr ((w.alloc o1).alloc o2) b x.l := fun o1 o2 => (hX.alloc o1).alloc o2
  have hY2 : ∀ o2 : Obj, Arr ((w.alloc (.cells (i8s y.l) 92)).alloc o2) w.heap.size y.l := fun o2 => (Arr.new w y.l y.len).alloc o2
  have hR2 : ∀ o1 : Obj, Arr ((w.alloc o1).alloc (.cells (i8s zeros12) 92)) (w.heap.size + 1) zeros12 := fun o1 => Arr.new1 w o1 (zs := zeros12) rfl
  have hB2 : ∀ o1 o2 : Obj, Below w.heap.size w ((w.alloc o1).alloc o2) := fun o1 o2 => ((Below.refl _ _).alloc (Nat.le_refl _) o1).alloc (by simp) o2
  have hpx := pin x
  have hpy := pin y
  go_enter Try.func78, Try.ntmps78
  go_wp2
  have hX0 := hX2 (.cells (y.l.map (Value.int .i8)).toArray 92) (.cells #[.int .i8 0, .int .i8 0, .int .i8 0, .int .i8 0, .int .i8 0, .int .i8 0, .int .i8 0, .int .i8 0, .int .i8 0, .int .i8 0, .int .i8 0, .int .i8 0] 92)
  have hY0 : Arr ((w.alloc (.cells (y.l.map (Value.int .i8)).toArray 92)).alloc (.cells #[.int .i8 0, .int .i8 0, .int .i8 0, .int .i8 0, .int .i8 0, .int .i8 0, .int .i8 0, .int .i8 0, .int .i8 0, .int .i8 0, .int .i8 0, .int .i8 0] 92)) w.heap.size y.l := hY2 _
  have hR0 : Arr ((w.alloc (.cells (y.l.map (Value.int .i8)).toArray 92)).alloc (.cells #[.int .i8 0, .int .i8 0, .int .i8 0, .int .i8 0, .int .i8 0, .int .i8 0, .int .i8 0, .int .i8 0, .int .i8 0, .int .i8 0, .int .i8 0, .int .i8 0] 92)) (w.heap.size + 1) zeros12 := hR2 _
  have hB0 := hB2 (.cells (y.l.map (Value.int .i8)).toArray 92) (.cells #[.int .i8 0, .int .i8 0, .int .i8 0, .int .i8 0, .int .i8 0, .int .i8 0, .int .i8 0, .int .i8 0, .int .i8 0, .int .i8 0, .int .i8 0, .int .i8 0] 92)
  generalize (w.alloc (.cells (y.l.map (Value.int .i8)).toArray 92)).alloc (.cells #[.int .i8 0, .int .i8 0, .int .i8 0, .int .i8 0, .int .i8 0, .int .i8 0, .int .i8 0, .int .i8 0, .int .i8 0, .int .i8 0, .int .i8 0, .int .i8 0] 92) = W0 at *
  clear hX2 hY2 hR2 hB2
  refine wp_region_held_drew (S := fun W' => Arr W' b x.l ∧ Arr W' w.heap.size y.l) (by kernel_rfl) ⟨hX0, hY0⟩ (fun hS => ?_)
  refine wpAnyH_take (i := 0) rfl (by kernel_rfl) (by kernel_rfl) (by kernel_rfl) (fun _ _ _ h => h) (yieldsIf_load_mid (by rfl) _ _ rfl b 0 rfl (x.l.map (Value.int .i8)) _ (fun w' h => Arr.range h.1) Try.underlying92 rfl hpx) hS ?_
  refine wpAnyH_take (i := 1) rfl (by kernel_rfl) (by kernel_rfl) (by kernel_rfl) (fun _ _ _ h => h) (yieldsIf_load_mid (by rfl) _ _ rfl w.heap.size 0 rfl (y.l.map (Value.int .i8)) _ (fun w' h => Arr.range h.2) Try.underlying92 rfl hpy) hS ?_
  refine wpAnyH_take (i := 3) rfl (by kernel_rfl) (by kernel_rfl) (by kernel_rfl) (fun _ _ _ h => h) (yieldsIf_load_mid (by rfl) _ _ rfl b 0 rfl (x.l.map (Value.int .i8)) _ (fun w' h => Arr.range h.1) Try.underlying92 rfl hpx) hS ?_
  refine wpAnyH_ready (rs := [2]) (by kernel_rfl) (by simp) ?_
  refine AllReadyH.cons rfl (fun K hK => ?_) AllReadyH.nil
  go_simp
  refine (ptimes_raw x y _).mono ?_
  rintro e w1 ⟨rfl, hb1⟩
  replace hb1 := undrew hb1
  have hX1 := hX0.below hb1 hX0.lt
  have hY1 := hY0.below hb1 hY0.lt
  have hR1 := hR0.below hb1 hR0.lt
  have hB1 := hB0.trans (hb1.mono hB0.size)
  refine hK.out _ _ ⟨hX1, hY1⟩ (fun _ => ?_)
  clear hK
  refine wpAnyH_ready (rs := [4]) (by kernel_rfl) (by simp) ?_
  refine AllReadyH.cons rfl (fun K hK => ?_) AllReadyH.nil
  go_simp
  refine (pback_raw x _).mono ?_
  rintro e w2 ⟨rfl, hb2⟩
  have hX2 := hX1.below hb2 hX1.lt
  have hY2 := hY1.below hb2 hY1.lt
  have hR2 := hR1.below hb2 hR1.lt
  have hB2 := hB1.trans (hb2.mono hB1.size)
  refine hK.out _ _ ⟨hX2, hY2⟩ (fun _ => ?_)
  clear hK
  refine wpAnyH_ready (rs := [5]) (by kernel_rfl) (by simp) ?_
  refine AllReadyH.cons rfl (fun K hK => ?_) AllReadyH.nil
  go_simp
  refine (ptimes_raw (x * y) x⁻¹ _).mono ?_
  rintro e w3 ⟨rfl, hb3⟩
  have hX3 := hX2.below hb3 hX2.lt
  have hY3 := hY2.below hb3 hY2.lt
  have hR3 := hR2.below hb3 hR2.lt
  have hB3 := hB2.trans (hb3.mono hB2.size)
  refine hK.out _ _ ⟨hX3, hY3⟩ (fun _ => ?_)
  clear hK
  refine wpAnyH_ready (rs := [6]) (by kernel_rfl) (by simp) ?_
  refine AllReadyH.cons rfl (fun K hK => ?_) AllReadyH.nil
  refine step_store_arr rfl _ _ rfl (w.heap.size + 1) zeros12 (x * y * x⁻¹).l hR3 rfl rfl (x * y * x⁻¹).len ?_
  intro w4 hR4 hg4
  refine hK.out _ _ ⟨hX3.kept hg4 (by intro e; have := Option.some.inj e; omega), hY3.kept hg4 (by intro e; have := Option.some.inj e; omega)⟩ (fun _ => ?_)
  clear hK
  refine wpAnyH_done (by kernel_rfl) ?_ _
  go_wp2
  exact ret_arr rfl rfl hR4 rfl ⟨rfl, hB3.grown hg4 hB3.size (fun k h => by have := Option.some.inj h; omega)⟩
end Go.Proofs.Ytbddhpbeekioiaa
