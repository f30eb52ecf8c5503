/- The walk of PlaceParses. -/
import Derived.Test.YtgglbafcocbhbaaPPx
import Derived.Test.YtgglbafcocbhbaaPPw
import Derived.Test.YtgglbafcocbhbaaPrsC
import Derived.Test.YtgglbafcocbhbaaRefD
namespace Go.Proofs.Ytgglbafcocbhbaa
open Go.RowKit

def PP2 (code : Int) (xss : List (List Int)) (w : World) (e : Ending) (w' : World) : Prop := Below w.heap.size w w' ∧ ∃ v, e = .returned (.tuple #[v, .int .i64 code]) ∧ IntsAll w' v xss

theorem PP2.none {code : Int} {w w' : World} (h : Below w.heap.size w w') : PP2 code [] w (.returned (.tuple #[.slice none 0 0, .int .i64 code])) w' :=
  ⟨h, _, rfl, [], Or.inl ⟨rfl, _, _, rfl⟩, rfl, fun j hj => by simp at hj⟩

set_option maxRecDepth 20000 in
set_option maxHeartbeats 4000000 in
theorem pp_walk (n : Int) (s : ByteArray) (w : World) (code : Int) (xss : List (List Int)) (hm : s.size ≤ 9223372036854775807) (hs : s.size ≤ 600 ∨ 4001 ≤ s.size)
    (hA : ∀ w, Calls Try.prog 30 #[.int .i64 n, .string s] w (PP2 code xss w)) (hB : ∀ w, Calls Try.prog 31 #[.int .i64 n, .string s] w (PP2 code xss w)) :
    Calls Try.prog 4 #[.int .i64 n, .string s] w fun e w' => e = .returned (.bool true) ∧ Below w.heap.size w w' := by
  have HA := hide hA
  have HB := hide hB
  clear hA hB
  rcases hs with hs | hs
  · go_enter Try.func4, Try.ntmps4
    go_wp2_with fail
    refine (HA.out _).mono ?_
    rintro e w1 ⟨hb1, v1, rfl, hi1⟩
    go_wp2_with fail
    refine (HB.out _).mono ?_
    rintro e w2 ⟨hb2, v2, rfl, hi2⟩
    have HI1 := hide (hi1.below hb2)
    have HI2 := hide hi2
    have HB12 := hide (hb1.trans (hb2.mono hb1.size))
    clear hb1 hb2 hi1 hi2
    go_wp2_with fail
    refine (sameAll_any v1 v2 xss xss w2 HI1.out HI2.out).mono ?_
    rintro e w3 ⟨rfl, hb3⟩
    have HF : Hid (Below w.heap.size w w3) := HB12.out.trans (hb3.mono HB12.out.size)
    clear hb3
    go_wp2
    go_ret
    exact ⟨by simp, HF.out⟩
  · have hs6 : ¬ s.size ≤ 600 := by omega
    go_enter Try.func4, Try.ntmps4
    go_wp2_with fail
    refine (HA.out _).mono ?_
    rintro e w1 ⟨hb1, v1, rfl, hi1⟩
    go_wp2_with fail
    refine (HB.out _).mono ?_
    rintro e w2 ⟨hb2, v2, rfl, hi2⟩
    have HI1 := hide (hi1.below hb2)
    have HI2 := hide hi2
    have HB12 := hide (hb1.trans (hb2.mono hb1.size))
    clear hb1 hb2 hi1 hi2
    go_wp2_with fail
    refine (sameAll_any v1 v2 xss xss w2 HI1.out HI2.out).mono ?_
    rintro e w3 ⟨rfl, hb3⟩
    have HF : Hid (Below w.heap.size w w3) := HB12.out.trans (hb3.mono HB12.out.size)
    clear hb3
    go_wp2
    go_ret
    exact ⟨by simp, HF.out⟩

set_option maxRecDepth 20000 in
set_option maxHeartbeats 4000000 in
theorem pp_between (n : Int) (s : ByteArray) (w : World) (h1 : 600 < s.size) (h2 : s.size < 4001) :
    Calls Try.prog 4 #[.int .i64 n, .string s] w fun e w' => e = .returned (.bool true) ∧ Below w.heap.size w w' := by
  go_enter Try.func4, Try.ntmps4
  go_wp2
  go_ret
  exact ⟨rfl, Below.refl _ _⟩

theorem placeParses_walk (n : Int) (s : ByteArray) (w : World) (_ : I64 n) (hm : s.size ≤ 9223372036854775807) :
    Calls Try.prog 4 #[.int .i64 n, .string s] w fun e w' => e = .returned (.bool true) ∧ Below w.heap.size w w' := by
  by_cases hb : 600 < s.size ∧ s.size < 4001
  · exact pp_between n s w hb.1 hb.2
  · have hs : s.size ≤ 600 ∨ 4001 ≤ s.size := by omega
    by_cases hn : n < 1 ∨ 12 < n
    · refine pp_walk n s w 1 [] hm hs (fun w => (parse_count n s w hn).mono ?_) (fun w => (parsePlaces_count n s w hn).mono ?_)
      · rintro e w' ⟨rfl, hb'⟩
        exact PP2.none hb'
      · rintro e w' ⟨rfl, rfl⟩
        exact PP2.none (Below.refl _ _)
    · rcases hs with hs | hs
      · exact pp_walk n s w _ _ hm (Or.inl hs) (fun w => parse_ok n s w (by omega) (by omega) (by omega)) (fun w => parsePlaces_ok n s w (by omega) (by omega) (by omega))
      · refine pp_walk n s w 3 [] hm (Or.inr hs) (fun w => (parse_long n s w (by omega) (by omega) (by omega) hm).mono ?_) (fun w => (parsePlaces_long n s w (by omega) (by omega) (by omega) hm).mono ?_)
        · rintro e w' ⟨rfl, hb'⟩
          exact PP2.none hb'
        · rintro e w' ⟨rfl, rfl⟩
          exact PP2.none (Below.refl _ _)

end Go.Proofs.Ytgglbafcocbhbaa
