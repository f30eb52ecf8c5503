/- Joined: MsN. -/
import Derived.Test.YtfngadfkopfhcaaGreatDoorJ13
/- The law MethodSays, whole; MethodMade. -/
namespace Go.Proofs.YtfngadfkopfhcaaGreatDoor
open Go.RowKit Go.Lib
set_option maxRecDepth 20000
set_option linter.unusedVariables false

theorem rns_size (s : ByteArray) : ∀ f pos, s.size - pos ≤ f → s.size - pos ≤ 4 * (rns s f pos).length
  | 0, pos, h => by omega
  | f + 1, pos, h => by
    unfold rns
    by_cases hp : pos < s.size
    · rw [if_pos hp]
      have hw := decode_width s pos hp
      have hd := decode_at s pos
      have hc := dec_more (s.size - pos) (s.get! pos).toNat (s.get! (pos + 1)).toNat (s.get! (pos + 2)).toNat (s.get! (pos + 3)).toNat (by omega)
      rw [← hd] at hc
      have ih := rns_size s f (pos + (Utf8.decode s pos).2) (by omega)
      rw [List.length_cons]
      omega
    · rw [if_neg hp]; simp; omega

theorem nm_size {s : ByteArray} (h : nm s = true) : s.size ≤ 80 := by
  unfold nm at h
  rw [Bool.and_eq_true] at h
  have := of_decide_eq_true h.2
  have h2 := rns_size s s.size 0 (by omega)
  have e : rns s s.size 0 = runesOf s := rfl
  rw [e] at h2
  omega

theorem methodSays_any (s : ByteArray) (n : Nat) (v : Value) (ts : List (List Bool)) (bell : Int) (tx : ByteArray) (w : World) (htx : tx.size ≤ 1048576) (hn : nm s = true) (h1 : 2 ≤ n) (h2 : n ≤ 12) (hl1 : 1 ≤ ts.length) (hl2 : ts.length ≤ 200) (hts : ∀ t, t ∈ ts → tsz t = n) (hv : IntsAll w v (ts.map tpl)) (hz : mErr s n (ts.map tpl) = 0) (hg : Glb w) :
    Calls Tryz.prog 3 #[.agg #[.string s, .int .i64 n, v], .int .i64 bell, .string tx] w fun e w' => e = .returned (.bool true) ∧ Below w.heap.size w w' := by
  have hlm : (ts.map tpl).length = ts.length := List.length_map _
  have hss := nm_size hn
  have hokm : ∀ ps, ps ∈ ts.map tpl → okc n 0 ps = true := fun ps hp => by
    obtain ⟨k, hk, rfl⟩ := List.getElem_of_mem hp
    have := tile_ok hts hk
    rwa [show (ts.map tpl).getD k [] = (ts.map tpl)[k] from by rw [List.getD_eq_getElem?_getD, List.getElem?_eq_getElem hk]; rfl] at this
  have hok : ∀ k, k < (ts.map tpl).length → okc n 0 ((ts.map tpl).getD k []) = true := fun k hk => tile_ok hts hk
  have hpc : ∀ j, j < (ts.map tpl).length → pc n ((ts.map tpl).getD j []) = 0 := fun j hj => by
    unfold pc
    rw [if_pos (by omega)]
    unfold pck
    rw [if_pos (hok j hj)]
  have hbd : ∀ ps, ps ∈ ts.map tpl → ps.length ≤ 12 ∧ ∀ p, p ∈ ps → 1 ≤ p ∧ p ≤ 12 := fun ps hp => okc_bound (by omega) (by omega) (hokm ps hp)
  have hbo : ∀ k, k < (ts.map tpl).length → ((ts.map tpl).getD k []).length ≤ 12 ∧ ∀ p, p ∈ (ts.map tpl).getD k [] → 1 ≤ p ∧ p ≤ 12 := fun k hk => hbd _ (by rw [List.getD_eq_getElem?_getD, List.getElem?_eq_getElem hk]; exact List.getElem_mem hk)
  have hln := ptx_length (ts.map tpl) (fun ps hp => (hbd ps hp).1)
  have hpl : (pls (ts.map tpl)).size ≤ 2600 := by
    unfold pls
    rw [strOfNums_size]
    have := hln (ts.map tpl).length
    omega
  have hws : (wln s n (ts.map tpl)).size ≤ 9223372036854775807 := by
    unfold wln
    rw [str_size]
    unfold joi
    have := decB_length n
    have e1 : s.data.toList.length = s.size := by rw [Array.length_toList]; rfl
    have e2 : (pls (ts.map tpl)).data.toList.length = (pls (ts.map tpl)).size := by rw [Array.length_toList]; rfl
    simp only [List.length_append, List.length_cons, List.length_nil, e1, e2]
    omega
  exact methodSays_good s n v ts bell tx w (by omega) htx hn h1 h2 hl1 hl2 hts hv hz hg (by omega) hws hpc hok hbo hln hokm

theorem methodSays_walk (s : ByteArray) (n : Int) (v : Value) (X : List (List Int)) (bell : Int) (tx : ByteArray) (w : World) (hs : s.size ≤ 1048576) (hv : IntsAll w v X) (hb : I64 bell) (htx : tx.size ≤ 1048576) (hg : Glb w) :
    Calls Tryz.prog 3 #[.agg #[.string s, .int .i64 n, v], .int .i64 bell, .string tx] w fun e w' => e = .returned (.bool true) ∧ Below w.heap.size w w' := by
  by_cases hz : mErr s n X = 0
  · obtain ⟨N, ts, rfl, rfl, hn, h1, h2, hl1, hl2, hts⟩ := mErr_zero hz
    exact methodSays_any s N v ts bell tx w htx hn h1 h2 hl1 hl2 hts hv hz hg
  · exact methodSays_bad s n v X bell tx w hs htx hv hz

theorem fstE_none {n : Int} : ∀ {X : List (List Int)}, (∀ x, x ∈ X → pc n x = 0) → fstE n X = 0
  | [], _ => rfl
  | x :: X, h => by
    unfold fstE
    rw [if_pos (h x (by simp))]
    exact fstE_none (fun y hy => h y (by simp [hy]))

theorem mErr_good {s : ByteArray} {n : Nat} {ts : List (List Bool)} (hn : nm s = true) (h1 : 2 ≤ n) (h2 : n ≤ 12) (hl1 : 1 ≤ ts.length) (hl2 : ts.length ≤ 200) (hts : ∀ t, t ∈ ts → tsz t = n) : mErr s n (ts.map tpl) = 0 := by
  unfold mErr
  have hlm : (ts.map tpl).length = ts.length := List.length_map _
  rw [if_pos hn, if_neg (by omega)]
  refine fstE_none (fun ps hp => ?_)
  obtain ⟨k, hk, rfl⟩ := List.getElem_of_mem hp
  have := tile_ok hts hk
  rw [show (ts.map tpl).getD k [] = (ts.map tpl)[k] from by rw [List.getD_eq_getElem?_getD, List.getElem?_eq_getElem hk]; rfl] at this
  unfold pc
  rw [if_pos (by omega)]
  unfold pck
  rw [if_pos this]

set_option maxHeartbeats 4000000 in
theorem methodMade_walk (v : Value) (xs : List Int) (a1 a2 a3 : Int) (w : World) (hi : Ints w v xs) (hx : ∀ x, x ∈ xs → I64 x) (i1 : I64 a1) (i2 : I64 a2) (i3 : I64 a3) (hg : Glb w) :
    Calls Tryz.prog 4 #[v, .int .i64 a1, .int .i64 a2, .int .i64 a3] w fun e w' => e = .returned (.bool true) ∧ Below w.heap.size w w' := by
  obtain ⟨vp, vc, rfl⟩ := hi.form
  by_cases hL : 256 < (xs.length : Int)
  · generalize xs.length = L at *
    clear hi hx
    go_enter Tryz.func4, Tryz.ntmps4
    go_wp2
    go_ret
    exact ⟨rfl, Below.refl _ _⟩
  · have HMO := hide (fun n m (h1 : 1 ≤ n) (h12 : n ≤ 12) (hm : m ≤ 1000) => methodOf_ok _ xs n m w hi hx h1 h12 hm)
    have HG := hide hg
    have HP1 := hide (fun W => pick_any a1 11 W i1.1 i1.2 (by decide) (by decide))
    have HP2 := hide (fun W => pick_any a2 30 W i2.1 i2.2 (by decide) (by decide))
    generalize xs.length = L at *
    clear hi hx hg
    go_enter Tryz.func4, Tryz.ntmps4
    go_wp2_with fail
    refine (HP1.out _).mono ?_
    rintro e w' ⟨k1, hk1, hk2, rfl, rfl⟩
    obtain ⟨n1, rfl⟩ := Int.eq_ofNat_of_zero_le hk1
    go_wp2_with fail
    refine (HP2.out _).mono ?_
    rintro e w' ⟨k2, hk3, hk4, rfl, rfl⟩
    obtain ⟨n2, rfl⟩ := Int.eq_ofNat_of_zero_le hk3
    have HMM := hide (HMO.out (2 + n1) (1 + n2) (by omega) (by omega) (by omega))
    rw [show ((2 + n1 : Nat) : Int) = 2 + (n1 : Int) from by omega, show ((1 + n2 : Nat) : Int) = 1 + (n2 : Int) from by omega] at HMM
    go_wp2_with fail
    refine HMM.out.mono ?_
    rintro e w1 ⟨u, vs, ts, rfl, hlt, hts, hLL, hb1⟩
    obtain ⟨up, uc, rfl⟩ := owns_slice hLL.row
    have hMS := methodSays_any ⟨#[84, 114, 105, 101, 100]⟩ (2 + n1) _ ts a3 ⟨#[80, 108, 97, 105, 110, 32, 66, 111, 98]⟩ w1 (by decide) tried_name (by omega) (by omega) (by omega) (by omega) hts hLL.ints (mErr_good tried_name (by omega) (by omega) (by omega) (by omega) hts) (HG.out.below hb1)
    rw [show ((2 + n1 : Nat) : Int) = 2 + (n1 : Int) from by omega] at hMS
    have HMS := hide hMS
    have HB1 := hide hb1
    generalize vs.length = VL at *
    clear hMS hb1 hLL hts hlt HMM HMO
    go_wp2_with fail
    refine HMS.out.mono ?_
    rintro e w2 ⟨rfl, hb2⟩
    have HF := hide (HB1.out.trans (hb2.mono HB1.out.size))
    clear hb2 HMS
    go_wp2
    go_ret
    exact ⟨rfl, HF.out⟩

end Go.Proofs.YtfngadfkopfhcaaGreatDoor
