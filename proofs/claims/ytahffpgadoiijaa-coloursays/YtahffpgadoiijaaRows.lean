/-
  No cell of these rows narrows 'for every input' (looked for: loops, veiled, ifaces, maps, wideKeys, modest, calm, conditions, laid).
  DERIVED. THE GIVEN ROWS OF THIS SEAT. 2 by the template 'for every input the law returns true; each argument reads behind the call as it read before'; 0 by the template 'total and deterministic' (their statements: YtahffpgadoiijaaTotals.lean).
  GIVEN WITH THE SEED: the statements are not yours to turn. If you find one false, say at which input.
  Laid BY PROGRAM, IN A SANDBOX (cutbox-rows.mjs): the forced cells as the released guide's own fill.sh prints them over the translation a0e805beb04cdf74… (all of the seat's roots in one cut). By AI agents, Wed Nov 11 2026. No macro, syntax, notation, axiom, sorry.
-/
import Derived.Test.YtahffpgadoiijaaChecked
import GoSem.Claim
import GoSem.ClaimJoined
import GoSem.ClaimMapViews
import Derived.JoinedTies
import Derived.KernelRfl
namespace Go.Proofs.Ytahffpgadoiijaa
/- THE CELL 'sum', in the pinned program and in every row, IS THE sha256 OF THE DUMP (.gsa) THAT YtahffpgadoiijaaProg.lean LOADS. Nothing in Lean hashes anything: it is a label: what it is worth is what the hold of that sum in a sandbox is worth. -/
noncomputable def Try.pinned : Pinned := { name := "ytahffpgadoiijaa", sum := "a0e805beb04cdf74c98b015f1a95627034a80421a0bc4731193c6fe22e8c9bca", checked := Try.checked }
namespace Rows
def none {H : Type} : Left H := { results := [], args := [] }

/-- 'campanilelaw.ColourSays': WHATEVER THE INPUT: true; the input reads as it did. -/
def colourSaysSpec : ChangeSpec := { name := "colourSays", fn := fun _ => fun
  | [d1, d2, d3, d4] => { results := [.lit (.bool true)], args := [d1, d2, d3, d4] }
  | _ => none }
def colourSaysRow : OpenClaim := { program := "ytahffpgadoiijaa", sum := "a0e805beb04cdf74c98b015f1a95627034a80421a0bc4731193c6fe22e8c9bca", func := "campanile/campanilelaw.ColourSays", spec := "colourSays", inPlace := ["slices.overlaps[campanile/api.Kind]"], unfollowed := true, recurses := true, apart := false }
def ColourSaysSaid : Prop := colourSaysRow.holds Try.pinned (OpenSpec.ofChange colourSaysSpec)

/-- ITS FALSE NEIGHBOUR: 'it returns false'. Refute it at one input. -/
def colourSaysWrong : ChangeSpec := { name := "colourSays", fn := fun _ => fun
  | [d1, d2, d3, d4] => { results := [.lit (.bool false)], args := [d1, d2, d3, d4] }
  | _ => none }
def ColourSaysWrongFalsely : Prop := colourSaysRow.holds Try.pinned (OpenSpec.ofChange colourSaysWrong)

/-- 'campaniletop.TopBurnside': WHATEVER THE INPUT: true; the input reads as it did. -/
def topBurnsideSpec : ChangeSpec := { name := "topBurnside", fn := fun _ => fun
  | [d1, d2, d3] => { results := [.lit (.bool true)], args := [d1, d2, d3] }
  | _ => none }
def topBurnsideRow : OpenClaim := { program := "ytahffpgadoiijaa", sum := "a0e805beb04cdf74c98b015f1a95627034a80421a0bc4731193c6fe22e8c9bca", func := "campanile/campaniletop.TopBurnside", spec := "topBurnside", inPlace := ["slices.overlaps[campanile/api.Kind]"], unfollowed := true, recurses := true, apart := false }
def TopBurnsideSaid : Prop := topBurnsideRow.holds Try.pinned (OpenSpec.ofChange topBurnsideSpec)

/-- ITS FALSE NEIGHBOUR: 'it returns false'. Refute it at one input. -/
def topBurnsideWrong : ChangeSpec := { name := "topBurnside", fn := fun _ => fun
  | [d1, d2, d3] => { results := [.lit (.bool false)], args := [d1, d2, d3] }
  | _ => none }
def TopBurnsideWrongFalsely : Prop := topBurnsideRow.holds Try.pinned (OpenSpec.ofChange topBurnsideWrong)

/- THE SECOND FORM. 'bulk': how many values and letters a reading holds, each counted each time it is reached (what is shared counts as often as it is met; a slice's spare places count too). A statement '..UptoSaid' is the law's where the arguments, and the package variables that the reading takes, are together of bulk at most 1048576: NARROWER than '..Said'. Prove '..Said' where nothing that the law and all that it calls make is longer than what came in: it says more and counts as full. Else prove '..UptoSaid'. A law counts once. -/
mutual
def uptoBulk {H : Type} : DataW H → Nat
  | .lit (.string bytes) => bytes.length + 1
  | .lit _ => 1
  | .nil => 1
  | .ptr d => uptoBulk d + 1
  | .slice elems spare => uptoBulkAll elems + uptoBulkAll spare + 1
  | .agg parts => uptoBulkAll parts + 1
  | .iface _ d => uptoBulk d + 1
  | .map entries => uptoBulkEntries entries + 1
  | .held _ => 1
def uptoBulkAll {H : Type} : List (DataW H) → Nat
  | [] => 0
  | d :: r => uptoBulk d + uptoBulkAll r
def uptoBulkEntries {H : Type} : List (Lit × DataW H) → Nat
  | [] => 0
  | x :: r => uptoBulkEntry x + uptoBulkEntries r
def uptoBulkEntry {H : Type} : Lit × DataW H → Nat
  | (.string bytes, d) => bytes.length + uptoBulk d + 1
  | (_, d) => uptoBulk d + 1
 end
def uptoSmall : (H : Type) → List (DataW H) → Bool := fun _ ds => decide (uptoBulkAll ds ≤ 1048576)
def OpenSpec.upto (s : _root_.Go.ChangeSpec) : _root_.Go.OpenSpec := { _root_.Go.OpenSpec.ofChange s with cond := some uptoSmall }

/-- 'campanilelaw.ColourSays', WHERE WHAT IT READS IS OF BULK AT MOST 1048576: true; the input reads as it did. -/
def colourSaysUptoRow : OpenClaim := { program := "ytahffpgadoiijaa", sum := "a0e805beb04cdf74c98b015f1a95627034a80421a0bc4731193c6fe22e8c9bca", func := "campanile/campanilelaw.ColourSays", spec := "colourSays", inPlace := ["slices.overlaps[campanile/api.Kind]"], unfollowed := true, recurses := true, apart := false, narrowed := true }
def ColourSaysUptoSaid : Prop := colourSaysUptoRow.holds Try.pinned (OpenSpec.upto colourSaysSpec)

/-- 'campaniletop.TopBurnside', WHERE WHAT IT READS IS OF BULK AT MOST 1048576: true; the input reads as it did. -/
def topBurnsideUptoRow : OpenClaim := { program := "ytahffpgadoiijaa", sum := "a0e805beb04cdf74c98b015f1a95627034a80421a0bc4731193c6fe22e8c9bca", func := "campanile/campaniletop.TopBurnside", spec := "topBurnside", inPlace := ["slices.overlaps[campanile/api.Kind]"], unfollowed := true, recurses := true, apart := false, narrowed := true }
def TopBurnsideUptoSaid : Prop := topBurnsideUptoRow.holds Try.pinned (OpenSpec.upto topBurnsideSpec)

end Rows
end Go.Proofs.Ytahffpgadoiijaa
