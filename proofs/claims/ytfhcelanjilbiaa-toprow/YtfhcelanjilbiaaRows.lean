/-
  No cell of these rows narrows 'for every input' (looked for: loops, veiled, ifaces, maps, wideKeys, modest, calm, conditions, laid).
  DERIVED. THE GIVEN ROWS OF THIS SEAT. 8 by the template 'for every input the law returns true; each argument reads behind the call as it read before'; 0 by the template 'total and deterministic' (their statements: YtfhcelanjilbiaaTotals.lean).
  GIVEN WITH THE SEED: the statements are not yours to turn. If you find one false, say at which input.
  Laid BY PROGRAM, IN A SANDBOX (cutbox-rows.mjs): the forced cells as the released guide's own fill.sh prints them over the translation f28bd1793d7cd4a3… (all of the seat's roots in one cut). By AI agents, Wed Nov 11 2026. No macro, syntax, notation, axiom, sorry.
-/
import Derived.Test.YtfhcelanjilbiaaChecked
import GoSem.Claim
import GoSem.ClaimJoined
import GoSem.ClaimMapViews
import Derived.JoinedTies
import Derived.KernelRfl
namespace Go.Proofs.Ytfhcelanjilbiaa
/- THE CELL 'sum', in the pinned program and in every row, IS THE sha256 OF THE DUMP (.gsa) THAT YtfhcelanjilbiaaProg.lean LOADS. Nothing in Lean hashes anything: it is a label: what it is worth is what the hold of that sum in a sandbox is worth. -/
noncomputable def Try.pinned : Pinned := { name := "ytfhcelanjilbiaa", sum := "f28bd1793d7cd4a342686c4ebe439b7d9519d65e388526baa28df5be726c59de", checked := Try.checked }
namespace Rows
def none {H : Type} : Left H := { results := [], args := [] }

/-- 'campanilelaw.RowSays': WHATEVER THE INPUT: true; the input reads as it did. -/
def rowSaysSpec : ChangeSpec := { name := "rowSays", fn := fun _ => fun
  | [d1, d2, d3, d4, d5] => { results := [.lit (.bool true)], args := [d1, d2, d3, d4, d5] }
  | _ => none }
def rowSaysRow : OpenClaim := { program := "ytfhcelanjilbiaa", sum := "f28bd1793d7cd4a342686c4ebe439b7d9519d65e388526baa28df5be726c59de", func := "campanile/campanilelaw.RowSays", spec := "rowSays", recurses := true, apart := false }
def RowSaysSaid : Prop := rowSaysRow.holds Try.pinned (OpenSpec.ofChange rowSaysSpec)

/-- ITS FALSE NEIGHBOUR: 'it returns false'. Refute it at one input. -/
def rowSaysWrong : ChangeSpec := { name := "rowSays", fn := fun _ => fun
  | [d1, d2, d3, d4, d5] => { results := [.lit (.bool false)], args := [d1, d2, d3, d4, d5] }
  | _ => none }
def RowSaysWrongFalsely : Prop := rowSaysRow.holds Try.pinned (OpenSpec.ofChange rowSaysWrong)

/-- 'campanilelaw.PlaceParses': WHATEVER THE INPUT: true; the input reads as it did. -/
def placeParsesSpec : ChangeSpec := { name := "placeParses", fn := fun _ => fun
  | [d1, d2] => { results := [.lit (.bool true)], args := [d1, d2] }
  | _ => none }
def placeParsesRow : OpenClaim := { program := "ytfhcelanjilbiaa", sum := "f28bd1793d7cd4a342686c4ebe439b7d9519d65e388526baa28df5be726c59de", func := "campanile/campanilelaw.PlaceParses", spec := "placeParses", inPlace := ["internal/bytealg.IndexByteString", "internal/bytealg.IndexString", "slices.overlaps[int]"], unfollowed := true, recurses := true, named := ["internal/bytealg.MaxLen"], apart := false }
def PlaceParsesSaid : Prop := placeParsesRow.holds Try.pinned (OpenSpec.ofChange placeParsesSpec)

/-- ITS FALSE NEIGHBOUR: 'it returns false'. Refute it at one input. -/
def placeParsesWrong : ChangeSpec := { name := "placeParses", fn := fun _ => fun
  | [d1, d2] => { results := [.lit (.bool false)], args := [d1, d2] }
  | _ => none }
def PlaceParsesWrongFalsely : Prop := placeParsesRow.holds Try.pinned (OpenSpec.ofChange placeParsesWrong)

/-- 'campanilelaw.PlaceSays': WHATEVER THE INPUT: true; the input reads as it did. -/
def placeSaysSpec : ChangeSpec := { name := "placeSays", fn := fun _ => fun
  | [d1, d2] => { results := [.lit (.bool true)], args := [d1, d2] }
  | _ => none }
def placeSaysRow : OpenClaim := { program := "ytfhcelanjilbiaa", sum := "f28bd1793d7cd4a342686c4ebe439b7d9519d65e388526baa28df5be726c59de", func := "campanile/campanilelaw.PlaceSays", spec := "placeSays", inPlace := ["internal/bytealg.IndexByteString", "internal/bytealg.IndexString", "slices.overlaps[int]"], unfollowed := true, recurses := true, named := ["internal/bytealg.MaxLen"], apart := false }
def PlaceSaysSaid : Prop := placeSaysRow.holds Try.pinned (OpenSpec.ofChange placeSaysSpec)

/-- ITS FALSE NEIGHBOUR: 'it returns false'. Refute it at one input. -/
def placeSaysWrong : ChangeSpec := { name := "placeSays", fn := fun _ => fun
  | [d1, d2] => { results := [.lit (.bool false)], args := [d1, d2] }
  | _ => none }
def PlaceSaysWrongFalsely : Prop := placeSaysRow.holds Try.pinned (OpenSpec.ofChange placeSaysWrong)

/-- 'campaniletop.TopRow': WHATEVER THE INPUT: true; the input reads as it did. -/
def topRowSpec : ChangeSpec := { name := "topRow", fn := fun _ => fun
  | [d1, d2, d3, d4] => { results := [.lit (.bool true)], args := [d1, d2, d3, d4] }
  | _ => none }
def topRowRow : OpenClaim := { program := "ytfhcelanjilbiaa", sum := "f28bd1793d7cd4a342686c4ebe439b7d9519d65e388526baa28df5be726c59de", func := "campanile/campaniletop.TopRow", spec := "topRow", recurses := true, apart := false }
def TopRowSaid : Prop := topRowRow.holds Try.pinned (OpenSpec.ofChange topRowSpec)

/-- ITS FALSE NEIGHBOUR: 'it returns false'. Refute it at one input. -/
def topRowWrong : ChangeSpec := { name := "topRow", fn := fun _ => fun
  | [d1, d2, d3, d4] => { results := [.lit (.bool false)], args := [d1, d2, d3, d4] }
  | _ => none }
def TopRowWrongFalsely : Prop := topRowRow.holds Try.pinned (OpenSpec.ofChange topRowWrong)

/-- 'campaniletop.TopChange': WHATEVER THE INPUT: true; the input reads as it did. -/
def topChangeSpec : ChangeSpec := { name := "topChange", fn := fun _ => fun
  | [d1, d2] => { results := [.lit (.bool true)], args := [d1, d2] }
  | _ => none }
def topChangeRow : OpenClaim := { program := "ytfhcelanjilbiaa", sum := "f28bd1793d7cd4a342686c4ebe439b7d9519d65e388526baa28df5be726c59de", func := "campanile/campaniletop.TopChange", spec := "topChange", apart := false }
def TopChangeSaid : Prop := topChangeRow.holds Try.pinned (OpenSpec.ofChange topChangeSpec)

/-- ITS FALSE NEIGHBOUR: 'it returns false'. Refute it at one input. -/
def topChangeWrong : ChangeSpec := { name := "topChange", fn := fun _ => fun
  | [d1, d2] => { results := [.lit (.bool false)], args := [d1, d2] }
  | _ => none }
def TopChangeWrongFalsely : Prop := topChangeRow.holds Try.pinned (OpenSpec.ofChange topChangeWrong)

/-- 'campaniletop.TopMirror': WHATEVER THE INPUT: true; the input reads as it did. -/
def topMirrorSpec : ChangeSpec := { name := "topMirror", fn := fun _ => fun
  | [d1, d2, d3, d4] => { results := [.lit (.bool true)], args := [d1, d2, d3, d4] }
  | _ => none }
def topMirrorRow : OpenClaim := { program := "ytfhcelanjilbiaa", sum := "f28bd1793d7cd4a342686c4ebe439b7d9519d65e388526baa28df5be726c59de", func := "campanile/campaniletop.TopMirror", spec := "topMirror", apart := false }
def TopMirrorSaid : Prop := topMirrorRow.holds Try.pinned (OpenSpec.ofChange topMirrorSpec)

/-- ITS FALSE NEIGHBOUR: 'it returns false'. Refute it at one input. -/
def topMirrorWrong : ChangeSpec := { name := "topMirror", fn := fun _ => fun
  | [d1, d2, d3, d4] => { results := [.lit (.bool false)], args := [d1, d2, d3, d4] }
  | _ => none }
def TopMirrorWrongFalsely : Prop := topMirrorRow.holds Try.pinned (OpenSpec.ofChange topMirrorWrong)

/-- 'campaniletop.TopCourse': WHATEVER THE INPUT: true; the input reads as it did. -/
def topCourseSpec : ChangeSpec := { name := "topCourse", fn := fun _ => fun
  | [d1, d2, d3, d4] => { results := [.lit (.bool true)], args := [d1, d2, d3, d4] }
  | _ => none }
def topCourseRow : OpenClaim := { program := "ytfhcelanjilbiaa", sum := "f28bd1793d7cd4a342686c4ebe439b7d9519d65e388526baa28df5be726c59de", func := "campanile/campaniletop.TopCourse", spec := "topCourse", apart := false }
def TopCourseSaid : Prop := topCourseRow.holds Try.pinned (OpenSpec.ofChange topCourseSpec)

/-- ITS FALSE NEIGHBOUR: 'it returns false'. Refute it at one input. -/
def topCourseWrong : ChangeSpec := { name := "topCourse", fn := fun _ => fun
  | [d1, d2, d3, d4] => { results := [.lit (.bool false)], args := [d1, d2, d3, d4] }
  | _ => none }
def TopCourseWrongFalsely : Prop := topCourseRow.holds Try.pinned (OpenSpec.ofChange topCourseWrong)

/-- 'campaniletop.TopHalf': WHATEVER THE INPUT: true; the input reads as it did. -/
def topHalfSpec : ChangeSpec := { name := "topHalf", fn := fun _ => fun
  | [d1, d2, d3, d4] => { results := [.lit (.bool true)], args := [d1, d2, d3, d4] }
  | _ => none }
def topHalfRow : OpenClaim := { program := "ytfhcelanjilbiaa", sum := "f28bd1793d7cd4a342686c4ebe439b7d9519d65e388526baa28df5be726c59de", func := "campanile/campaniletop.TopHalf", spec := "topHalf", apart := false }
def TopHalfSaid : Prop := topHalfRow.holds Try.pinned (OpenSpec.ofChange topHalfSpec)

/-- ITS FALSE NEIGHBOUR: 'it returns false'. Refute it at one input. -/
def topHalfWrong : ChangeSpec := { name := "topHalf", fn := fun _ => fun
  | [d1, d2, d3, d4] => { results := [.lit (.bool false)], args := [d1, d2, d3, d4] }
  | _ => none }
def TopHalfWrongFalsely : Prop := topHalfRow.holds Try.pinned (OpenSpec.ofChange topHalfWrong)

/- THE SECOND FORM. 'bulk': how many values and letters a reading holds, each counted each time it is reached (what is shared counts as often as it is met; a slice's spare places count too). A statement '..UptoSaid' is the law's where the arguments, and the package variables that the reading takes, are together of bulk at most 1048576: NARROWER than '..Said'. Prove '..Said' where nothing that the law and all that it calls make is longer than what came in: it says more and counts as full. Else prove '..UptoSaid'. A law counts once. -/
mutual
def uptoBulk {H : Type} : DataW H → Nat
  | .lit (.string bytes) => bytes.length + 1
  | .lit _ => 1
  | .nil => 1
  | .ptr d => uptoBulk d + 1
  | .slice elems spare => uptoBulkAll elems + uptoBulkAll spare + 1
  | .agg parts => uptoBulkAll parts + 1
  | .iface _ d => uptoBulk d + 1
  | .map entries => uptoBulkEntries entries + 1
  | .held _ => 1
def uptoBulkAll {H : Type} : List (DataW H) → Nat
  | [] => 0
  | d :: r => uptoBulk d + uptoBulkAll r
def uptoBulkEntries {H : Type} : List (Lit × DataW H) → Nat
  | [] => 0
  | x :: r => uptoBulkEntry x + uptoBulkEntries r
def uptoBulkEntry {H : Type} : Lit × DataW H → Nat
  | (.string bytes, d) => bytes.length + uptoBulk d + 1
  | (_, d) => uptoBulk d + 1
 end
def uptoSmall : (H : Type) → List (DataW H) → Bool := fun _ ds => decide (uptoBulkAll ds ≤ 1048576)
def OpenSpec.upto (s : _root_.Go.ChangeSpec) : _root_.Go.OpenSpec := { _root_.Go.OpenSpec.ofChange s with cond := some uptoSmall }

/-- 'campanilelaw.RowSays', WHERE WHAT IT READS IS OF BULK AT MOST 1048576: true; the input reads as it did. -/
def rowSaysUptoRow : OpenClaim := { program := "ytfhcelanjilbiaa", sum := "f28bd1793d7cd4a342686c4ebe439b7d9519d65e388526baa28df5be726c59de", func := "campanile/campanilelaw.RowSays", spec := "rowSays", recurses := true, apart := false, narrowed := true }
def RowSaysUptoSaid : Prop := rowSaysUptoRow.holds Try.pinned (OpenSpec.upto rowSaysSpec)

/-- 'campanilelaw.PlaceParses', WHERE WHAT IT READS IS OF BULK AT MOST 1048576: true; the input reads as it did. -/
def placeParsesUptoRow : OpenClaim := { program := "ytfhcelanjilbiaa", sum := "f28bd1793d7cd4a342686c4ebe439b7d9519d65e388526baa28df5be726c59de", func := "campanile/campanilelaw.PlaceParses", spec := "placeParses", inPlace := ["internal/bytealg.IndexByteString", "internal/bytealg.IndexString", "slices.overlaps[int]"], unfollowed := true, recurses := true, named := ["internal/bytealg.MaxLen"], apart := false, narrowed := true }
def PlaceParsesUptoSaid : Prop := placeParsesUptoRow.holds Try.pinned (OpenSpec.upto placeParsesSpec)

/-- 'campanilelaw.PlaceSays', WHERE WHAT IT READS IS OF BULK AT MOST 1048576: true; the input reads as it did. -/
def placeSaysUptoRow : OpenClaim := { program := "ytfhcelanjilbiaa", sum := "f28bd1793d7cd4a342686c4ebe439b7d9519d65e388526baa28df5be726c59de", func := "campanile/campanilelaw.PlaceSays", spec := "placeSays", inPlace := ["internal/bytealg.IndexByteString", "internal/bytealg.IndexString", "slices.overlaps[int]"], unfollowed := true, recurses := true, named := ["internal/bytealg.MaxLen"], apart := false, narrowed := true }
def PlaceSaysUptoSaid : Prop := placeSaysUptoRow.holds Try.pinned (OpenSpec.upto placeSaysSpec)

/-- 'campaniletop.TopRow', WHERE WHAT IT READS IS OF BULK AT MOST 1048576: true; the input reads as it did. -/
def topRowUptoRow : OpenClaim := { program := "ytfhcelanjilbiaa", sum := "f28bd1793d7cd4a342686c4ebe439b7d9519d65e388526baa28df5be726c59de", func := "campanile/campaniletop.TopRow", spec := "topRow", recurses := true, apart := false, narrowed := true }
def TopRowUptoSaid : Prop := topRowUptoRow.holds Try.pinned (OpenSpec.upto topRowSpec)

/-- 'campaniletop.TopChange', WHERE WHAT IT READS IS OF BULK AT MOST 1048576: true; the input reads as it did. -/
def topChangeUptoRow : OpenClaim := { program := "ytfhcelanjilbiaa", sum := "f28bd1793d7cd4a342686c4ebe439b7d9519d65e388526baa28df5be726c59de", func := "campanile/campaniletop.TopChange", spec := "topChange", apart := false, narrowed := true }
def TopChangeUptoSaid : Prop := topChangeUptoRow.holds Try.pinned (OpenSpec.upto topChangeSpec)

/-- 'campaniletop.TopMirror', WHERE WHAT IT READS IS OF BULK AT MOST 1048576: true; the input reads as it did. -/
def topMirrorUptoRow : OpenClaim := { program := "ytfhcelanjilbiaa", sum := "f28bd1793d7cd4a342686c4ebe439b7d9519d65e388526baa28df5be726c59de", func := "campanile/campaniletop.TopMirror", spec := "topMirror", apart := false, narrowed := true }
def TopMirrorUptoSaid : Prop := topMirrorUptoRow.holds Try.pinned (OpenSpec.upto topMirrorSpec)

/-- 'campaniletop.TopCourse', WHERE WHAT IT READS IS OF BULK AT MOST 1048576: true; the input reads as it did. -/
def topCourseUptoRow : OpenClaim := { program := "ytfhcelanjilbiaa", sum := "f28bd1793d7cd4a342686c4ebe439b7d9519d65e388526baa28df5be726c59de", func := "campanile/campaniletop.TopCourse", spec := "topCourse", apart := false, narrowed := true }
def TopCourseUptoSaid : Prop := topCourseUptoRow.holds Try.pinned (OpenSpec.upto topCourseSpec)

/-- 'campaniletop.TopHalf', WHERE WHAT IT READS IS OF BULK AT MOST 1048576: true; the input reads as it did. -/
def topHalfUptoRow : OpenClaim := { program := "ytfhcelanjilbiaa", sum := "f28bd1793d7cd4a342686c4ebe439b7d9519d65e388526baa28df5be726c59de", func := "campanile/campaniletop.TopHalf", spec := "topHalf", apart := false, narrowed := true }
def TopHalfUptoSaid : Prop := topHalfUptoRow.holds Try.pinned (OpenSpec.upto topHalfSpec)

end Rows
end Go.Proofs.Ytfhcelanjilbiaa
