/-
  No cell of these rows narrows 'for every input' (looked for: loops, veiled, ifaces, maps, wideKeys, modest, calm, conditions, laid).
  DERIVED. THE GIVEN ROWS OF THIS SEAT. 6 by the template 'for every input the law returns true; each argument reads behind the call as it read before'; 0 by the template 'total and deterministic' (their statements: YtbddhpbeekioiaaTotals.lean).
  GIVEN WITH THE SEED: the statements are not yours to turn. If you find one false, say at which input.
  Laid BY PROGRAM, IN A SANDBOX (cutbox-rows.mjs): the forced cells as the released guide's own fill.sh prints them over the translation be83e555f0a57992… (all of the seat's roots in one cut). By AI agents, Wed Nov 11 2026. No macro, syntax, notation, axiom, sorry.
-/
import Derived.Test.YtbddhpbeekioiaaChecked
import GoSem.Claim
import GoSem.ClaimJoined
import GoSem.ClaimMapViews
import Derived.JoinedTies
import Derived.KernelRfl
namespace Go.Proofs.Ytbddhpbeekioiaa
/- THE CELL 'sum', in the pinned program and in every row, IS THE sha256 OF THE DUMP (.gsa) THAT YtbddhpbeekioiaaProg.lean LOADS. Nothing in Lean hashes anything: it is a label: what it is worth is what the hold of that sum in a sandbox is worth. -/
noncomputable def Try.pinned : Pinned := { name := "ytbddhpbeekioiaa", sum := "be83e555f0a5799223afc5ca24dbd07708cf1450054a2aacbbdeb20af0a129e0", checked := Try.checked }
namespace Rows
def none {H : Type} : Left H := { results := [], args := [] }

/-- 'campanilelaw.RowSays': WHATEVER THE INPUT: true; the input reads as it did. -/
def rowSaysSpec : ChangeSpec := { name := "rowSays", fn := fun _ => fun
  | [d1, d2, d3, d4, d5] => { results := [.lit (.bool true)], args := [d1, d2, d3, d4, d5] }
  | _ => none }
def rowSaysRow : OpenClaim := { program := "ytbddhpbeekioiaa", sum := "be83e555f0a5799223afc5ca24dbd07708cf1450054a2aacbbdeb20af0a129e0", func := "campanile/campanilelaw.RowSays", spec := "rowSays", recurses := true, plainKeys := false, apart := false }
def RowSaysSaid : Prop := rowSaysRow.holds Try.pinned (OpenSpec.ofChange rowSaysSpec)

/-- ITS FALSE NEIGHBOUR: 'it returns false'. Refute it at one input. -/
def rowSaysWrong : ChangeSpec := { name := "rowSays", fn := fun _ => fun
  | [d1, d2, d3, d4, d5] => { results := [.lit (.bool false)], args := [d1, d2, d3, d4, d5] }
  | _ => none }
def RowSaysWrongFalsely : Prop := rowSaysRow.holds Try.pinned (OpenSpec.ofChange rowSaysWrong)

/-- 'campanilelaw.GroupSays': WHATEVER THE INPUT: true; the input reads as it did. -/
def groupSaysSpec : ChangeSpec := { name := "groupSays", fn := fun _ => fun
  | [d1, d2, d3, d4, d5] => { results := [.lit (.bool true)], args := [d1, d2, d3, d4, d5] }
  | _ => none }
def groupSaysRow : OpenClaim := { program := "ytbddhpbeekioiaa", sum := "be83e555f0a5799223afc5ca24dbd07708cf1450054a2aacbbdeb20af0a129e0", func := "campanile/campanilelaw.GroupSays", spec := "groupSays", unfollowed := true, recurses := true, plainKeys := false, apart := false }
def GroupSaysSaid : Prop := groupSaysRow.holds Try.pinned (OpenSpec.ofChange groupSaysSpec)

/-- ITS FALSE NEIGHBOUR: 'it returns false'. Refute it at one input. -/
def groupSaysWrong : ChangeSpec := { name := "groupSays", fn := fun _ => fun
  | [d1, d2, d3, d4, d5] => { results := [.lit (.bool false)], args := [d1, d2, d3, d4, d5] }
  | _ => none }
def GroupSaysWrongFalsely : Prop := groupSaysRow.holds Try.pinned (OpenSpec.ofChange groupSaysWrong)

/-- 'campanilelaw.GroupMade': WHATEVER THE INPUT: true; the input reads as it did. -/
def groupMadeSpec : ChangeSpec := { name := "groupMade", fn := fun _ => fun
  | [d1, d2, d3, d4] => { results := [.lit (.bool true)], args := [d1, d2, d3, d4] }
  | _ => none }
def groupMadeRow : OpenClaim := { program := "ytbddhpbeekioiaa", sum := "be83e555f0a5799223afc5ca24dbd07708cf1450054a2aacbbdeb20af0a129e0", func := "campanile/campanilelaw.GroupMade", spec := "groupMade", unfollowed := true, recurses := true, plainKeys := false, apart := false }
def GroupMadeSaid : Prop := groupMadeRow.holds Try.pinned (OpenSpec.ofChange groupMadeSpec)

/-- ITS FALSE NEIGHBOUR: 'it returns false'. Refute it at one input. -/
def groupMadeWrong : ChangeSpec := { name := "groupMade", fn := fun _ => fun
  | [d1, d2, d3, d4] => { results := [.lit (.bool false)], args := [d1, d2, d3, d4] }
  | _ => none }
def GroupMadeWrongFalsely : Prop := groupMadeRow.holds Try.pinned (OpenSpec.ofChange groupMadeWrong)

/-- 'campanilelaw.GroupNormal': WHATEVER THE INPUT: true; the input reads as it did. -/
def groupNormalSpec : ChangeSpec := { name := "groupNormal", fn := fun _ => fun
  | [d1, d2, d3, d4, d5] => { results := [.lit (.bool true)], args := [d1, d2, d3, d4, d5] }
  | _ => none }
def groupNormalRow : OpenClaim := { program := "ytbddhpbeekioiaa", sum := "be83e555f0a5799223afc5ca24dbd07708cf1450054a2aacbbdeb20af0a129e0", func := "campanile/campanilelaw.GroupNormal", spec := "groupNormal", unfollowed := true, recurses := true, plainKeys := false, apart := false }
def GroupNormalSaid : Prop := groupNormalRow.holds Try.pinned (OpenSpec.ofChange groupNormalSpec)

/-- ITS FALSE NEIGHBOUR: 'it returns false'. Refute it at one input. -/
def groupNormalWrong : ChangeSpec := { name := "groupNormal", fn := fun _ => fun
  | [d1, d2, d3, d4, d5] => { results := [.lit (.bool false)], args := [d1, d2, d3, d4, d5] }
  | _ => none }
def GroupNormalWrongFalsely : Prop := groupNormalRow.holds Try.pinned (OpenSpec.ofChange groupNormalWrong)

/-- 'campanilelaw.CosetSays': WHATEVER THE INPUT: true; the input reads as it did. -/
def cosetSaysSpec : ChangeSpec := { name := "cosetSays", fn := fun _ => fun
  | [d1, d2, d3, d4] => { results := [.lit (.bool true)], args := [d1, d2, d3, d4] }
  | _ => none }
def cosetSaysRow : OpenClaim := { program := "ytbddhpbeekioiaa", sum := "be83e555f0a5799223afc5ca24dbd07708cf1450054a2aacbbdeb20af0a129e0", func := "campanile/campanilelaw.CosetSays", spec := "cosetSays", unfollowed := true, recurses := true, plainKeys := false, apart := false }
def CosetSaysSaid : Prop := cosetSaysRow.holds Try.pinned (OpenSpec.ofChange cosetSaysSpec)

/-- ITS FALSE NEIGHBOUR: 'it returns false'. Refute it at one input. -/
def cosetSaysWrong : ChangeSpec := { name := "cosetSays", fn := fun _ => fun
  | [d1, d2, d3, d4] => { results := [.lit (.bool false)], args := [d1, d2, d3, d4] }
  | _ => none }
def CosetSaysWrongFalsely : Prop := cosetSaysRow.holds Try.pinned (OpenSpec.ofChange cosetSaysWrong)

/-- 'campanilelaw.CosetMade': WHATEVER THE INPUT: true; the input reads as it did. -/
def cosetMadeSpec : ChangeSpec := { name := "cosetMade", fn := fun _ => fun
  | [d1, d2, d3, d4, d5, d6] => { results := [.lit (.bool true)], args := [d1, d2, d3, d4, d5, d6] }
  | _ => none }
def cosetMadeRow : OpenClaim := { program := "ytbddhpbeekioiaa", sum := "be83e555f0a5799223afc5ca24dbd07708cf1450054a2aacbbdeb20af0a129e0", func := "campanile/campanilelaw.CosetMade", spec := "cosetMade", unfollowed := true, recurses := true, plainKeys := false, apart := false }
def CosetMadeSaid : Prop := cosetMadeRow.holds Try.pinned (OpenSpec.ofChange cosetMadeSpec)

/-- ITS FALSE NEIGHBOUR: 'it returns false'. Refute it at one input. -/
def cosetMadeWrong : ChangeSpec := { name := "cosetMade", fn := fun _ => fun
  | [d1, d2, d3, d4, d5, d6] => { results := [.lit (.bool false)], args := [d1, d2, d3, d4, d5, d6] }
  | _ => none }
def CosetMadeWrongFalsely : Prop := cosetMadeRow.holds Try.pinned (OpenSpec.ofChange cosetMadeWrong)

/- THE SECOND FORM. 'bulk': how many values and letters a reading holds, each counted each time it is reached (what is shared counts as often as it is met; a slice's spare places count too). A statement '..UptoSaid' is the law's where the arguments, and the package variables that the reading takes, are together of bulk at most 1048576: NARROWER than '..Said'. Prove '..Said' where nothing that the law and all that it calls make is longer than what came in: it says more and counts as full. Else prove '..UptoSaid'. A law counts once. -/
mutual
def uptoBulk {H : Type} : DataW H → Nat
  | .lit (.string bytes) => bytes.length + 1
  | .lit _ => 1
  | .nil => 1
  | .ptr d => uptoBulk d + 1
  | .slice elems spare => uptoBulkAll elems + uptoBulkAll spare + 1
  | .agg parts => uptoBulkAll parts + 1
  | .iface _ d => uptoBulk d + 1
  | .map entries => uptoBulkEntries entries + 1
  | .held _ => 1
def uptoBulkAll {H : Type} : List (DataW H) → Nat
  | [] => 0
  | d :: r => uptoBulk d + uptoBulkAll r
def uptoBulkEntries {H : Type} : List (Lit × DataW H) → Nat
  | [] => 0
  | x :: r => uptoBulkEntry x + uptoBulkEntries r
def uptoBulkEntry {H : Type} : Lit × DataW H → Nat
  | (.string bytes, d) => bytes.length + uptoBulk d + 1
  | (_, d) => uptoBulk d + 1
 end
def uptoSmall : (H : Type) → List (DataW H) → Bool := fun _ ds => decide (uptoBulkAll ds ≤ 1048576)
def OpenSpec.upto (s : _root_.Go.ChangeSpec) : _root_.Go.OpenSpec := { _root_.Go.OpenSpec.ofChange s with cond := some uptoSmall }

/-- 'campanilelaw.RowSays', WHERE WHAT IT READS IS OF BULK AT MOST 1048576: true; the input reads as it did. -/
def rowSaysUptoRow : OpenClaim := { program := "ytbddhpbeekioiaa", sum := "be83e555f0a5799223afc5ca24dbd07708cf1450054a2aacbbdeb20af0a129e0", func := "campanile/campanilelaw.RowSays", spec := "rowSays", recurses := true, plainKeys := false, apart := false, narrowed := true }
def RowSaysUptoSaid : Prop := rowSaysUptoRow.holds Try.pinned (OpenSpec.upto rowSaysSpec)

/-- 'campanilelaw.GroupSays', WHERE WHAT IT READS IS OF BULK AT MOST 1048576: true; the input reads as it did. -/
def groupSaysUptoRow : OpenClaim := { program := "ytbddhpbeekioiaa", sum := "be83e555f0a5799223afc5ca24dbd07708cf1450054a2aacbbdeb20af0a129e0", func := "campanile/campanilelaw.GroupSays", spec := "groupSays", unfollowed := true, recurses := true, plainKeys := false, apart := false, narrowed := true }
def GroupSaysUptoSaid : Prop := groupSaysUptoRow.holds Try.pinned (OpenSpec.upto groupSaysSpec)

/-- 'campanilelaw.GroupMade', WHERE WHAT IT READS IS OF BULK AT MOST 1048576: true; the input reads as it did. -/
def groupMadeUptoRow : OpenClaim := { program := "ytbddhpbeekioiaa", sum := "be83e555f0a5799223afc5ca24dbd07708cf1450054a2aacbbdeb20af0a129e0", func := "campanile/campanilelaw.GroupMade", spec := "groupMade", unfollowed := true, recurses := true, plainKeys := false, apart := false, narrowed := true }
def GroupMadeUptoSaid : Prop := groupMadeUptoRow.holds Try.pinned (OpenSpec.upto groupMadeSpec)

/-- 'campanilelaw.GroupNormal', WHERE WHAT IT READS IS OF BULK AT MOST 1048576: true; the input reads as it did. -/
def groupNormalUptoRow : OpenClaim := { program := "ytbddhpbeekioiaa", sum := "be83e555f0a5799223afc5ca24dbd07708cf1450054a2aacbbdeb20af0a129e0", func := "campanile/campanilelaw.GroupNormal", spec := "groupNormal", unfollowed := true, recurses := true, plainKeys := false, apart := false, narrowed := true }
def GroupNormalUptoSaid : Prop := groupNormalUptoRow.holds Try.pinned (OpenSpec.upto groupNormalSpec)

/-- 'campanilelaw.CosetSays', WHERE WHAT IT READS IS OF BULK AT MOST 1048576: true; the input reads as it did. -/
def cosetSaysUptoRow : OpenClaim := { program := "ytbddhpbeekioiaa", sum := "be83e555f0a5799223afc5ca24dbd07708cf1450054a2aacbbdeb20af0a129e0", func := "campanile/campanilelaw.CosetSays", spec := "cosetSays", unfollowed := true, recurses := true, plainKeys := false, apart := false, narrowed := true }
def CosetSaysUptoSaid : Prop := cosetSaysUptoRow.holds Try.pinned (OpenSpec.upto cosetSaysSpec)

/-- 'campanilelaw.CosetMade', WHERE WHAT IT READS IS OF BULK AT MOST 1048576: true; the input reads as it did. -/
def cosetMadeUptoRow : OpenClaim := { program := "ytbddhpbeekioiaa", sum := "be83e555f0a5799223afc5ca24dbd07708cf1450054a2aacbbdeb20af0a129e0", func := "campanile/campanilelaw.CosetMade", spec := "cosetMade", unfollowed := true, recurses := true, plainKeys := false, apart := false, narrowed := true }
def CosetMadeUptoSaid : Prop := cosetMadeUptoRow.holds Try.pinned (OpenSpec.upto cosetMadeSpec)

end Rows
end Go.Proofs.Ytbddhpbeekioiaa
