/-
  NARROWER THAN 'FOR EVERY INPUT', by the rows' own cells (each row's printed sentence says how): FnExactVaultsCount: loops.
  DERIVED. THE GIVEN ROWS OF THIS SEAT. 5 by the template 'for every input the law returns true; each argument reads behind the call as it read before'; 0 by the template 'total and deterministic' (their statements: YthkdkefkgmmoiaaTotals.lean).
  GIVEN WITH THE SEED: the statements are not yours to turn. If you find one false, say at which input.
  Laid BY PROGRAM, IN A SANDBOX (cutbox-rows.mjs): the forced cells as the released guide's own fill.sh prints them over the translation 6956339e06838fb2… (all of the seat's roots in one cut). By AI agents, Wed Nov 11 2026. No macro, syntax, notation, axiom, sorry.
-/
import Derived.Test.YthkdkefkgmmoiaaChecked
import GoSem.Claim
import GoSem.ClaimJoined
import GoSem.ClaimMapViews
import Derived.JoinedTies
import Derived.KernelRfl
namespace Go.Proofs.Ythkdkefkgmmoiaa
/- THE CELL 'sum', in the pinned program and in every row, IS THE sha256 OF THE DUMP (.gsa) THAT YthkdkefkgmmoiaaProg.lean LOADS. Nothing in Lean hashes anything: it is a label: what it is worth is what the hold of that sum in a sandbox is worth. -/
noncomputable def Try.pinned : Pinned := { name := "ythkdkefkgmmoiaa", sum := "6956339e06838fb2063cc67965c2043e9ee2f49b0c927b9076c23bb98b8cbd00", checked := Try.checked }
namespace Rows
def none {H : Type} : Left H := { results := [], args := [] }

/-- 'laws.FnShelfKinds': WHATEVER THE INPUT: true; the input reads as it did. -/
def fnShelfKindsSpec : ChangeSpec := { name := "fnShelfKinds", fn := fun _ => fun
  | [d] => { results := [.lit (.bool true)], args := [d] }
  | _ => none }
def fnShelfKindsRow : OpenClaim := { program := "ythkdkefkgmmoiaa", sum := "6956339e06838fb2063cc67965c2043e9ee2f49b0c927b9076c23bb98b8cbd00", func := "loop.example/heirlooms/laws.FnShelfKinds", spec := "fnShelfKinds", recurses := true, apart := false }
def FnShelfKindsSaid : Prop := fnShelfKindsRow.holds Try.pinned (OpenSpec.ofChange fnShelfKindsSpec)

/-- ITS FALSE NEIGHBOUR: 'it returns false'. Refute it at one input. -/
def fnShelfKindsWrong : ChangeSpec := { name := "fnShelfKinds", fn := fun _ => fun
  | [d] => { results := [.lit (.bool false)], args := [d] }
  | _ => none }
def FnShelfKindsWrongFalsely : Prop := fnShelfKindsRow.holds Try.pinned (OpenSpec.ofChange fnShelfKindsWrong)

/-- 'laws.FnShelfFunc': WHATEVER THE INPUT: true; the input reads as it did. -/
def fnShelfFuncSpec : ChangeSpec := { name := "fnShelfFunc", fn := fun _ => fun
  | [d] => { results := [.lit (.bool true)], args := [d] }
  | _ => none }
def fnShelfFuncRow : OpenClaim := { program := "ythkdkefkgmmoiaa", sum := "6956339e06838fb2063cc67965c2043e9ee2f49b0c927b9076c23bb98b8cbd00", func := "loop.example/heirlooms/laws.FnShelfFunc", spec := "fnShelfFunc", recurses := true, apart := false }
def FnShelfFuncSaid : Prop := fnShelfFuncRow.holds Try.pinned (OpenSpec.ofChange fnShelfFuncSpec)

/-- ITS FALSE NEIGHBOUR: 'it returns false'. Refute it at one input. -/
def fnShelfFuncWrong : ChangeSpec := { name := "fnShelfFunc", fn := fun _ => fun
  | [d] => { results := [.lit (.bool false)], args := [d] }
  | _ => none }
def FnShelfFuncWrongFalsely : Prop := fnShelfFuncRow.holds Try.pinned (OpenSpec.ofChange fnShelfFuncWrong)

/-- 'laws.FnFuncPlace': WHATEVER THE INPUT: true; the input reads as it did. -/
def fnFuncPlaceSpec : ChangeSpec := { name := "fnFuncPlace", fn := fun _ => fun
  | [d] => { results := [.lit (.bool true)], args := [d] }
  | _ => none }
def fnFuncPlaceRow : OpenClaim := { program := "ythkdkefkgmmoiaa", sum := "6956339e06838fb2063cc67965c2043e9ee2f49b0c927b9076c23bb98b8cbd00", func := "loop.example/heirlooms/laws.FnFuncPlace", spec := "fnFuncPlace", recurses := true, apart := false }
def FnFuncPlaceSaid : Prop := fnFuncPlaceRow.holds Try.pinned (OpenSpec.ofChange fnFuncPlaceSpec)

/-- ITS FALSE NEIGHBOUR: 'it returns false'. Refute it at one input. -/
def fnFuncPlaceWrong : ChangeSpec := { name := "fnFuncPlace", fn := fun _ => fun
  | [d] => { results := [.lit (.bool false)], args := [d] }
  | _ => none }
def FnFuncPlaceWrongFalsely : Prop := fnFuncPlaceRow.holds Try.pinned (OpenSpec.ofChange fnFuncPlaceWrong)

/-- 'laws.FnFuncSeen': WHATEVER THE INPUT: true; the input reads as it did. -/
def fnFuncSeenSpec : ChangeSpec := { name := "fnFuncSeen", fn := fun _ => fun
  | [d] => { results := [.lit (.bool true)], args := [d] }
  | _ => none }
def fnFuncSeenRow : OpenClaim := { program := "ythkdkefkgmmoiaa", sum := "6956339e06838fb2063cc67965c2043e9ee2f49b0c927b9076c23bb98b8cbd00", func := "loop.example/heirlooms/laws.FnFuncSeen", spec := "fnFuncSeen", recurses := true, apart := false }
def FnFuncSeenSaid : Prop := fnFuncSeenRow.holds Try.pinned (OpenSpec.ofChange fnFuncSeenSpec)

/-- ITS FALSE NEIGHBOUR: 'it returns false'. Refute it at one input. -/
def fnFuncSeenWrong : ChangeSpec := { name := "fnFuncSeen", fn := fun _ => fun
  | [d] => { results := [.lit (.bool false)], args := [d] }
  | _ => none }
def FnFuncSeenWrongFalsely : Prop := fnFuncSeenRow.holds Try.pinned (OpenSpec.ofChange fnFuncSeenWrong)

/-- 'laws.FnExactVaultsCount': WHATEVER THE INPUT: true; the input reads as it did. -/
def fnExactVaultsCountSpec : ChangeSpec := { name := "fnExactVaultsCount", fn := fun _ => fun
  | [d1, d2, d3] => { results := [.lit (.bool true)], args := [d1, d2, d3] }
  | _ => none }
def fnExactVaultsCountRow : OpenClaim := { program := "ythkdkefkgmmoiaa", sum := "6956339e06838fb2063cc67965c2043e9ee2f49b0c927b9076c23bb98b8cbd00", func := "loop.example/heirlooms/laws.FnExactVaultsCount", spec := "fnExactVaultsCount", unfollowed := true, recurses := true, loops := true, apart := false }
def FnExactVaultsCountSaid : Prop := fnExactVaultsCountRow.holds Try.pinned (OpenSpec.ofChange fnExactVaultsCountSpec)

/-- ITS FALSE NEIGHBOUR: 'it returns false'. Refute it at one input. -/
def fnExactVaultsCountWrong : ChangeSpec := { name := "fnExactVaultsCount", fn := fun _ => fun
  | [d1, d2, d3] => { results := [.lit (.bool false)], args := [d1, d2, d3] }
  | _ => none }
def FnExactVaultsCountWrongFalsely : Prop := fnExactVaultsCountRow.holds Try.pinned (OpenSpec.ofChange fnExactVaultsCountWrong)

/- THE SECOND FORM. 'bulk': how many values and letters a reading holds, each counted each time it is reached (what is shared counts as often as it is met; a slice's spare places count too). A statement '..UptoSaid' is the law's where the arguments, and the package variables that the reading takes, are together of bulk at most 1048576: NARROWER than '..Said'. Prove '..Said' where nothing that the law and all that it calls make is longer than what came in: it says more and counts as full. Else prove '..UptoSaid'. A law counts once. -/
mutual
def uptoBulk {H : Type} : DataW H → Nat
  | .lit (.string bytes) => bytes.length + 1
  | .lit _ => 1
  | .nil => 1
  | .ptr d => uptoBulk d + 1
  | .slice elems spare => uptoBulkAll elems + uptoBulkAll spare + 1
  | .agg parts => uptoBulkAll parts + 1
  | .iface _ d => uptoBulk d + 1
  | .map entries => uptoBulkEntries entries + 1
  | .held _ => 1
def uptoBulkAll {H : Type} : List (DataW H) → Nat
  | [] => 0
  | d :: r => uptoBulk d + uptoBulkAll r
def uptoBulkEntries {H : Type} : List (Lit × DataW H) → Nat
  | [] => 0
  | x :: r => uptoBulkEntry x + uptoBulkEntries r
def uptoBulkEntry {H : Type} : Lit × DataW H → Nat
  | (.string bytes, d) => bytes.length + uptoBulk d + 1
  | (_, d) => uptoBulk d + 1
 end
def uptoSmall : (H : Type) → List (DataW H) → Bool := fun _ ds => decide (uptoBulkAll ds ≤ 1048576)
def OpenSpec.upto (s : _root_.Go.ChangeSpec) : _root_.Go.OpenSpec := { _root_.Go.OpenSpec.ofChange s with cond := some uptoSmall }

/-- 'laws.FnShelfKinds', WHERE WHAT IT READS IS OF BULK AT MOST 1048576: true; the input reads as it did. -/
def fnShelfKindsUptoRow : OpenClaim := { program := "ythkdkefkgmmoiaa", sum := "6956339e06838fb2063cc67965c2043e9ee2f49b0c927b9076c23bb98b8cbd00", func := "loop.example/heirlooms/laws.FnShelfKinds", spec := "fnShelfKinds", recurses := true, apart := false, narrowed := true }
def FnShelfKindsUptoSaid : Prop := fnShelfKindsUptoRow.holds Try.pinned (OpenSpec.upto fnShelfKindsSpec)

/-- 'laws.FnShelfFunc', WHERE WHAT IT READS IS OF BULK AT MOST 1048576: true; the input reads as it did. -/
def fnShelfFuncUptoRow : OpenClaim := { program := "ythkdkefkgmmoiaa", sum := "6956339e06838fb2063cc67965c2043e9ee2f49b0c927b9076c23bb98b8cbd00", func := "loop.example/heirlooms/laws.FnShelfFunc", spec := "fnShelfFunc", recurses := true, apart := false, narrowed := true }
def FnShelfFuncUptoSaid : Prop := fnShelfFuncUptoRow.holds Try.pinned (OpenSpec.upto fnShelfFuncSpec)

/-- 'laws.FnFuncPlace', WHERE WHAT IT READS IS OF BULK AT MOST 1048576: true; the input reads as it did. -/
def fnFuncPlaceUptoRow : OpenClaim := { program := "ythkdkefkgmmoiaa", sum := "6956339e06838fb2063cc67965c2043e9ee2f49b0c927b9076c23bb98b8cbd00", func := "loop.example/heirlooms/laws.FnFuncPlace", spec := "fnFuncPlace", recurses := true, apart := false, narrowed := true }
def FnFuncPlaceUptoSaid : Prop := fnFuncPlaceUptoRow.holds Try.pinned (OpenSpec.upto fnFuncPlaceSpec)

/-- 'laws.FnFuncSeen', WHERE WHAT IT READS IS OF BULK AT MOST 1048576: true; the input reads as it did. -/
def fnFuncSeenUptoRow : OpenClaim := { program := "ythkdkefkgmmoiaa", sum := "6956339e06838fb2063cc67965c2043e9ee2f49b0c927b9076c23bb98b8cbd00", func := "loop.example/heirlooms/laws.FnFuncSeen", spec := "fnFuncSeen", recurses := true, apart := false, narrowed := true }
def FnFuncSeenUptoSaid : Prop := fnFuncSeenUptoRow.holds Try.pinned (OpenSpec.upto fnFuncSeenSpec)

/-- 'laws.FnExactVaultsCount', WHERE WHAT IT READS IS OF BULK AT MOST 1048576: true; the input reads as it did. -/
def fnExactVaultsCountUptoRow : OpenClaim := { program := "ythkdkefkgmmoiaa", sum := "6956339e06838fb2063cc67965c2043e9ee2f49b0c927b9076c23bb98b8cbd00", func := "loop.example/heirlooms/laws.FnExactVaultsCount", spec := "fnExactVaultsCount", unfollowed := true, recurses := true, loops := true, apart := false, narrowed := true }
def FnExactVaultsCountUptoSaid : Prop := fnExactVaultsCountUptoRow.holds Try.pinned (OpenSpec.upto fnExactVaultsCountSpec)

end Rows
end Go.Proofs.Ythkdkefkgmmoiaa
