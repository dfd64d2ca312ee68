/-
  No cell of these rows narrows 'for every input' (looked for: loops, veiled, ifaces, maps, wideKeys, modest, calm, conditions, laid).
  DERIVED. THE GIVEN ROWS OF THIS SEAT. 5 by the template 'for every input the law returns true; each argument reads behind the call as it read before'; 0 by the template 'total and deterministic' (their statements: YthhheipinogcoaaTotals.lean).
  GIVEN WITH THE SEED: the statements are not yours to turn. If you find one false, say at which input.
  Laid BY PROGRAM, IN A SANDBOX (cutbox-rows.mjs): the forced cells as the released guide's own fill.sh prints them over the translation f9a59e57e420f9d0… (all of the seat's roots in one cut). By AI agents, Wed Nov 11 2026. No macro, syntax, notation, axiom, sorry.
-/
import Derived.Test.YthhheipinogcoaaChecked
import GoSem.Claim
import GoSem.ClaimJoined
import GoSem.ClaimMapViews
import Derived.JoinedTies
import Derived.KernelRfl
namespace Go.Proofs.Ythhheipinogcoaa
/- THE CELL 'sum', in the pinned program and in every row, IS THE sha256 OF THE DUMP (.gsa) THAT YthhheipinogcoaaProg.lean LOADS. Nothing in Lean hashes anything: it is a label: what it is worth is what the hold of that sum in a sandbox is worth. -/
noncomputable def Try.pinned : Pinned := { name := "ythhheipinogcoaa", sum := "f9a59e57e420f9d0854c537b8a78abdc7a9b60252f6e5fa3f0b9ea8f2963d593", checked := Try.checked }
namespace Rows
def none {H : Type} : Left H := { results := [], args := [] }

/-- 'laws.FnExactShelfKinds': WHATEVER THE INPUT: true; the input reads as it did. -/
def fnExactShelfKindsSpec : ChangeSpec := { name := "fnExactShelfKinds", fn := fun _ => fun
  | [d] => { results := [.lit (.bool true)], args := [d] }
  | _ => none }
def fnExactShelfKindsRow : OpenClaim := { program := "ythhheipinogcoaa", sum := "f9a59e57e420f9d0854c537b8a78abdc7a9b60252f6e5fa3f0b9ea8f2963d593", func := "loop.example/heirlooms/laws.FnExactShelfKinds", spec := "fnExactShelfKinds", apart := false }
def FnExactShelfKindsSaid : Prop := fnExactShelfKindsRow.holds Try.pinned (OpenSpec.ofChange fnExactShelfKindsSpec)

/-- ITS FALSE NEIGHBOUR: 'it returns false'. Refute it at one input. -/
def fnExactShelfKindsWrong : ChangeSpec := { name := "fnExactShelfKinds", fn := fun _ => fun
  | [d] => { results := [.lit (.bool false)], args := [d] }
  | _ => none }
def FnExactShelfKindsWrongFalsely : Prop := fnExactShelfKindsRow.holds Try.pinned (OpenSpec.ofChange fnExactShelfKindsWrong)

/-- 'laws.FnExactShelfFunc': WHATEVER THE INPUT: true; the input reads as it did. -/
def fnExactShelfFuncSpec : ChangeSpec := { name := "fnExactShelfFunc", fn := fun _ => fun
  | [d1, d2, d3] => { results := [.lit (.bool true)], args := [d1, d2, d3] }
  | _ => none }
def fnExactShelfFuncRow : OpenClaim := { program := "ythhheipinogcoaa", sum := "f9a59e57e420f9d0854c537b8a78abdc7a9b60252f6e5fa3f0b9ea8f2963d593", func := "loop.example/heirlooms/laws.FnExactShelfFunc", spec := "fnExactShelfFunc", apart := false }
def FnExactShelfFuncSaid : Prop := fnExactShelfFuncRow.holds Try.pinned (OpenSpec.ofChange fnExactShelfFuncSpec)

/-- ITS FALSE NEIGHBOUR: 'it returns false'. Refute it at one input. -/
def fnExactShelfFuncWrong : ChangeSpec := { name := "fnExactShelfFunc", fn := fun _ => fun
  | [d1, d2, d3] => { results := [.lit (.bool false)], args := [d1, d2, d3] }
  | _ => none }
def FnExactShelfFuncWrongFalsely : Prop := fnExactShelfFuncRow.holds Try.pinned (OpenSpec.ofChange fnExactShelfFuncWrong)

/-- 'laws.FnExactFuncPlace': WHATEVER THE INPUT: true; the input reads as it did. -/
def fnExactFuncPlaceSpec : ChangeSpec := { name := "fnExactFuncPlace", fn := fun _ => fun
  | [d1, d2] => { results := [.lit (.bool true)], args := [d1, d2] }
  | _ => none }
def fnExactFuncPlaceRow : OpenClaim := { program := "ythhheipinogcoaa", sum := "f9a59e57e420f9d0854c537b8a78abdc7a9b60252f6e5fa3f0b9ea8f2963d593", func := "loop.example/heirlooms/laws.FnExactFuncPlace", spec := "fnExactFuncPlace", apart := false }
def FnExactFuncPlaceSaid : Prop := fnExactFuncPlaceRow.holds Try.pinned (OpenSpec.ofChange fnExactFuncPlaceSpec)

/-- ITS FALSE NEIGHBOUR: 'it returns false'. Refute it at one input. -/
def fnExactFuncPlaceWrong : ChangeSpec := { name := "fnExactFuncPlace", fn := fun _ => fun
  | [d1, d2] => { results := [.lit (.bool false)], args := [d1, d2] }
  | _ => none }
def FnExactFuncPlaceWrongFalsely : Prop := fnExactFuncPlaceRow.holds Try.pinned (OpenSpec.ofChange fnExactFuncPlaceWrong)

/-- 'laws.FnExactFuncSeen': WHATEVER THE INPUT: true; the input reads as it did. -/
def fnExactFuncSeenSpec : ChangeSpec := { name := "fnExactFuncSeen", fn := fun _ => fun
  | [d1, d2, d3, d4] => { results := [.lit (.bool true)], args := [d1, d2, d3, d4] }
  | _ => none }
def fnExactFuncSeenRow : OpenClaim := { program := "ythhheipinogcoaa", sum := "f9a59e57e420f9d0854c537b8a78abdc7a9b60252f6e5fa3f0b9ea8f2963d593", func := "loop.example/heirlooms/laws.FnExactFuncSeen", spec := "fnExactFuncSeen", apart := false }
def FnExactFuncSeenSaid : Prop := fnExactFuncSeenRow.holds Try.pinned (OpenSpec.ofChange fnExactFuncSeenSpec)

/-- ITS FALSE NEIGHBOUR: 'it returns false'. Refute it at one input. -/
def fnExactFuncSeenWrong : ChangeSpec := { name := "fnExactFuncSeen", fn := fun _ => fun
  | [d1, d2, d3, d4] => { results := [.lit (.bool false)], args := [d1, d2, d3, d4] }
  | _ => none }
def FnExactFuncSeenWrongFalsely : Prop := fnExactFuncSeenRow.holds Try.pinned (OpenSpec.ofChange fnExactFuncSeenWrong)

/-- 'laws.FnExactModuleText': WHATEVER THE INPUT: true; the input reads as it did. -/
def fnExactModuleTextSpec : ChangeSpec := { name := "fnExactModuleText", fn := fun _ => fun
  | [d] => { results := [.lit (.bool true)], args := [d] }
  | _ => none }
def fnExactModuleTextRow : OpenClaim := { program := "ythhheipinogcoaa", sum := "f9a59e57e420f9d0854c537b8a78abdc7a9b60252f6e5fa3f0b9ea8f2963d593", func := "loop.example/heirlooms/laws.FnExactModuleText", spec := "fnExactModuleText", unfollowed := true, recurses := true, apart := false }
def FnExactModuleTextSaid : Prop := fnExactModuleTextRow.holds Try.pinned (OpenSpec.ofChange fnExactModuleTextSpec)

/-- ITS FALSE NEIGHBOUR: 'it returns false'. Refute it at one input. -/
def fnExactModuleTextWrong : ChangeSpec := { name := "fnExactModuleText", fn := fun _ => fun
  | [d] => { results := [.lit (.bool false)], args := [d] }
  | _ => none }
def FnExactModuleTextWrongFalsely : Prop := fnExactModuleTextRow.holds Try.pinned (OpenSpec.ofChange fnExactModuleTextWrong)

/- THE SECOND FORM. 'bulk': how many values and letters a reading holds, each counted each time it is reached (what is shared counts as often as it is met; a slice's spare places count too). A statement '..UptoSaid' is the law's where the arguments, and the package variables that the reading takes, are together of bulk at most 1048576: NARROWER than '..Said'. Prove '..Said' where nothing that the law and all that it calls make is longer than what came in: it says more and counts as full. Else prove '..UptoSaid'. A law counts once. -/
mutual
def uptoBulk {H : Type} : DataW H → Nat
  | .lit (.string bytes) => bytes.length + 1
  | .lit _ => 1
  | .nil => 1
  | .ptr d => uptoBulk d + 1
  | .slice elems spare => uptoBulkAll elems + uptoBulkAll spare + 1
  | .agg parts => uptoBulkAll parts + 1
  | .iface _ d => uptoBulk d + 1
  | .map entries => uptoBulkEntries entries + 1
  | .held _ => 1
def uptoBulkAll {H : Type} : List (DataW H) → Nat
  | [] => 0
  | d :: r => uptoBulk d + uptoBulkAll r
def uptoBulkEntries {H : Type} : List (Lit × DataW H) → Nat
  | [] => 0
  | x :: r => uptoBulkEntry x + uptoBulkEntries r
def uptoBulkEntry {H : Type} : Lit × DataW H → Nat
  | (.string bytes, d) => bytes.length + uptoBulk d + 1
  | (_, d) => uptoBulk d + 1
 end
def uptoSmall : (H : Type) → List (DataW H) → Bool := fun _ ds => decide (uptoBulkAll ds ≤ 1048576)
def OpenSpec.upto (s : _root_.Go.ChangeSpec) : _root_.Go.OpenSpec := { _root_.Go.OpenSpec.ofChange s with cond := some uptoSmall }

/-- 'laws.FnExactShelfKinds', WHERE WHAT IT READS IS OF BULK AT MOST 1048576: true; the input reads as it did. -/
def fnExactShelfKindsUptoRow : OpenClaim := { program := "ythhheipinogcoaa", sum := "f9a59e57e420f9d0854c537b8a78abdc7a9b60252f6e5fa3f0b9ea8f2963d593", func := "loop.example/heirlooms/laws.FnExactShelfKinds", spec := "fnExactShelfKinds", apart := false, narrowed := true }
def FnExactShelfKindsUptoSaid : Prop := fnExactShelfKindsUptoRow.holds Try.pinned (OpenSpec.upto fnExactShelfKindsSpec)

/-- 'laws.FnExactShelfFunc', WHERE WHAT IT READS IS OF BULK AT MOST 1048576: true; the input reads as it did. -/
def fnExactShelfFuncUptoRow : OpenClaim := { program := "ythhheipinogcoaa", sum := "f9a59e57e420f9d0854c537b8a78abdc7a9b60252f6e5fa3f0b9ea8f2963d593", func := "loop.example/heirlooms/laws.FnExactShelfFunc", spec := "fnExactShelfFunc", apart := false, narrowed := true }
def FnExactShelfFuncUptoSaid : Prop := fnExactShelfFuncUptoRow.holds Try.pinned (OpenSpec.upto fnExactShelfFuncSpec)

/-- 'laws.FnExactFuncPlace', WHERE WHAT IT READS IS OF BULK AT MOST 1048576: true; the input reads as it did. -/
def fnExactFuncPlaceUptoRow : OpenClaim := { program := "ythhheipinogcoaa", sum := "f9a59e57e420f9d0854c537b8a78abdc7a9b60252f6e5fa3f0b9ea8f2963d593", func := "loop.example/heirlooms/laws.FnExactFuncPlace", spec := "fnExactFuncPlace", apart := false, narrowed := true }
def FnExactFuncPlaceUptoSaid : Prop := fnExactFuncPlaceUptoRow.holds Try.pinned (OpenSpec.upto fnExactFuncPlaceSpec)

/-- 'laws.FnExactFuncSeen', WHERE WHAT IT READS IS OF BULK AT MOST 1048576: true; the input reads as it did. -/
def fnExactFuncSeenUptoRow : OpenClaim := { program := "ythhheipinogcoaa", sum := "f9a59e57e420f9d0854c537b8a78abdc7a9b60252f6e5fa3f0b9ea8f2963d593", func := "loop.example/heirlooms/laws.FnExactFuncSeen", spec := "fnExactFuncSeen", apart := false, narrowed := true }
def FnExactFuncSeenUptoSaid : Prop := fnExactFuncSeenUptoRow.holds Try.pinned (OpenSpec.upto fnExactFuncSeenSpec)

/-- 'laws.FnExactModuleText', WHERE WHAT IT READS IS OF BULK AT MOST 1048576: true; the input reads as it did. -/
def fnExactModuleTextUptoRow : OpenClaim := { program := "ythhheipinogcoaa", sum := "f9a59e57e420f9d0854c537b8a78abdc7a9b60252f6e5fa3f0b9ea8f2963d593", func := "loop.example/heirlooms/laws.FnExactModuleText", spec := "fnExactModuleText", unfollowed := true, recurses := true, apart := false, narrowed := true }
def FnExactModuleTextUptoSaid : Prop := fnExactModuleTextUptoRow.holds Try.pinned (OpenSpec.upto fnExactModuleTextSpec)

end Rows
end Go.Proofs.Ythhheipinogcoaa
