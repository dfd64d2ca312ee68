/-
  NARROWER THAN 'FOR EVERY INPUT', by the rows' own cells (each row's printed sentence says how): FnExactValueOk: loops · FnExactValueCount: loops · FnExactValueSize: loops.
  DERIVED. THE GIVEN ROWS OF THIS SEAT. 10 by the template 'for every input the law returns true; each argument reads behind the call as it read before'; 0 by the template 'total and deterministic' (their statements: YtjmdhjnfekpklaaTotals.lean).
  GIVEN WITH THE SEED: the statements are not yours to turn. If you find one false, say at which input.
  Laid BY PROGRAM, IN A SANDBOX (cutbox-rows.mjs): the forced cells as the released guide's own fill.sh prints them over the translation f32a611d080dfa4c… (all of the seat's roots in one cut). By AI agents, Wed Nov 11 2026. No macro, syntax, notation, axiom, sorry.
-/
import Derived.Test.YtjmdhjnfekpklaaChecked
import GoSem.Claim
import GoSem.ClaimJoined
import GoSem.ClaimMapViews
import Derived.JoinedTies
import Derived.KernelRfl
namespace Go.Proofs.Ytjmdhjnfekpklaa
/- THE CELL 'sum', in the pinned program and in every row, IS THE sha256 OF THE DUMP (.gsa) THAT YtjmdhjnfekpklaaProg.lean LOADS. Nothing in Lean hashes anything: it is a label: what it is worth is what the hold of that sum in a sandbox is worth. -/
noncomputable def Try.pinned : Pinned := { name := "ytjmdhjnfekpklaa", sum := "f32a611d080dfa4c6e52d37cdaa70eadc29591a3476d98c0c0fb9baee4d85979", checked := Try.checked }
namespace Rows
def none {H : Type} : Left H := { results := [], args := [] }

/-- 'laws.FnTypeOk': WHATEVER THE INPUT: true; the input reads as it did. -/
def fnTypeOkSpec : ChangeSpec := { name := "fnTypeOk", fn := fun _ => fun
  | [d] => { results := [.lit (.bool true)], args := [d] }
  | _ => none }
def fnTypeOkRow : OpenClaim := { program := "ytjmdhjnfekpklaa", sum := "f32a611d080dfa4c6e52d37cdaa70eadc29591a3476d98c0c0fb9baee4d85979", func := "loop.example/heirlooms/laws.FnTypeOk", spec := "fnTypeOk", recurses := true, apart := false }
def FnTypeOkSaid : Prop := fnTypeOkRow.holds Try.pinned (OpenSpec.ofChange fnTypeOkSpec)

/-- ITS FALSE NEIGHBOUR: 'it returns false'. Refute it at one input. -/
def fnTypeOkWrong : ChangeSpec := { name := "fnTypeOk", fn := fun _ => fun
  | [d] => { results := [.lit (.bool false)], args := [d] }
  | _ => none }
def FnTypeOkWrongFalsely : Prop := fnTypeOkRow.holds Try.pinned (OpenSpec.ofChange fnTypeOkWrong)

/-- 'laws.FnTypePlain': WHATEVER THE INPUT: true; the input reads as it did. -/
def fnTypePlainSpec : ChangeSpec := { name := "fnTypePlain", fn := fun _ => fun
  | [d] => { results := [.lit (.bool true)], args := [d] }
  | _ => none }
def fnTypePlainRow : OpenClaim := { program := "ytjmdhjnfekpklaa", sum := "f32a611d080dfa4c6e52d37cdaa70eadc29591a3476d98c0c0fb9baee4d85979", func := "loop.example/heirlooms/laws.FnTypePlain", spec := "fnTypePlain", recurses := true, apart := false }
def FnTypePlainSaid : Prop := fnTypePlainRow.holds Try.pinned (OpenSpec.ofChange fnTypePlainSpec)

/-- ITS FALSE NEIGHBOUR: 'it returns false'. Refute it at one input. -/
def fnTypePlainWrong : ChangeSpec := { name := "fnTypePlain", fn := fun _ => fun
  | [d] => { results := [.lit (.bool false)], args := [d] }
  | _ => none }
def FnTypePlainWrongFalsely : Prop := fnTypePlainRow.holds Try.pinned (OpenSpec.ofChange fnTypePlainWrong)

/-- 'laws.FnTypeAble': WHATEVER THE INPUT: true; the input reads as it did. -/
def fnTypeAbleSpec : ChangeSpec := { name := "fnTypeAble", fn := fun _ => fun
  | [d] => { results := [.lit (.bool true)], args := [d] }
  | _ => none }
def fnTypeAbleRow : OpenClaim := { program := "ytjmdhjnfekpklaa", sum := "f32a611d080dfa4c6e52d37cdaa70eadc29591a3476d98c0c0fb9baee4d85979", func := "loop.example/heirlooms/laws.FnTypeAble", spec := "fnTypeAble", recurses := true, apart := false }
def FnTypeAbleSaid : Prop := fnTypeAbleRow.holds Try.pinned (OpenSpec.ofChange fnTypeAbleSpec)

/-- ITS FALSE NEIGHBOUR: 'it returns false'. Refute it at one input. -/
def fnTypeAbleWrong : ChangeSpec := { name := "fnTypeAble", fn := fun _ => fun
  | [d] => { results := [.lit (.bool false)], args := [d] }
  | _ => none }
def FnTypeAbleWrongFalsely : Prop := fnTypeAbleRow.holds Try.pinned (OpenSpec.ofChange fnTypeAbleWrong)

/-- 'laws.FnKindsOk': WHATEVER THE INPUT: true; the input reads as it did. -/
def fnKindsOkSpec : ChangeSpec := { name := "fnKindsOk", fn := fun _ => fun
  | [d] => { results := [.lit (.bool true)], args := [d] }
  | _ => none }
def fnKindsOkRow : OpenClaim := { program := "ytjmdhjnfekpklaa", sum := "f32a611d080dfa4c6e52d37cdaa70eadc29591a3476d98c0c0fb9baee4d85979", func := "loop.example/heirlooms/laws.FnKindsOk", spec := "fnKindsOk", recurses := true, apart := false }
def FnKindsOkSaid : Prop := fnKindsOkRow.holds Try.pinned (OpenSpec.ofChange fnKindsOkSpec)

/-- ITS FALSE NEIGHBOUR: 'it returns false'. Refute it at one input. -/
def fnKindsOkWrong : ChangeSpec := { name := "fnKindsOk", fn := fun _ => fun
  | [d] => { results := [.lit (.bool false)], args := [d] }
  | _ => none }
def FnKindsOkWrongFalsely : Prop := fnKindsOkRow.holds Try.pinned (OpenSpec.ofChange fnKindsOkWrong)

/-- 'laws.FnKindsBad': WHATEVER THE INPUT: true; the input reads as it did. -/
def fnKindsBadSpec : ChangeSpec := { name := "fnKindsBad", fn := fun _ => fun
  | [d] => { results := [.lit (.bool true)], args := [d] }
  | _ => none }
def fnKindsBadRow : OpenClaim := { program := "ytjmdhjnfekpklaa", sum := "f32a611d080dfa4c6e52d37cdaa70eadc29591a3476d98c0c0fb9baee4d85979", func := "loop.example/heirlooms/laws.FnKindsBad", spec := "fnKindsBad", recurses := true, apart := false }
def FnKindsBadSaid : Prop := fnKindsBadRow.holds Try.pinned (OpenSpec.ofChange fnKindsBadSpec)

/-- ITS FALSE NEIGHBOUR: 'it returns false'. Refute it at one input. -/
def fnKindsBadWrong : ChangeSpec := { name := "fnKindsBad", fn := fun _ => fun
  | [d] => { results := [.lit (.bool false)], args := [d] }
  | _ => none }
def FnKindsBadWrongFalsely : Prop := fnKindsBadRow.holds Try.pinned (OpenSpec.ofChange fnKindsBadWrong)

/-- 'laws.FnTypeHolds': WHATEVER THE INPUT: true; the input reads as it did. -/
def fnTypeHoldsSpec : ChangeSpec := { name := "fnTypeHolds", fn := fun _ => fun
  | [d] => { results := [.lit (.bool true)], args := [d] }
  | _ => none }
def fnTypeHoldsRow : OpenClaim := { program := "ytjmdhjnfekpklaa", sum := "f32a611d080dfa4c6e52d37cdaa70eadc29591a3476d98c0c0fb9baee4d85979", func := "loop.example/heirlooms/laws.FnTypeHolds", spec := "fnTypeHolds", unfollowed := true, recurses := true, apart := false }
def FnTypeHoldsSaid : Prop := fnTypeHoldsRow.holds Try.pinned (OpenSpec.ofChange fnTypeHoldsSpec)

/-- ITS FALSE NEIGHBOUR: 'it returns false'. Refute it at one input. -/
def fnTypeHoldsWrong : ChangeSpec := { name := "fnTypeHolds", fn := fun _ => fun
  | [d] => { results := [.lit (.bool false)], args := [d] }
  | _ => none }
def FnTypeHoldsWrongFalsely : Prop := fnTypeHoldsRow.holds Try.pinned (OpenSpec.ofChange fnTypeHoldsWrong)

/-- 'laws.FnExactValueOk': WHATEVER THE INPUT: true; the input reads as it did. -/
def fnExactValueOkSpec : ChangeSpec := { name := "fnExactValueOk", fn := fun _ => fun
  | [d1, d2] => { results := [.lit (.bool true)], args := [d1, d2] }
  | _ => none }
def fnExactValueOkRow : OpenClaim := { program := "ytjmdhjnfekpklaa", sum := "f32a611d080dfa4c6e52d37cdaa70eadc29591a3476d98c0c0fb9baee4d85979", func := "loop.example/heirlooms/laws.FnExactValueOk", spec := "fnExactValueOk", recurses := true, loops := true, apart := false }
def FnExactValueOkSaid : Prop := fnExactValueOkRow.holds Try.pinned (OpenSpec.ofChange fnExactValueOkSpec)

/-- ITS FALSE NEIGHBOUR: 'it returns false'. Refute it at one input. -/
def fnExactValueOkWrong : ChangeSpec := { name := "fnExactValueOk", fn := fun _ => fun
  | [d1, d2] => { results := [.lit (.bool false)], args := [d1, d2] }
  | _ => none }
def FnExactValueOkWrongFalsely : Prop := fnExactValueOkRow.holds Try.pinned (OpenSpec.ofChange fnExactValueOkWrong)

/-- 'laws.FnExactValueRead': WHATEVER THE INPUT: true; the input reads as it did. -/
def fnExactValueReadSpec : ChangeSpec := { name := "fnExactValueRead", fn := fun _ => fun
  | [d1, d2] => { results := [.lit (.bool true)], args := [d1, d2] }
  | _ => none }
def fnExactValueReadRow : OpenClaim := { program := "ytjmdhjnfekpklaa", sum := "f32a611d080dfa4c6e52d37cdaa70eadc29591a3476d98c0c0fb9baee4d85979", func := "loop.example/heirlooms/laws.FnExactValueRead", spec := "fnExactValueRead", recurses := true, apart := false }
def FnExactValueReadSaid : Prop := fnExactValueReadRow.holds Try.pinned (OpenSpec.ofChange fnExactValueReadSpec)

/-- ITS FALSE NEIGHBOUR: 'it returns false'. Refute it at one input. -/
def fnExactValueReadWrong : ChangeSpec := { name := "fnExactValueRead", fn := fun _ => fun
  | [d1, d2] => { results := [.lit (.bool false)], args := [d1, d2] }
  | _ => none }
def FnExactValueReadWrongFalsely : Prop := fnExactValueReadRow.holds Try.pinned (OpenSpec.ofChange fnExactValueReadWrong)

/-- 'laws.FnExactValueCount': WHATEVER THE INPUT: true; the input reads as it did. -/
def fnExactValueCountSpec : ChangeSpec := { name := "fnExactValueCount", fn := fun _ => fun
  | [d1, d2, d3] => { results := [.lit (.bool true)], args := [d1, d2, d3] }
  | _ => none }
def fnExactValueCountRow : OpenClaim := { program := "ytjmdhjnfekpklaa", sum := "f32a611d080dfa4c6e52d37cdaa70eadc29591a3476d98c0c0fb9baee4d85979", func := "loop.example/heirlooms/laws.FnExactValueCount", spec := "fnExactValueCount", recurses := true, loops := true, apart := false }
def FnExactValueCountSaid : Prop := fnExactValueCountRow.holds Try.pinned (OpenSpec.ofChange fnExactValueCountSpec)

/-- ITS FALSE NEIGHBOUR: 'it returns false'. Refute it at one input. -/
def fnExactValueCountWrong : ChangeSpec := { name := "fnExactValueCount", fn := fun _ => fun
  | [d1, d2, d3] => { results := [.lit (.bool false)], args := [d1, d2, d3] }
  | _ => none }
def FnExactValueCountWrongFalsely : Prop := fnExactValueCountRow.holds Try.pinned (OpenSpec.ofChange fnExactValueCountWrong)

/-- 'laws.FnExactValueSize': WHATEVER THE INPUT: true; the input reads as it did. -/
def fnExactValueSizeSpec : ChangeSpec := { name := "fnExactValueSize", fn := fun _ => fun
  | [d1, d2] => { results := [.lit (.bool true)], args := [d1, d2] }
  | _ => none }
def fnExactValueSizeRow : OpenClaim := { program := "ytjmdhjnfekpklaa", sum := "f32a611d080dfa4c6e52d37cdaa70eadc29591a3476d98c0c0fb9baee4d85979", func := "loop.example/heirlooms/laws.FnExactValueSize", spec := "fnExactValueSize", recurses := true, loops := true, apart := false }
def FnExactValueSizeSaid : Prop := fnExactValueSizeRow.holds Try.pinned (OpenSpec.ofChange fnExactValueSizeSpec)

/-- ITS FALSE NEIGHBOUR: 'it returns false'. Refute it at one input. -/
def fnExactValueSizeWrong : ChangeSpec := { name := "fnExactValueSize", fn := fun _ => fun
  | [d1, d2] => { results := [.lit (.bool false)], args := [d1, d2] }
  | _ => none }
def FnExactValueSizeWrongFalsely : Prop := fnExactValueSizeRow.holds Try.pinned (OpenSpec.ofChange fnExactValueSizeWrong)

/- THE SECOND FORM. 'bulk': how many values and letters a reading holds, each counted each time it is reached (what is shared counts as often as it is met; a slice's spare places count too). A statement '..UptoSaid' is the law's where the arguments, and the package variables that the reading takes, are together of bulk at most 1048576: NARROWER than '..Said'. Prove '..Said' where nothing that the law and all that it calls make is longer than what came in: it says more and counts as full. Else prove '..UptoSaid'. A law counts once. -/
mutual
def uptoBulk {H : Type} : DataW H → Nat
  | .lit (.string bytes) => bytes.length + 1
  | .lit _ => 1
  | .nil => 1
  | .ptr d => uptoBulk d + 1
  | .slice elems spare => uptoBulkAll elems + uptoBulkAll spare + 1
  | .agg parts => uptoBulkAll parts + 1
  | .iface _ d => uptoBulk d + 1
  | .map entries => uptoBulkEntries entries + 1
  | .held _ => 1
def uptoBulkAll {H : Type} : List (DataW H) → Nat
  | [] => 0
  | d :: r => uptoBulk d + uptoBulkAll r
def uptoBulkEntries {H : Type} : List (Lit × DataW H) → Nat
  | [] => 0
  | x :: r => uptoBulkEntry x + uptoBulkEntries r
def uptoBulkEntry {H : Type} : Lit × DataW H → Nat
  | (.string bytes, d) => bytes.length + uptoBulk d + 1
  | (_, d) => uptoBulk d + 1
 end
def uptoSmall : (H : Type) → List (DataW H) → Bool := fun _ ds => decide (uptoBulkAll ds ≤ 1048576)
def OpenSpec.upto (s : _root_.Go.ChangeSpec) : _root_.Go.OpenSpec := { _root_.Go.OpenSpec.ofChange s with cond := some uptoSmall }

/-- 'laws.FnTypeOk', WHERE WHAT IT READS IS OF BULK AT MOST 1048576: true; the input reads as it did. -/
def fnTypeOkUptoRow : OpenClaim := { program := "ytjmdhjnfekpklaa", sum := "f32a611d080dfa4c6e52d37cdaa70eadc29591a3476d98c0c0fb9baee4d85979", func := "loop.example/heirlooms/laws.FnTypeOk", spec := "fnTypeOk", recurses := true, apart := false, narrowed := true }
def FnTypeOkUptoSaid : Prop := fnTypeOkUptoRow.holds Try.pinned (OpenSpec.upto fnTypeOkSpec)

/-- 'laws.FnTypePlain', WHERE WHAT IT READS IS OF BULK AT MOST 1048576: true; the input reads as it did. -/
def fnTypePlainUptoRow : OpenClaim := { program := "ytjmdhjnfekpklaa", sum := "f32a611d080dfa4c6e52d37cdaa70eadc29591a3476d98c0c0fb9baee4d85979", func := "loop.example/heirlooms/laws.FnTypePlain", spec := "fnTypePlain", recurses := true, apart := false, narrowed := true }
def FnTypePlainUptoSaid : Prop := fnTypePlainUptoRow.holds Try.pinned (OpenSpec.upto fnTypePlainSpec)

/-- 'laws.FnTypeAble', WHERE WHAT IT READS IS OF BULK AT MOST 1048576: true; the input reads as it did. -/
def fnTypeAbleUptoRow : OpenClaim := { program := "ytjmdhjnfekpklaa", sum := "f32a611d080dfa4c6e52d37cdaa70eadc29591a3476d98c0c0fb9baee4d85979", func := "loop.example/heirlooms/laws.FnTypeAble", spec := "fnTypeAble", recurses := true, apart := false, narrowed := true }
def FnTypeAbleUptoSaid : Prop := fnTypeAbleUptoRow.holds Try.pinned (OpenSpec.upto fnTypeAbleSpec)

/-- 'laws.FnKindsOk', WHERE WHAT IT READS IS OF BULK AT MOST 1048576: true; the input reads as it did. -/
def fnKindsOkUptoRow : OpenClaim := { program := "ytjmdhjnfekpklaa", sum := "f32a611d080dfa4c6e52d37cdaa70eadc29591a3476d98c0c0fb9baee4d85979", func := "loop.example/heirlooms/laws.FnKindsOk", spec := "fnKindsOk", recurses := true, apart := false, narrowed := true }
def FnKindsOkUptoSaid : Prop := fnKindsOkUptoRow.holds Try.pinned (OpenSpec.upto fnKindsOkSpec)

/-- 'laws.FnKindsBad', WHERE WHAT IT READS IS OF BULK AT MOST 1048576: true; the input reads as it did. -/
def fnKindsBadUptoRow : OpenClaim := { program := "ytjmdhjnfekpklaa", sum := "f32a611d080dfa4c6e52d37cdaa70eadc29591a3476d98c0c0fb9baee4d85979", func := "loop.example/heirlooms/laws.FnKindsBad", spec := "fnKindsBad", recurses := true, apart := false, narrowed := true }
def FnKindsBadUptoSaid : Prop := fnKindsBadUptoRow.holds Try.pinned (OpenSpec.upto fnKindsBadSpec)

/-- 'laws.FnTypeHolds', WHERE WHAT IT READS IS OF BULK AT MOST 1048576: true; the input reads as it did. -/
def fnTypeHoldsUptoRow : OpenClaim := { program := "ytjmdhjnfekpklaa", sum := "f32a611d080dfa4c6e52d37cdaa70eadc29591a3476d98c0c0fb9baee4d85979", func := "loop.example/heirlooms/laws.FnTypeHolds", spec := "fnTypeHolds", unfollowed := true, recurses := true, apart := false, narrowed := true }
def FnTypeHoldsUptoSaid : Prop := fnTypeHoldsUptoRow.holds Try.pinned (OpenSpec.upto fnTypeHoldsSpec)

/-- 'laws.FnExactValueOk', WHERE WHAT IT READS IS OF BULK AT MOST 1048576: true; the input reads as it did. -/
def fnExactValueOkUptoRow : OpenClaim := { program := "ytjmdhjnfekpklaa", sum := "f32a611d080dfa4c6e52d37cdaa70eadc29591a3476d98c0c0fb9baee4d85979", func := "loop.example/heirlooms/laws.FnExactValueOk", spec := "fnExactValueOk", recurses := true, loops := true, apart := false, narrowed := true }
def FnExactValueOkUptoSaid : Prop := fnExactValueOkUptoRow.holds Try.pinned (OpenSpec.upto fnExactValueOkSpec)

/-- 'laws.FnExactValueRead', WHERE WHAT IT READS IS OF BULK AT MOST 1048576: true; the input reads as it did. -/
def fnExactValueReadUptoRow : OpenClaim := { program := "ytjmdhjnfekpklaa", sum := "f32a611d080dfa4c6e52d37cdaa70eadc29591a3476d98c0c0fb9baee4d85979", func := "loop.example/heirlooms/laws.FnExactValueRead", spec := "fnExactValueRead", recurses := true, apart := false, narrowed := true }
def FnExactValueReadUptoSaid : Prop := fnExactValueReadUptoRow.holds Try.pinned (OpenSpec.upto fnExactValueReadSpec)

/-- 'laws.FnExactValueCount', WHERE WHAT IT READS IS OF BULK AT MOST 1048576: true; the input reads as it did. -/
def fnExactValueCountUptoRow : OpenClaim := { program := "ytjmdhjnfekpklaa", sum := "f32a611d080dfa4c6e52d37cdaa70eadc29591a3476d98c0c0fb9baee4d85979", func := "loop.example/heirlooms/laws.FnExactValueCount", spec := "fnExactValueCount", recurses := true, loops := true, apart := false, narrowed := true }
def FnExactValueCountUptoSaid : Prop := fnExactValueCountUptoRow.holds Try.pinned (OpenSpec.upto fnExactValueCountSpec)

/-- 'laws.FnExactValueSize', WHERE WHAT IT READS IS OF BULK AT MOST 1048576: true; the input reads as it did. -/
def fnExactValueSizeUptoRow : OpenClaim := { program := "ytjmdhjnfekpklaa", sum := "f32a611d080dfa4c6e52d37cdaa70eadc29591a3476d98c0c0fb9baee4d85979", func := "loop.example/heirlooms/laws.FnExactValueSize", spec := "fnExactValueSize", recurses := true, loops := true, apart := false, narrowed := true }
def FnExactValueSizeUptoSaid : Prop := fnExactValueSizeUptoRow.holds Try.pinned (OpenSpec.upto fnExactValueSizeSpec)

end Rows
end Go.Proofs.Ytjmdhjnfekpklaa
