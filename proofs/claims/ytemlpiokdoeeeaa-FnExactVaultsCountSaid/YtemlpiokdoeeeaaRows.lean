/-
  NARROWER THAN 'FOR EVERY INPUT', by the rows' own cells (each row's printed sentence says how): FnExactVaultsOk: loops · FnExactVaultsGet: loops · FnExactVaultsPut: loops · FnExactVaultsTake: loops · FnExactVaultsSet: loops · FnExactVaultsCount: loops.
  DERIVED. THE GIVEN ROWS OF THIS SEAT. 7 by the template 'for every input the law returns true; each argument reads behind the call as it read before'; 0 by the template 'total and deterministic' (their statements: YtemlpiokdoeeeaaTotals.lean).
  GIVEN WITH THE SEED: the statements are not yours to turn. If you find one false, say at which input.
  Laid BY PROGRAM, IN A SANDBOX (cutbox-rows.mjs): the forced cells as the released guide's own fill.sh prints them over the translation dd079e4edccec450… (all of the seat's roots in one cut). By AI agents, Wed Nov 11 2026. No macro, syntax, notation, axiom, sorry.
-/
import Derived.Test.YtemlpiokdoeeeaaChecked
import GoSem.Claim
import GoSem.ClaimJoined
import GoSem.ClaimMapViews
import Derived.JoinedTies
import Derived.KernelRfl
namespace Go.Proofs.Ytemlpiokdoeeeaa
/- THE CELL 'sum', in the pinned program and in every row, IS THE sha256 OF THE DUMP (.gsa) THAT YtemlpiokdoeeeaaProg.lean LOADS. Nothing in Lean hashes anything: it is a label: what it is worth is what the hold of that sum in a sandbox is worth. -/
noncomputable def Try.pinned : Pinned := { name := "ytemlpiokdoeeeaa", sum := "dd079e4edccec450d0923821fa7cde7e576d55d17417489911669e39e4ed4ade", checked := Try.checked }
namespace Rows
def none {H : Type} : Left H := { results := [], args := [] }

/-- 'laws.FnVaultsOk': WHATEVER THE INPUT: true; the input reads as it did. -/
def fnVaultsOkSpec : ChangeSpec := { name := "fnVaultsOk", fn := fun _ => fun
  | [d] => { results := [.lit (.bool true)], args := [d] }
  | _ => none }
def fnVaultsOkRow : OpenClaim := { program := "ytemlpiokdoeeeaa", sum := "dd079e4edccec450d0923821fa7cde7e576d55d17417489911669e39e4ed4ade", func := "loop.example/heirlooms/laws.FnVaultsOk", spec := "fnVaultsOk", unfollowed := true, recurses := true, apart := false }
def FnVaultsOkSaid : Prop := fnVaultsOkRow.holds Try.pinned (OpenSpec.ofChange fnVaultsOkSpec)

/-- ITS FALSE NEIGHBOUR: 'it returns false'. Refute it at one input. -/
def fnVaultsOkWrong : ChangeSpec := { name := "fnVaultsOk", fn := fun _ => fun
  | [d] => { results := [.lit (.bool false)], args := [d] }
  | _ => none }
def FnVaultsOkWrongFalsely : Prop := fnVaultsOkRow.holds Try.pinned (OpenSpec.ofChange fnVaultsOkWrong)

/-- 'laws.FnExactVaultsOk': WHATEVER THE INPUT: true; the input reads as it did. -/
def fnExactVaultsOkSpec : ChangeSpec := { name := "fnExactVaultsOk", fn := fun _ => fun
  | [d1, d2] => { results := [.lit (.bool true)], args := [d1, d2] }
  | _ => none }
def fnExactVaultsOkRow : OpenClaim := { program := "ytemlpiokdoeeeaa", sum := "dd079e4edccec450d0923821fa7cde7e576d55d17417489911669e39e4ed4ade", func := "loop.example/heirlooms/laws.FnExactVaultsOk", spec := "fnExactVaultsOk", unfollowed := true, recurses := true, loops := true, apart := false }
def FnExactVaultsOkSaid : Prop := fnExactVaultsOkRow.holds Try.pinned (OpenSpec.ofChange fnExactVaultsOkSpec)

/-- ITS FALSE NEIGHBOUR: 'it returns false'. Refute it at one input. -/
def fnExactVaultsOkWrong : ChangeSpec := { name := "fnExactVaultsOk", fn := fun _ => fun
  | [d1, d2] => { results := [.lit (.bool false)], args := [d1, d2] }
  | _ => none }
def FnExactVaultsOkWrongFalsely : Prop := fnExactVaultsOkRow.holds Try.pinned (OpenSpec.ofChange fnExactVaultsOkWrong)

/-- 'laws.FnExactVaultsGet': WHATEVER THE INPUT: true; the input reads as it did. -/
def fnExactVaultsGetSpec : ChangeSpec := { name := "fnExactVaultsGet", fn := fun _ => fun
  | [d1, d2, d3, d4] => { results := [.lit (.bool true)], args := [d1, d2, d3, d4] }
  | _ => none }
def fnExactVaultsGetRow : OpenClaim := { program := "ytemlpiokdoeeeaa", sum := "dd079e4edccec450d0923821fa7cde7e576d55d17417489911669e39e4ed4ade", func := "loop.example/heirlooms/laws.FnExactVaultsGet", spec := "fnExactVaultsGet", unfollowed := true, recurses := true, loops := true, apart := false }
def FnExactVaultsGetSaid : Prop := fnExactVaultsGetRow.holds Try.pinned (OpenSpec.ofChange fnExactVaultsGetSpec)

/-- ITS FALSE NEIGHBOUR: 'it returns false'. Refute it at one input. -/
def fnExactVaultsGetWrong : ChangeSpec := { name := "fnExactVaultsGet", fn := fun _ => fun
  | [d1, d2, d3, d4] => { results := [.lit (.bool false)], args := [d1, d2, d3, d4] }
  | _ => none }
def FnExactVaultsGetWrongFalsely : Prop := fnExactVaultsGetRow.holds Try.pinned (OpenSpec.ofChange fnExactVaultsGetWrong)

/-- 'laws.FnExactVaultsPut': WHATEVER THE INPUT: true; the input reads as it did. -/
def fnExactVaultsPutSpec : ChangeSpec := { name := "fnExactVaultsPut", fn := fun _ => fun
  | [d1, d2, d3, d4] => { results := [.lit (.bool true)], args := [d1, d2, d3, d4] }
  | _ => none }
def fnExactVaultsPutRow : OpenClaim := { program := "ytemlpiokdoeeeaa", sum := "dd079e4edccec450d0923821fa7cde7e576d55d17417489911669e39e4ed4ade", func := "loop.example/heirlooms/laws.FnExactVaultsPut", spec := "fnExactVaultsPut", unfollowed := true, recurses := true, loops := true, apart := false }
def FnExactVaultsPutSaid : Prop := fnExactVaultsPutRow.holds Try.pinned (OpenSpec.ofChange fnExactVaultsPutSpec)

/-- ITS FALSE NEIGHBOUR: 'it returns false'. Refute it at one input. -/
def fnExactVaultsPutWrong : ChangeSpec := { name := "fnExactVaultsPut", fn := fun _ => fun
  | [d1, d2, d3, d4] => { results := [.lit (.bool false)], args := [d1, d2, d3, d4] }
  | _ => none }
def FnExactVaultsPutWrongFalsely : Prop := fnExactVaultsPutRow.holds Try.pinned (OpenSpec.ofChange fnExactVaultsPutWrong)

/-- 'laws.FnExactVaultsTake': WHATEVER THE INPUT: true; the input reads as it did. -/
def fnExactVaultsTakeSpec : ChangeSpec := { name := "fnExactVaultsTake", fn := fun _ => fun
  | [d1, d2, d3, d4] => { results := [.lit (.bool true)], args := [d1, d2, d3, d4] }
  | _ => none }
def fnExactVaultsTakeRow : OpenClaim := { program := "ytemlpiokdoeeeaa", sum := "dd079e4edccec450d0923821fa7cde7e576d55d17417489911669e39e4ed4ade", func := "loop.example/heirlooms/laws.FnExactVaultsTake", spec := "fnExactVaultsTake", unfollowed := true, recurses := true, loops := true, apart := false }
def FnExactVaultsTakeSaid : Prop := fnExactVaultsTakeRow.holds Try.pinned (OpenSpec.ofChange fnExactVaultsTakeSpec)

/-- ITS FALSE NEIGHBOUR: 'it returns false'. Refute it at one input. -/
def fnExactVaultsTakeWrong : ChangeSpec := { name := "fnExactVaultsTake", fn := fun _ => fun
  | [d1, d2, d3, d4] => { results := [.lit (.bool false)], args := [d1, d2, d3, d4] }
  | _ => none }
def FnExactVaultsTakeWrongFalsely : Prop := fnExactVaultsTakeRow.holds Try.pinned (OpenSpec.ofChange fnExactVaultsTakeWrong)

/-- 'laws.FnExactVaultsSet': WHATEVER THE INPUT: true; the input reads as it did. -/
def fnExactVaultsSetSpec : ChangeSpec := { name := "fnExactVaultsSet", fn := fun _ => fun
  | [d1, d2, d3, d4] => { results := [.lit (.bool true)], args := [d1, d2, d3, d4] }
  | _ => none }
def fnExactVaultsSetRow : OpenClaim := { program := "ytemlpiokdoeeeaa", sum := "dd079e4edccec450d0923821fa7cde7e576d55d17417489911669e39e4ed4ade", func := "loop.example/heirlooms/laws.FnExactVaultsSet", spec := "fnExactVaultsSet", unfollowed := true, recurses := true, loops := true, apart := false }
def FnExactVaultsSetSaid : Prop := fnExactVaultsSetRow.holds Try.pinned (OpenSpec.ofChange fnExactVaultsSetSpec)

/-- ITS FALSE NEIGHBOUR: 'it returns false'. Refute it at one input. -/
def fnExactVaultsSetWrong : ChangeSpec := { name := "fnExactVaultsSet", fn := fun _ => fun
  | [d1, d2, d3, d4] => { results := [.lit (.bool false)], args := [d1, d2, d3, d4] }
  | _ => none }
def FnExactVaultsSetWrongFalsely : Prop := fnExactVaultsSetRow.holds Try.pinned (OpenSpec.ofChange fnExactVaultsSetWrong)

/-- 'laws.FnExactVaultsCount': WHATEVER THE INPUT: true; the input reads as it did. -/
def fnExactVaultsCountSpec : ChangeSpec := { name := "fnExactVaultsCount", fn := fun _ => fun
  | [d1, d2, d3] => { results := [.lit (.bool true)], args := [d1, d2, d3] }
  | _ => none }
def fnExactVaultsCountRow : OpenClaim := { program := "ytemlpiokdoeeeaa", sum := "dd079e4edccec450d0923821fa7cde7e576d55d17417489911669e39e4ed4ade", func := "loop.example/heirlooms/laws.FnExactVaultsCount", spec := "fnExactVaultsCount", unfollowed := true, recurses := true, loops := true, apart := false }
def FnExactVaultsCountSaid : Prop := fnExactVaultsCountRow.holds Try.pinned (OpenSpec.ofChange fnExactVaultsCountSpec)

/-- ITS FALSE NEIGHBOUR: 'it returns false'. Refute it at one input. -/
def fnExactVaultsCountWrong : ChangeSpec := { name := "fnExactVaultsCount", fn := fun _ => fun
  | [d1, d2, d3] => { results := [.lit (.bool false)], args := [d1, d2, d3] }
  | _ => none }
def FnExactVaultsCountWrongFalsely : Prop := fnExactVaultsCountRow.holds Try.pinned (OpenSpec.ofChange fnExactVaultsCountWrong)

/- THE SECOND FORM. 'bulk': how many values and letters a reading holds, each counted each time it is reached (what is shared counts as often as it is met; a slice's spare places count too). A statement '..UptoSaid' is the law's where the arguments, and the package variables that the reading takes, are together of bulk at most 1048576: NARROWER than '..Said'. Prove '..Said' where nothing that the law and all that it calls make is longer than what came in: it says more and counts as full. Else prove '..UptoSaid'. A law counts once. -/
mutual
def uptoBulk {H : Type} : DataW H → Nat
  | .lit (.string bytes) => bytes.length + 1
  | .lit _ => 1
  | .nil => 1
  | .ptr d => uptoBulk d + 1
  | .slice elems spare => uptoBulkAll elems + uptoBulkAll spare + 1
  | .agg parts => uptoBulkAll parts + 1
  | .iface _ d => uptoBulk d + 1
  | .map entries => uptoBulkEntries entries + 1
  | .held _ => 1
def uptoBulkAll {H : Type} : List (DataW H) → Nat
  | [] => 0
  | d :: r => uptoBulk d + uptoBulkAll r
def uptoBulkEntries {H : Type} : List (Lit × DataW H) → Nat
  | [] => 0
  | x :: r => uptoBulkEntry x + uptoBulkEntries r
def uptoBulkEntry {H : Type} : Lit × DataW H → Nat
  | (.string bytes, d) => bytes.length + uptoBulk d + 1
  | (_, d) => uptoBulk d + 1
 end
def uptoSmall : (H : Type) → List (DataW H) → Bool := fun _ ds => decide (uptoBulkAll ds ≤ 1048576)
def OpenSpec.upto (s : _root_.Go.ChangeSpec) : _root_.Go.OpenSpec := { _root_.Go.OpenSpec.ofChange s with cond := some uptoSmall }

/-- 'laws.FnVaultsOk', WHERE WHAT IT READS IS OF BULK AT MOST 1048576: true; the input reads as it did. -/
def fnVaultsOkUptoRow : OpenClaim := { program := "ytemlpiokdoeeeaa", sum := "dd079e4edccec450d0923821fa7cde7e576d55d17417489911669e39e4ed4ade", func := "loop.example/heirlooms/laws.FnVaultsOk", spec := "fnVaultsOk", unfollowed := true, recurses := true, apart := false, narrowed := true }
def FnVaultsOkUptoSaid : Prop := fnVaultsOkUptoRow.holds Try.pinned (OpenSpec.upto fnVaultsOkSpec)

/-- 'laws.FnExactVaultsOk', WHERE WHAT IT READS IS OF BULK AT MOST 1048576: true; the input reads as it did. -/
def fnExactVaultsOkUptoRow : OpenClaim := { program := "ytemlpiokdoeeeaa", sum := "dd079e4edccec450d0923821fa7cde7e576d55d17417489911669e39e4ed4ade", func := "loop.example/heirlooms/laws.FnExactVaultsOk", spec := "fnExactVaultsOk", unfollowed := true, recurses := true, loops := true, apart := false, narrowed := true }
def FnExactVaultsOkUptoSaid : Prop := fnExactVaultsOkUptoRow.holds Try.pinned (OpenSpec.upto fnExactVaultsOkSpec)

/-- 'laws.FnExactVaultsGet', WHERE WHAT IT READS IS OF BULK AT MOST 1048576: true; the input reads as it did. -/
def fnExactVaultsGetUptoRow : OpenClaim := { program := "ytemlpiokdoeeeaa", sum := "dd079e4edccec450d0923821fa7cde7e576d55d17417489911669e39e4ed4ade", func := "loop.example/heirlooms/laws.FnExactVaultsGet", spec := "fnExactVaultsGet", unfollowed := true, recurses := true, loops := true, apart := false, narrowed := true }
def FnExactVaultsGetUptoSaid : Prop := fnExactVaultsGetUptoRow.holds Try.pinned (OpenSpec.upto fnExactVaultsGetSpec)

/-- 'laws.FnExactVaultsPut', WHERE WHAT IT READS IS OF BULK AT MOST 1048576: true; the input reads as it did. -/
def fnExactVaultsPutUptoRow : OpenClaim := { program := "ytemlpiokdoeeeaa", sum := "dd079e4edccec450d0923821fa7cde7e576d55d17417489911669e39e4ed4ade", func := "loop.example/heirlooms/laws.FnExactVaultsPut", spec := "fnExactVaultsPut", unfollowed := true, recurses := true, loops := true, apart := false, narrowed := true }
def FnExactVaultsPutUptoSaid : Prop := fnExactVaultsPutUptoRow.holds Try.pinned (OpenSpec.upto fnExactVaultsPutSpec)

/-- 'laws.FnExactVaultsTake', WHERE WHAT IT READS IS OF BULK AT MOST 1048576: true; the input reads as it did. -/
def fnExactVaultsTakeUptoRow : OpenClaim := { program := "ytemlpiokdoeeeaa", sum := "dd079e4edccec450d0923821fa7cde7e576d55d17417489911669e39e4ed4ade", func := "loop.example/heirlooms/laws.FnExactVaultsTake", spec := "fnExactVaultsTake", unfollowed := true, recurses := true, loops := true, apart := false, narrowed := true }
def FnExactVaultsTakeUptoSaid : Prop := fnExactVaultsTakeUptoRow.holds Try.pinned (OpenSpec.upto fnExactVaultsTakeSpec)

/-- 'laws.FnExactVaultsSet', WHERE WHAT IT READS IS OF BULK AT MOST 1048576: true; the input reads as it did. -/
def fnExactVaultsSetUptoRow : OpenClaim := { program := "ytemlpiokdoeeeaa", sum := "dd079e4edccec450d0923821fa7cde7e576d55d17417489911669e39e4ed4ade", func := "loop.example/heirlooms/laws.FnExactVaultsSet", spec := "fnExactVaultsSet", unfollowed := true, recurses := true, loops := true, apart := false, narrowed := true }
def FnExactVaultsSetUptoSaid : Prop := fnExactVaultsSetUptoRow.holds Try.pinned (OpenSpec.upto fnExactVaultsSetSpec)

/-- 'laws.FnExactVaultsCount', WHERE WHAT IT READS IS OF BULK AT MOST 1048576: true; the input reads as it did. -/
def fnExactVaultsCountUptoRow : OpenClaim := { program := "ytemlpiokdoeeeaa", sum := "dd079e4edccec450d0923821fa7cde7e576d55d17417489911669e39e4ed4ade", func := "loop.example/heirlooms/laws.FnExactVaultsCount", spec := "fnExactVaultsCount", unfollowed := true, recurses := true, loops := true, apart := false, narrowed := true }
def FnExactVaultsCountUptoSaid : Prop := fnExactVaultsCountUptoRow.holds Try.pinned (OpenSpec.upto fnExactVaultsCountSpec)

end Rows
end Go.Proofs.Ytemlpiokdoeeeaa
