/-
  NARROWER THAN 'FOR EVERY INPUT', by the rows' own cells (each row's printed sentence says how): FnExactKindSafe: laid.
  DERIVED. THE GIVEN ROWS OF THIS SEAT. 1 by the template 'for every input the law returns true; each argument reads behind the call as it read before'; 0 by the template 'total and deterministic' (their statements: YthkdkefkgmmoiaaDoorTotals.lean).
  GIVEN WITH THE SEED: the statements are not yours to turn. If you find one false, say at which input.
  Laid BY PROGRAM, IN A SANDBOX (cutbox-rows.mjs): the forced cells as the released guide's own fill.sh prints them over the translation 8ae5958056ffcb91… (all of the seat's roots in one cut). By AI agents, Wed Nov 11 2026. No macro, syntax, notation, axiom, sorry.
-/
import Derived.Test.YthkdkefkgmmoiaaDoorChecked
import GoSem.Claim
import GoSem.ClaimJoined
import GoSem.ClaimMapViews
import Derived.JoinedTies
import Derived.KernelRfl
namespace Go.Proofs.YthkdkefkgmmoiaaDoor
/- THE CELL 'sum', in the pinned program and in every row, IS THE sha256 OF THE DUMP (.gsa) THAT YthkdkefkgmmoiaaDoorProg.lean LOADS. Nothing in Lean hashes anything: it is a label: what it is worth is what the hold of that sum in a sandbox is worth. -/
noncomputable def Tryd.pinned : Pinned := { name := "ythkdkefkgmmoiaadoor", sum := "8ae5958056ffcb9184b6eb1a22acb29065cbcc0b0c1763ee4a371bbc9aff2da7", checked := Tryd.checked }
namespace Rows
def none {H : Type} : Left H := { results := [], args := [] }

/- WHAT THE LISTED PACKAGE-LEVEL VARIABLES READ AS WHEN THE CALL BEGINS. Each datum BY PROGRAM (the guide's laid-datum.mjs) off the statement by which the dump's own 'gosem.cut.vars' lays the variable. In a bare row this is a premise. The card (YthkdkefkgmmoiaaDoorCards.lean) ties it to the program's text. -/
def laid_loop_example_heirlooms_impl_insRows {H : Type} : DataW H := .slice [.agg [.slice [.lit (.string [110, 117, 109])] [], .lit (.int .i64 1000000), .lit (.int .i64 0)], .agg [.slice [.lit (.string [116, 114, 117, 101]), .lit (.string [102, 97, 108, 115, 101]), .lit (.string [109, 101]), .lit (.string [97, 100, 100]), .lit (.string [115, 117, 98]), .lit (.string [109, 117, 108]), .lit (.string [100, 105, 118]), .lit (.string [109, 111, 100]), .lit (.string [108, 101, 115, 115]), .lit (.string [115, 97, 109, 101]), .lit (.string [97, 110, 100]), .lit (.string [111, 114]), .lit (.string [110, 111, 116])] [], .lit (.int .i64 0), .lit (.int .i64 0)], .agg [.slice [.lit (.string [99, 111, 112, 121]), .lit (.string [109, 111, 118, 101]), .lit (.string [112, 117, 116])] [], .lit (.int .i64 5), .lit (.int .i64 0)], .agg [.slice [.lit (.string [100, 114, 111, 112])] [], .lit (.int .i64 0), .lit (.int .i64 0)], .agg [.slice [.lit (.string [112, 97, 99, 107]), .lit (.string [117, 110, 112, 97, 99, 107])] [], .lit (.int .i64 2), .lit (.int .i64 0)], .agg [.slice [.lit (.string [108, 101, 110, 100]), .lit (.string [108, 101, 110, 100, 119])] [], .lit (.int .i64 5), .lit (.int .i64 0)], .agg [.slice [.lit (.string [102, 105, 101, 108, 100])] [], .lit (.int .i64 2), .lit (.int .i64 2)], .agg [.slice [.lit (.string [114, 101, 97, 100]), .lit (.string [112, 101, 101, 107]), .lit (.string [119, 114, 105, 116, 101]), .lit (.string [102, 114, 101, 101, 122, 101])] [], .lit (.int .i64 0), .lit (.int .i64 0)], .agg [.slice [.lit (.string [107, 101, 101, 112]), .lit (.string [116, 97, 107, 101]), .lit (.string [104, 97, 115]), .lit (.string [115, 101, 101]), .lit (.string [115, 101, 101, 119])] [], .lit (.int .i64 2), .lit (.int .i64 0)], .agg [.slice [.lit (.string [106, 117, 109, 112]), .lit (.string [122, 101, 114, 111])] [], .lit (.int .i64 39), .lit (.int .i64 0)], .agg [.slice [.lit (.string [99, 97, 108, 108])] [], .lit (.int .i64 2), .lit (.int .i64 3)], .agg [.slice [.lit (.string [114, 101, 116]), .lit (.string [102, 97, 105, 108])] [], .lit (.int .i64 0), .lit (.int .i64 0)]] []

/-- 'laws.FnExactKindSafe': WHATEVER THE INPUT: true; the input reads as it did. -/
def fnExactKindSafeSpec : ChangeSpec := { name := "fnExactKindSafe", vars := ["loop.example/heirlooms/impl.insRows"], fn := fun _ => fun
  | [d1, d2, g1] => { results := [.lit (.bool true)], args := [d1, d2], vars := [g1] }
  | _ => none }
def fnExactKindSafeRow : OpenClaim := { program := "ythkdkefkgmmoiaadoor", sum := "8ae5958056ffcb9184b6eb1a22acb29065cbcc0b0c1763ee4a371bbc9aff2da7", func := "loop.example/heirlooms/laws.FnExactKindSafe", spec := "fnExactKindSafe", named := ["loop.example/heirlooms/impl.insRows"], apart := false, laid := [("loop.example/heirlooms/impl.insRows", laid_loop_example_heirlooms_impl_insRows)] }
def FnExactKindSafeSaid : Prop := fnExactKindSafeRow.holds Tryd.pinned (OpenSpec.ofChange fnExactKindSafeSpec)

/-- ITS FALSE NEIGHBOUR: 'it returns false'. Refute it at one input. -/
def fnExactKindSafeWrong : ChangeSpec := { name := "fnExactKindSafe", vars := ["loop.example/heirlooms/impl.insRows"], fn := fun _ => fun
  | [d1, d2, g1] => { results := [.lit (.bool false)], args := [d1, d2], vars := [g1] }
  | _ => none }
def FnExactKindSafeWrongFalsely : Prop := fnExactKindSafeRow.holds Tryd.pinned (OpenSpec.ofChange fnExactKindSafeWrong)

/- THE SECOND FORM. 'bulk': how many values and letters a reading holds, each counted each time it is reached (what is shared counts as often as it is met; a slice's spare places count too). A statement '..UptoSaid' is the law's where the arguments, and the package variables that the reading takes, are together of bulk at most 1048576: NARROWER than '..Said'. Prove '..Said' where nothing that the law and all that it calls make is longer than what came in: it says more and counts as full. Else prove '..UptoSaid'. A law counts once. -/
mutual
def uptoBulk {H : Type} : DataW H → Nat
  | .lit (.string bytes) => bytes.length + 1
  | .lit _ => 1
  | .nil => 1
  | .ptr d => uptoBulk d + 1
  | .slice elems spare => uptoBulkAll elems + uptoBulkAll spare + 1
  | .agg parts => uptoBulkAll parts + 1
  | .iface _ d => uptoBulk d + 1
  | .map entries => uptoBulkEntries entries + 1
  | .held _ => 1
def uptoBulkAll {H : Type} : List (DataW H) → Nat
  | [] => 0
  | d :: r => uptoBulk d + uptoBulkAll r
def uptoBulkEntries {H : Type} : List (Lit × DataW H) → Nat
  | [] => 0
  | x :: r => uptoBulkEntry x + uptoBulkEntries r
def uptoBulkEntry {H : Type} : Lit × DataW H → Nat
  | (.string bytes, d) => bytes.length + uptoBulk d + 1
  | (_, d) => uptoBulk d + 1
 end
def uptoSmall : (H : Type) → List (DataW H) → Bool := fun _ ds => decide (uptoBulkAll ds ≤ 1048576)
def OpenSpec.upto (s : _root_.Go.ChangeSpec) : _root_.Go.OpenSpec := { _root_.Go.OpenSpec.ofChange s with cond := some uptoSmall }

/-- 'laws.FnExactKindSafe', WHERE WHAT IT READS IS OF BULK AT MOST 1048576: true; the input reads as it did. -/
def fnExactKindSafeUptoRow : OpenClaim := { program := "ythkdkefkgmmoiaadoor", sum := "8ae5958056ffcb9184b6eb1a22acb29065cbcc0b0c1763ee4a371bbc9aff2da7", func := "loop.example/heirlooms/laws.FnExactKindSafe", spec := "fnExactKindSafe", named := ["loop.example/heirlooms/impl.insRows"], apart := false, laid := [("loop.example/heirlooms/impl.insRows", laid_loop_example_heirlooms_impl_insRows)], narrowed := true }
def FnExactKindSafeUptoSaid : Prop := fnExactKindSafeUptoRow.holds Tryd.pinned (OpenSpec.upto fnExactKindSafeSpec)

end Rows
end Go.Proofs.YthkdkefkgmmoiaaDoor
