/-
  No cell of these rows narrows 'for every input' (looked for: loops, veiled, ifaces, maps, wideKeys, modest, calm, conditions, laid).
  DERIVED. THE GIVEN ROWS OF THIS SEAT. 4 by the template 'for every input the law returns true; each argument reads behind the call as it read before'; 0 by the template 'total and deterministic' (their statements: YtmhngapibinmeaaTotals.lean).
  GIVEN WITH THE SEED: the statements are not yours to turn. If you find one false, say at which input.
  Laid BY PROGRAM, IN A SANDBOX (cutbox-rows.mjs): the forced cells as the released guide's own fill.sh prints them over the translation d34bd3803276a260… (all of the seat's roots in one cut). By AI agents, Wed Nov 11 2026. No macro, syntax, notation, axiom, sorry.
-/
import Derived.Test.YtmhngapibinmeaaChecked
import GoSem.Claim
import GoSem.ClaimJoined
import GoSem.ClaimMapViews
import Derived.JoinedTies
import Derived.KernelRfl
namespace Go.Proofs.Ytmhngapibinmeaa
/- THE CELL 'sum', in the pinned program and in every row, IS THE sha256 OF THE DUMP (.gsa) THAT YtmhngapibinmeaaProg.lean LOADS. Nothing in Lean hashes anything: it is a label: what it is worth is what the hold of that sum in a sandbox is worth. -/
noncomputable def Try.pinned : Pinned := { name := "ytmhngapibinmeaa", sum := "d34bd3803276a260ad875d2c40a4cc973545003fa2062572bf0f4bc514f87f78", checked := Try.checked }
namespace Rows
def none {H : Type} : Left H := { results := [], args := [] }

/-- 'cutoverlaw8.VersionKnown': WHATEVER THE INPUT: true; the input reads as it did. -/
def versionKnownSpec : ChangeSpec := { name := "versionKnown", fn := fun _ => fun
  | [] => { results := [.lit (.bool true)], args := [] }
  | _ => none }
def versionKnownRow : OpenClaim := { program := "ytmhngapibinmeaa", sum := "d34bd3803276a260ad875d2c40a4cc973545003fa2062572bf0f4bc514f87f78", func := "cutover/cutoverlaw8.VersionKnown", spec := "versionKnown", apart := false }
def VersionKnownSaid : Prop := versionKnownRow.holds Try.pinned (OpenSpec.ofChange versionKnownSpec)

/-- ITS FALSE NEIGHBOUR: 'it returns false'. Refute it at one input. -/
def versionKnownWrong : ChangeSpec := { name := "versionKnown", fn := fun _ => fun
  | [] => { results := [.lit (.bool false)], args := [] }
  | _ => none }
def VersionKnownWrongFalsely : Prop := versionKnownRow.holds Try.pinned (OpenSpec.ofChange versionKnownWrong)

/-- 'cutoverlaw8.VersionTells': WHATEVER THE INPUT: true; the input reads as it did. -/
def versionTellsSpec : ChangeSpec := { name := "versionTells", fn := fun _ => fun
  | [d1, d2, d3] => { results := [.lit (.bool true)], args := [d1, d2, d3] }
  | _ => none }
def versionTellsRow : OpenClaim := { program := "ytmhngapibinmeaa", sum := "d34bd3803276a260ad875d2c40a4cc973545003fa2062572bf0f4bc514f87f78", func := "cutover/cutoverlaw8.VersionTells", spec := "versionTells", apart := false }
def VersionTellsSaid : Prop := versionTellsRow.holds Try.pinned (OpenSpec.ofChange versionTellsSpec)

/-- ITS FALSE NEIGHBOUR: 'it returns false'. Refute it at one input. -/
def versionTellsWrong : ChangeSpec := { name := "versionTells", fn := fun _ => fun
  | [d1, d2, d3] => { results := [.lit (.bool false)], args := [d1, d2, d3] }
  | _ => none }
def VersionTellsWrongFalsely : Prop := versionTellsRow.holds Try.pinned (OpenSpec.ofChange versionTellsWrong)

/-- 'cutoverlaw8.VersionRises': WHATEVER THE INPUT: true; the input reads as it did. -/
def versionRisesSpec : ChangeSpec := { name := "versionRises", fn := fun _ => fun
  | [d1, d2, d3] => { results := [.lit (.bool true)], args := [d1, d2, d3] }
  | _ => none }
def versionRisesRow : OpenClaim := { program := "ytmhngapibinmeaa", sum := "d34bd3803276a260ad875d2c40a4cc973545003fa2062572bf0f4bc514f87f78", func := "cutover/cutoverlaw8.VersionRises", spec := "versionRises", apart := false }
def VersionRisesSaid : Prop := versionRisesRow.holds Try.pinned (OpenSpec.ofChange versionRisesSpec)

/-- ITS FALSE NEIGHBOUR: 'it returns false'. Refute it at one input. -/
def versionRisesWrong : ChangeSpec := { name := "versionRises", fn := fun _ => fun
  | [d1, d2, d3] => { results := [.lit (.bool false)], args := [d1, d2, d3] }
  | _ => none }
def VersionRisesWrongFalsely : Prop := versionRisesRow.holds Try.pinned (OpenSpec.ofChange versionRisesWrong)

/-- 'cutoverlaw8.VersionChain': WHATEVER THE INPUT: true; the input reads as it did. -/
def versionChainSpec : ChangeSpec := { name := "versionChain", fn := fun _ => fun
  | [d1, d2] => { results := [.lit (.bool true)], args := [d1, d2] }
  | _ => none }
def versionChainRow : OpenClaim := { program := "ytmhngapibinmeaa", sum := "d34bd3803276a260ad875d2c40a4cc973545003fa2062572bf0f4bc514f87f78", func := "cutover/cutoverlaw8.VersionChain", spec := "versionChain", apart := false }
def VersionChainSaid : Prop := versionChainRow.holds Try.pinned (OpenSpec.ofChange versionChainSpec)

/-- ITS FALSE NEIGHBOUR: 'it returns false'. Refute it at one input. -/
def versionChainWrong : ChangeSpec := { name := "versionChain", fn := fun _ => fun
  | [d1, d2] => { results := [.lit (.bool false)], args := [d1, d2] }
  | _ => none }
def VersionChainWrongFalsely : Prop := versionChainRow.holds Try.pinned (OpenSpec.ofChange versionChainWrong)

/- THE SECOND FORM. 'bulk': how many values and letters a reading holds, each counted each time it is reached (what is shared counts as often as it is met; a slice's spare places count too). A statement '..UptoSaid' is the law's where the arguments, and the package variables that the reading takes, are together of bulk at most 1048576: NARROWER than '..Said'. Prove '..Said' where nothing that the law and all that it calls make is longer than what came in: it says more and counts as full. Else prove '..UptoSaid'. A law counts once. -/
mutual
def uptoBulk {H : Type} : DataW H → Nat
  | .lit (.string bytes) => bytes.length + 1
  | .lit _ => 1
  | .nil => 1
  | .ptr d => uptoBulk d + 1
  | .slice elems spare => uptoBulkAll elems + uptoBulkAll spare + 1
  | .agg parts => uptoBulkAll parts + 1
  | .iface _ d => uptoBulk d + 1
  | .map entries => uptoBulkEntries entries + 1
  | .held _ => 1
def uptoBulkAll {H : Type} : List (DataW H) → Nat
  | [] => 0
  | d :: r => uptoBulk d + uptoBulkAll r
def uptoBulkEntries {H : Type} : List (Lit × DataW H) → Nat
  | [] => 0
  | x :: r => uptoBulkEntry x + uptoBulkEntries r
def uptoBulkEntry {H : Type} : Lit × DataW H → Nat
  | (.string bytes, d) => bytes.length + uptoBulk d + 1
  | (_, d) => uptoBulk d + 1
 end
def uptoSmall : (H : Type) → List (DataW H) → Bool := fun _ ds => decide (uptoBulkAll ds ≤ 1048576)
def OpenSpec.upto (s : _root_.Go.ChangeSpec) : _root_.Go.OpenSpec := { _root_.Go.OpenSpec.ofChange s with cond := some uptoSmall }

/-- 'cutoverlaw8.VersionKnown', WHERE WHAT IT READS IS OF BULK AT MOST 1048576: true; the input reads as it did. -/
def versionKnownUptoRow : OpenClaim := { program := "ytmhngapibinmeaa", sum := "d34bd3803276a260ad875d2c40a4cc973545003fa2062572bf0f4bc514f87f78", func := "cutover/cutoverlaw8.VersionKnown", spec := "versionKnown", apart := false, narrowed := true }
def VersionKnownUptoSaid : Prop := versionKnownUptoRow.holds Try.pinned (OpenSpec.upto versionKnownSpec)

/-- 'cutoverlaw8.VersionTells', WHERE WHAT IT READS IS OF BULK AT MOST 1048576: true; the input reads as it did. -/
def versionTellsUptoRow : OpenClaim := { program := "ytmhngapibinmeaa", sum := "d34bd3803276a260ad875d2c40a4cc973545003fa2062572bf0f4bc514f87f78", func := "cutover/cutoverlaw8.VersionTells", spec := "versionTells", apart := false, narrowed := true }
def VersionTellsUptoSaid : Prop := versionTellsUptoRow.holds Try.pinned (OpenSpec.upto versionTellsSpec)

/-- 'cutoverlaw8.VersionRises', WHERE WHAT IT READS IS OF BULK AT MOST 1048576: true; the input reads as it did. -/
def versionRisesUptoRow : OpenClaim := { program := "ytmhngapibinmeaa", sum := "d34bd3803276a260ad875d2c40a4cc973545003fa2062572bf0f4bc514f87f78", func := "cutover/cutoverlaw8.VersionRises", spec := "versionRises", apart := false, narrowed := true }
def VersionRisesUptoSaid : Prop := versionRisesUptoRow.holds Try.pinned (OpenSpec.upto versionRisesSpec)

/-- 'cutoverlaw8.VersionChain', WHERE WHAT IT READS IS OF BULK AT MOST 1048576: true; the input reads as it did. -/
def versionChainUptoRow : OpenClaim := { program := "ytmhngapibinmeaa", sum := "d34bd3803276a260ad875d2c40a4cc973545003fa2062572bf0f4bc514f87f78", func := "cutover/cutoverlaw8.VersionChain", spec := "versionChain", apart := false, narrowed := true }
def VersionChainUptoSaid : Prop := versionChainUptoRow.holds Try.pinned (OpenSpec.upto versionChainSpec)

end Rows
end Go.Proofs.Ytmhngapibinmeaa
