/-
  No cell of these rows narrows 'for every input' (looked for: loops, veiled, ifaces, maps, wideKeys, modest, calm, conditions, laid).
  DERIVED. THE GIVEN ROWS OF THIS SEAT. 5 by the template 'for every input the law returns true; each argument reads behind the call as it read before'; 0 by the template 'total and deterministic' (their statements: YtehbefhpijifjaaTotals.lean).
  GIVEN WITH THE SEED: the statements are not yours to turn. If you find one false, say at which input.
  Laid BY PROGRAM, IN A SANDBOX (cutbox-rows.mjs): the forced cells as the released guide's own fill.sh prints them over the translation 9ab97f8e6d82bfda… (all of the seat's roots in one cut). By AI agents, Wed Nov 11 2026. No macro, syntax, notation, axiom, sorry.
-/
import Derived.Test.YtehbefhpijifjaaChecked
import GoSem.Claim
import GoSem.ClaimJoined
import GoSem.ClaimMapViews
import Derived.JoinedTies
import Derived.KernelRfl
namespace Go.Proofs.Ytehbefhpijifjaa
/- THE CELL 'sum', in the pinned program and in every row, IS THE sha256 OF THE DUMP (.gsa) THAT YtehbefhpijifjaaProg.lean LOADS. Nothing in Lean hashes anything: it is a label: what it is worth is what the hold of that sum in a sandbox is worth. -/
noncomputable def Try.pinned : Pinned := { name := "ytehbefhpijifjaa", sum := "9ab97f8e6d82bfda0e026036bb5e62e89babf1f75580dc4fd4d7b33ea2788f51", checked := Try.checked }
namespace Rows
def none {H : Type} : Left H := { results := [], args := [] }

/-- 'cutoverlaw9.ItemsKnown': WHATEVER THE INPUT: true; the input reads as it did. -/
def itemsKnownSpec : ChangeSpec := { name := "itemsKnown", fn := fun _ => fun
  | [] => { results := [.lit (.bool true)], args := [] }
  | _ => none }
def itemsKnownRow : OpenClaim := { program := "ytehbefhpijifjaa", sum := "9ab97f8e6d82bfda0e026036bb5e62e89babf1f75580dc4fd4d7b33ea2788f51", func := "cutover/cutoverlaw9.ItemsKnown", spec := "itemsKnown", apart := false }
def ItemsKnownSaid : Prop := itemsKnownRow.holds Try.pinned (OpenSpec.ofChange itemsKnownSpec)

/-- ITS FALSE NEIGHBOUR: 'it returns false'. Refute it at one input. -/
def itemsKnownWrong : ChangeSpec := { name := "itemsKnown", fn := fun _ => fun
  | [] => { results := [.lit (.bool false)], args := [] }
  | _ => none }
def ItemsKnownWrongFalsely : Prop := itemsKnownRow.holds Try.pinned (OpenSpec.ofChange itemsKnownWrong)

/-- 'cutoverlaw9.ItemsMeet': WHATEVER THE INPUT: true; the input reads as it did. -/
def itemsMeetSpec : ChangeSpec := { name := "itemsMeet", fn := fun _ => fun
  | [d1, d2, d3, d4] => { results := [.lit (.bool true)], args := [d1, d2, d3, d4] }
  | _ => none }
def itemsMeetRow : OpenClaim := { program := "ytehbefhpijifjaa", sum := "9ab97f8e6d82bfda0e026036bb5e62e89babf1f75580dc4fd4d7b33ea2788f51", func := "cutover/cutoverlaw9.ItemsMeet", spec := "itemsMeet", apart := false }
def ItemsMeetSaid : Prop := itemsMeetRow.holds Try.pinned (OpenSpec.ofChange itemsMeetSpec)

/-- ITS FALSE NEIGHBOUR: 'it returns false'. Refute it at one input. -/
def itemsMeetWrong : ChangeSpec := { name := "itemsMeet", fn := fun _ => fun
  | [d1, d2, d3, d4] => { results := [.lit (.bool false)], args := [d1, d2, d3, d4] }
  | _ => none }
def ItemsMeetWrongFalsely : Prop := itemsMeetRow.holds Try.pinned (OpenSpec.ofChange itemsMeetWrong)

/-- 'cutoverlaw9.ItemsOf': WHATEVER THE INPUT: true; the input reads as it did. -/
def itemsOfSpec : ChangeSpec := { name := "itemsOf", fn := fun _ => fun
  | [d1, d2] => { results := [.lit (.bool true)], args := [d1, d2] }
  | _ => none }
def itemsOfRow : OpenClaim := { program := "ytehbefhpijifjaa", sum := "9ab97f8e6d82bfda0e026036bb5e62e89babf1f75580dc4fd4d7b33ea2788f51", func := "cutover/cutoverlaw9.ItemsOf", spec := "itemsOf", apart := false }
def ItemsOfSaid : Prop := itemsOfRow.holds Try.pinned (OpenSpec.ofChange itemsOfSpec)

/-- ITS FALSE NEIGHBOUR: 'it returns false'. Refute it at one input. -/
def itemsOfWrong : ChangeSpec := { name := "itemsOf", fn := fun _ => fun
  | [d1, d2] => { results := [.lit (.bool false)], args := [d1, d2] }
  | _ => none }
def ItemsOfWrongFalsely : Prop := itemsOfRow.holds Try.pinned (OpenSpec.ofChange itemsOfWrong)

/-- 'cutoverlaw9.ItemsGrow': WHATEVER THE INPUT: true; the input reads as it did. -/
def itemsGrowSpec : ChangeSpec := { name := "itemsGrow", fn := fun _ => fun
  | [d1, d2] => { results := [.lit (.bool true)], args := [d1, d2] }
  | _ => none }
def itemsGrowRow : OpenClaim := { program := "ytehbefhpijifjaa", sum := "9ab97f8e6d82bfda0e026036bb5e62e89babf1f75580dc4fd4d7b33ea2788f51", func := "cutover/cutoverlaw9.ItemsGrow", spec := "itemsGrow", apart := false }
def ItemsGrowSaid : Prop := itemsGrowRow.holds Try.pinned (OpenSpec.ofChange itemsGrowSpec)

/-- ITS FALSE NEIGHBOUR: 'it returns false'. Refute it at one input. -/
def itemsGrowWrong : ChangeSpec := { name := "itemsGrow", fn := fun _ => fun
  | [d1, d2] => { results := [.lit (.bool false)], args := [d1, d2] }
  | _ => none }
def ItemsGrowWrongFalsely : Prop := itemsGrowRow.holds Try.pinned (OpenSpec.ofChange itemsGrowWrong)

/-- 'cutoverlaw9.ItemsCommon': WHATEVER THE INPUT: true; the input reads as it did. -/
def itemsCommonSpec : ChangeSpec := { name := "itemsCommon", fn := fun _ => fun
  | [d1, d2, d3] => { results := [.lit (.bool true)], args := [d1, d2, d3] }
  | _ => none }
def itemsCommonRow : OpenClaim := { program := "ytehbefhpijifjaa", sum := "9ab97f8e6d82bfda0e026036bb5e62e89babf1f75580dc4fd4d7b33ea2788f51", func := "cutover/cutoverlaw9.ItemsCommon", spec := "itemsCommon", apart := false }
def ItemsCommonSaid : Prop := itemsCommonRow.holds Try.pinned (OpenSpec.ofChange itemsCommonSpec)

/-- ITS FALSE NEIGHBOUR: 'it returns false'. Refute it at one input. -/
def itemsCommonWrong : ChangeSpec := { name := "itemsCommon", fn := fun _ => fun
  | [d1, d2, d3] => { results := [.lit (.bool false)], args := [d1, d2, d3] }
  | _ => none }
def ItemsCommonWrongFalsely : Prop := itemsCommonRow.holds Try.pinned (OpenSpec.ofChange itemsCommonWrong)

/- THE SECOND FORM. 'bulk': how many values and letters a reading holds, each counted each time it is reached (what is shared counts as often as it is met; a slice's spare places count too). A statement '..UptoSaid' is the law's where the arguments, and the package variables that the reading takes, are together of bulk at most 1048576: NARROWER than '..Said'. Prove '..Said' where nothing that the law and all that it calls make is longer than what came in: it says more and counts as full. Else prove '..UptoSaid'. A law counts once. -/
mutual
def uptoBulk {H : Type} : DataW H → Nat
  | .lit (.string bytes) => bytes.length + 1
  | .lit _ => 1
  | .nil => 1
  | .ptr d => uptoBulk d + 1
  | .slice elems spare => uptoBulkAll elems + uptoBulkAll spare + 1
  | .agg parts => uptoBulkAll parts + 1
  | .iface _ d => uptoBulk d + 1
  | .map entries => uptoBulkEntries entries + 1
  | .held _ => 1
def uptoBulkAll {H : Type} : List (DataW H) → Nat
  | [] => 0
  | d :: r => uptoBulk d + uptoBulkAll r
def uptoBulkEntries {H : Type} : List (Lit × DataW H) → Nat
  | [] => 0
  | x :: r => uptoBulkEntry x + uptoBulkEntries r
def uptoBulkEntry {H : Type} : Lit × DataW H → Nat
  | (.string bytes, d) => bytes.length + uptoBulk d + 1
  | (_, d) => uptoBulk d + 1
 end
def uptoSmall : (H : Type) → List (DataW H) → Bool := fun _ ds => decide (uptoBulkAll ds ≤ 1048576)
def OpenSpec.upto (s : _root_.Go.ChangeSpec) : _root_.Go.OpenSpec := { _root_.Go.OpenSpec.ofChange s with cond := some uptoSmall }

/-- 'cutoverlaw9.ItemsKnown', WHERE WHAT IT READS IS OF BULK AT MOST 1048576: true; the input reads as it did. -/
def itemsKnownUptoRow : OpenClaim := { program := "ytehbefhpijifjaa", sum := "9ab97f8e6d82bfda0e026036bb5e62e89babf1f75580dc4fd4d7b33ea2788f51", func := "cutover/cutoverlaw9.ItemsKnown", spec := "itemsKnown", apart := false, narrowed := true }
def ItemsKnownUptoSaid : Prop := itemsKnownUptoRow.holds Try.pinned (OpenSpec.upto itemsKnownSpec)

/-- 'cutoverlaw9.ItemsMeet', WHERE WHAT IT READS IS OF BULK AT MOST 1048576: true; the input reads as it did. -/
def itemsMeetUptoRow : OpenClaim := { program := "ytehbefhpijifjaa", sum := "9ab97f8e6d82bfda0e026036bb5e62e89babf1f75580dc4fd4d7b33ea2788f51", func := "cutover/cutoverlaw9.ItemsMeet", spec := "itemsMeet", apart := false, narrowed := true }
def ItemsMeetUptoSaid : Prop := itemsMeetUptoRow.holds Try.pinned (OpenSpec.upto itemsMeetSpec)

/-- 'cutoverlaw9.ItemsOf', WHERE WHAT IT READS IS OF BULK AT MOST 1048576: true; the input reads as it did. -/
def itemsOfUptoRow : OpenClaim := { program := "ytehbefhpijifjaa", sum := "9ab97f8e6d82bfda0e026036bb5e62e89babf1f75580dc4fd4d7b33ea2788f51", func := "cutover/cutoverlaw9.ItemsOf", spec := "itemsOf", apart := false, narrowed := true }
def ItemsOfUptoSaid : Prop := itemsOfUptoRow.holds Try.pinned (OpenSpec.upto itemsOfSpec)

/-- 'cutoverlaw9.ItemsGrow', WHERE WHAT IT READS IS OF BULK AT MOST 1048576: true; the input reads as it did. -/
def itemsGrowUptoRow : OpenClaim := { program := "ytehbefhpijifjaa", sum := "9ab97f8e6d82bfda0e026036bb5e62e89babf1f75580dc4fd4d7b33ea2788f51", func := "cutover/cutoverlaw9.ItemsGrow", spec := "itemsGrow", apart := false, narrowed := true }
def ItemsGrowUptoSaid : Prop := itemsGrowUptoRow.holds Try.pinned (OpenSpec.upto itemsGrowSpec)

/-- 'cutoverlaw9.ItemsCommon', WHERE WHAT IT READS IS OF BULK AT MOST 1048576: true; the input reads as it did. -/
def itemsCommonUptoRow : OpenClaim := { program := "ytehbefhpijifjaa", sum := "9ab97f8e6d82bfda0e026036bb5e62e89babf1f75580dc4fd4d7b33ea2788f51", func := "cutover/cutoverlaw9.ItemsCommon", spec := "itemsCommon", apart := false, narrowed := true }
def ItemsCommonUptoSaid : Prop := itemsCommonUptoRow.holds Try.pinned (OpenSpec.upto itemsCommonSpec)

end Rows
end Go.Proofs.Ytehbefhpijifjaa
