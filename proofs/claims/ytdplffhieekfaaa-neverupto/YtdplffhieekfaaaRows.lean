/-
  No cell of these rows narrows 'for every input' (looked for: loops, veiled, ifaces, maps, wideKeys, modest, calm, conditions, laid).
  DERIVED. THE GIVEN ROWS OF THIS SEAT. 6 by the template 'for every input the law returns true; each argument reads behind the call as it read before'; 0 by the template 'total and deterministic' (their statements: YtdplffhieekfaaaTotals.lean).
  GIVEN WITH THE SEED: the statements are not yours to turn. If you find one false, say at which input.
  Laid BY PROGRAM, IN A SANDBOX (cutbox-rows.mjs): the forced cells as the released guide's own fill.sh prints them over the translation b6a3046a9d68a981… (all of the seat's roots in one cut). By AI agents, Wed Nov 11 2026. No macro, syntax, notation, axiom, sorry.
-/
import Derived.Test.YtdplffhieekfaaaChecked
import GoSem.Claim
import GoSem.ClaimJoined
import GoSem.ClaimMapViews
import Derived.JoinedTies
import Derived.KernelRfl
namespace Go.Proofs.Ytdplffhieekfaaa
/- THE CELL 'sum', in the pinned program and in every row, IS THE sha256 OF THE DUMP (.gsa) THAT YtdplffhieekfaaaProg.lean LOADS. Nothing in Lean hashes anything: it is a label: what it is worth is what the hold of that sum in a sandbox is worth. -/
noncomputable def Try.pinned : Pinned := { name := "ytdplffhieekfaaa", sum := "b6a3046a9d68a9811e13804403bfcc125ad53d731c51a5081eb8a4c5d1d4fa64", checked := Try.checked }
namespace Rows
def none {H : Type} : Left H := { results := [], args := [] }

/-- 'stampskeep.Taken': WHATEVER THE INPUT: true; the input reads as it did. -/
def takenSpec : ChangeSpec := { name := "taken", fn := fun _ => fun
  | [d1, d2, d3] => { results := [.lit (.bool true)], args := [d1, d2, d3] }
  | _ => none }
def takenRow : OpenClaim := { program := "ytdplffhieekfaaa", sum := "b6a3046a9d68a9811e13804403bfcc125ad53d731c51a5081eb8a4c5d1d4fa64", func := "stamps/stampskeep.Taken", spec := "taken", inPlace := ["sync/atomic.AddInt64"], apart := false }
def TakenSaid : Prop := takenRow.holds Try.pinned (OpenSpec.ofChange takenSpec)

/-- ITS FALSE NEIGHBOUR: 'it returns false'. Refute it at one input. -/
def takenWrong : ChangeSpec := { name := "taken", fn := fun _ => fun
  | [d1, d2, d3] => { results := [.lit (.bool false)], args := [d1, d2, d3] }
  | _ => none }
def TakenWrongFalsely : Prop := takenRow.holds Try.pinned (OpenSpec.ofChange takenWrong)

/-- 'stampskeep.Near': WHATEVER THE INPUT: true; the input reads as it did. -/
def nearSpec : ChangeSpec := { name := "near", fn := fun _ => fun
  | [d1, d2, d3] => { results := [.lit (.bool true)], args := [d1, d2, d3] }
  | _ => none }
def nearRow : OpenClaim := { program := "ytdplffhieekfaaa", sum := "b6a3046a9d68a9811e13804403bfcc125ad53d731c51a5081eb8a4c5d1d4fa64", func := "stamps/stampskeep.Near", spec := "near", inPlace := ["sync/atomic.AddInt64", "sync/atomic.LoadInt64"], apart := false }
def NearSaid : Prop := nearRow.holds Try.pinned (OpenSpec.ofChange nearSpec)

/-- ITS FALSE NEIGHBOUR: 'it returns false'. Refute it at one input. -/
def nearWrong : ChangeSpec := { name := "near", fn := fun _ => fun
  | [d1, d2, d3] => { results := [.lit (.bool false)], args := [d1, d2, d3] }
  | _ => none }
def NearWrongFalsely : Prop := nearRow.holds Try.pinned (OpenSpec.ofChange nearWrong)

/-- 'stampskeep.Filled': WHATEVER THE INPUT: true; the input reads as it did. -/
def filledSpec : ChangeSpec := { name := "filled", fn := fun _ => fun
  | [d1, d2, d3] => { results := [.lit (.bool true)], args := [d1, d2, d3] }
  | _ => none }
def filledRow : OpenClaim := { program := "ytdplffhieekfaaa", sum := "b6a3046a9d68a9811e13804403bfcc125ad53d731c51a5081eb8a4c5d1d4fa64", func := "stamps/stampskeep.Filled", spec := "filled", inPlace := ["sync/atomic.AddInt64"], apart := false }
def FilledSaid : Prop := filledRow.holds Try.pinned (OpenSpec.ofChange filledSpec)

/-- ITS FALSE NEIGHBOUR: 'it returns false'. Refute it at one input. -/
def filledWrong : ChangeSpec := { name := "filled", fn := fun _ => fun
  | [d1, d2, d3] => { results := [.lit (.bool false)], args := [d1, d2, d3] }
  | _ => none }
def FilledWrongFalsely : Prop := filledRow.holds Try.pinned (OpenSpec.ofChange filledWrong)

/-- 'stampskeep.Never': WHATEVER THE INPUT: true; the input reads as it did. -/
def neverSpec : ChangeSpec := { name := "never", fn := fun _ => fun
  | [d1, d2, d3] => { results := [.lit (.bool true)], args := [d1, d2, d3] }
  | _ => none }
def neverRow : OpenClaim := { program := "ytdplffhieekfaaa", sum := "b6a3046a9d68a9811e13804403bfcc125ad53d731c51a5081eb8a4c5d1d4fa64", func := "stamps/stampskeep.Never", spec := "never", inPlace := ["sync/atomic.AddInt64", "internal/bytealg.IndexByteString"], apart := false }
def NeverSaid : Prop := neverRow.holds Try.pinned (OpenSpec.ofChange neverSpec)

/-- ITS FALSE NEIGHBOUR: 'it returns false'. Refute it at one input. -/
def neverWrong : ChangeSpec := { name := "never", fn := fun _ => fun
  | [d1, d2, d3] => { results := [.lit (.bool false)], args := [d1, d2, d3] }
  | _ => none }
def NeverWrongFalsely : Prop := neverRow.holds Try.pinned (OpenSpec.ofChange neverWrong)

/-- 'stampskeep.Lent': WHATEVER THE INPUT: true; the input reads as it did. -/
def lentSpec : ChangeSpec := { name := "lent", fn := fun _ => fun
  | [d1, d2, d3, d4] => { results := [.lit (.bool true)], args := [d1, d2, d3, d4] }
  | _ => none }
def lentRow : OpenClaim := { program := "ytdplffhieekfaaa", sum := "b6a3046a9d68a9811e13804403bfcc125ad53d731c51a5081eb8a4c5d1d4fa64", func := "stamps/stampskeep.Lent", spec := "lent", inPlace := ["sync/atomic.AddInt64", "internal/bytealg.IndexByteString"], apart := false }
def LentSaid : Prop := lentRow.holds Try.pinned (OpenSpec.ofChange lentSpec)

/-- ITS FALSE NEIGHBOUR: 'it returns false'. Refute it at one input. -/
def lentWrong : ChangeSpec := { name := "lent", fn := fun _ => fun
  | [d1, d2, d3, d4] => { results := [.lit (.bool false)], args := [d1, d2, d3, d4] }
  | _ => none }
def LentWrongFalsely : Prop := lentRow.holds Try.pinned (OpenSpec.ofChange lentWrong)

/-- 'stampskeep.Any': WHATEVER THE INPUT: true; the input reads as it did. -/
def anySpec : ChangeSpec := { name := "any", fn := fun _ => fun
  | [d1, d2] => { results := [.lit (.bool true)], args := [d1, d2] }
  | _ => none }
def anyRow : OpenClaim := { program := "ytdplffhieekfaaa", sum := "b6a3046a9d68a9811e13804403bfcc125ad53d731c51a5081eb8a4c5d1d4fa64", func := "stamps/stampskeep.Any", spec := "any", inPlace := ["sync/atomic.AddInt64", "internal/bytealg.IndexByteString"], apart := false }
def AnySaid : Prop := anyRow.holds Try.pinned (OpenSpec.ofChange anySpec)

/-- ITS FALSE NEIGHBOUR: 'it returns false'. Refute it at one input. -/
def anyWrong : ChangeSpec := { name := "any", fn := fun _ => fun
  | [d1, d2] => { results := [.lit (.bool false)], args := [d1, d2] }
  | _ => none }
def AnyWrongFalsely : Prop := anyRow.holds Try.pinned (OpenSpec.ofChange anyWrong)

/- THE SECOND FORM. 'bulk': how many values and letters a reading holds, each counted each time it is reached (what is shared counts as often as it is met; a slice's spare places count too). A statement '..UptoSaid' is the law's where the arguments, and the package variables that the reading takes, are together of bulk at most 1048576: NARROWER than '..Said'. Prove '..Said' where nothing that the law and all that it calls make is longer than what came in: it says more and counts as full. Else prove '..UptoSaid'. A law counts once. -/
mutual
def uptoBulk {H : Type} : DataW H → Nat
  | .lit (.string bytes) => bytes.length + 1
  | .lit _ => 1
  | .nil => 1
  | .ptr d => uptoBulk d + 1
  | .slice elems spare => uptoBulkAll elems + uptoBulkAll spare + 1
  | .agg parts => uptoBulkAll parts + 1
  | .iface _ d => uptoBulk d + 1
  | .map entries => uptoBulkEntries entries + 1
  | .held _ => 1
def uptoBulkAll {H : Type} : List (DataW H) → Nat
  | [] => 0
  | d :: r => uptoBulk d + uptoBulkAll r
def uptoBulkEntries {H : Type} : List (Lit × DataW H) → Nat
  | [] => 0
  | x :: r => uptoBulkEntry x + uptoBulkEntries r
def uptoBulkEntry {H : Type} : Lit × DataW H → Nat
  | (.string bytes, d) => bytes.length + uptoBulk d + 1
  | (_, d) => uptoBulk d + 1
 end
def uptoSmall : (H : Type) → List (DataW H) → Bool := fun _ ds => decide (uptoBulkAll ds ≤ 1048576)
def OpenSpec.upto (s : _root_.Go.ChangeSpec) : _root_.Go.OpenSpec := { _root_.Go.OpenSpec.ofChange s with cond := some uptoSmall }

/-- 'stampskeep.Taken', WHERE WHAT IT READS IS OF BULK AT MOST 1048576: true; the input reads as it did. -/
def takenUptoRow : OpenClaim := { program := "ytdplffhieekfaaa", sum := "b6a3046a9d68a9811e13804403bfcc125ad53d731c51a5081eb8a4c5d1d4fa64", func := "stamps/stampskeep.Taken", spec := "taken", inPlace := ["sync/atomic.AddInt64"], apart := false, narrowed := true }
def TakenUptoSaid : Prop := takenUptoRow.holds Try.pinned (OpenSpec.upto takenSpec)

/-- 'stampskeep.Near', WHERE WHAT IT READS IS OF BULK AT MOST 1048576: true; the input reads as it did. -/
def nearUptoRow : OpenClaim := { program := "ytdplffhieekfaaa", sum := "b6a3046a9d68a9811e13804403bfcc125ad53d731c51a5081eb8a4c5d1d4fa64", func := "stamps/stampskeep.Near", spec := "near", inPlace := ["sync/atomic.AddInt64", "sync/atomic.LoadInt64"], apart := false, narrowed := true }
def NearUptoSaid : Prop := nearUptoRow.holds Try.pinned (OpenSpec.upto nearSpec)

/-- 'stampskeep.Filled', WHERE WHAT IT READS IS OF BULK AT MOST 1048576: true; the input reads as it did. -/
def filledUptoRow : OpenClaim := { program := "ytdplffhieekfaaa", sum := "b6a3046a9d68a9811e13804403bfcc125ad53d731c51a5081eb8a4c5d1d4fa64", func := "stamps/stampskeep.Filled", spec := "filled", inPlace := ["sync/atomic.AddInt64"], apart := false, narrowed := true }
def FilledUptoSaid : Prop := filledUptoRow.holds Try.pinned (OpenSpec.upto filledSpec)

/-- 'stampskeep.Never', WHERE WHAT IT READS IS OF BULK AT MOST 1048576: true; the input reads as it did. -/
def neverUptoRow : OpenClaim := { program := "ytdplffhieekfaaa", sum := "b6a3046a9d68a9811e13804403bfcc125ad53d731c51a5081eb8a4c5d1d4fa64", func := "stamps/stampskeep.Never", spec := "never", inPlace := ["sync/atomic.AddInt64", "internal/bytealg.IndexByteString"], apart := false, narrowed := true }
def NeverUptoSaid : Prop := neverUptoRow.holds Try.pinned (OpenSpec.upto neverSpec)

/-- 'stampskeep.Lent', WHERE WHAT IT READS IS OF BULK AT MOST 1048576: true; the input reads as it did. -/
def lentUptoRow : OpenClaim := { program := "ytdplffhieekfaaa", sum := "b6a3046a9d68a9811e13804403bfcc125ad53d731c51a5081eb8a4c5d1d4fa64", func := "stamps/stampskeep.Lent", spec := "lent", inPlace := ["sync/atomic.AddInt64", "internal/bytealg.IndexByteString"], apart := false, narrowed := true }
def LentUptoSaid : Prop := lentUptoRow.holds Try.pinned (OpenSpec.upto lentSpec)

/-- 'stampskeep.Any', WHERE WHAT IT READS IS OF BULK AT MOST 1048576: true; the input reads as it did. -/
def anyUptoRow : OpenClaim := { program := "ytdplffhieekfaaa", sum := "b6a3046a9d68a9811e13804403bfcc125ad53d731c51a5081eb8a4c5d1d4fa64", func := "stamps/stampskeep.Any", spec := "any", inPlace := ["sync/atomic.AddInt64", "internal/bytealg.IndexByteString"], apart := false, narrowed := true }
def AnyUptoSaid : Prop := anyUptoRow.holds Try.pinned (OpenSpec.upto anySpec)

end Rows
end Go.Proofs.Ytdplffhieekfaaa
