/-
  No cell of these rows narrows 'for every input' (looked for: loops, veiled, ifaces, maps, wideKeys, modest, calm, conditions, laid).
  DERIVED. THE GIVEN ROWS OF THIS SEAT. 4 by the template 'for every input the law returns true; each argument reads behind the call as it read before'; 0 by the template 'total and deterministic' (their statements: YtpabkaihppnddaaTotals.lean).
  GIVEN WITH THE SEED: the statements are not yours to turn. If you find one false, say at which input.
  Laid BY PROGRAM, IN A SANDBOX (cutbox-rows.mjs): the forced cells as the released guide's own fill.sh prints them over the translation 64889bee783fd27c… (all of the seat's roots in one cut). By AI agents, Wed Nov 11 2026. No macro, syntax, notation, axiom, sorry.
-/
import Derived.Test.YtpabkaihppnddaaChecked
import GoSem.Claim
import GoSem.ClaimJoined
import GoSem.ClaimMapViews
import Derived.JoinedTies
import Derived.KernelRfl
namespace Go.Proofs.Ytpabkaihppnddaa
/- THE CELL 'sum', in the pinned program and in every row, IS THE sha256 OF THE DUMP (.gsa) THAT YtpabkaihppnddaaProg.lean LOADS. Nothing in Lean hashes anything: it is a label: what it is worth is what the hold of that sum in a sandbox is worth. -/
noncomputable def Try.pinned : Pinned := { name := "ytpabkaihppnddaa", sum := "64889bee783fd27c2a9acb84bdb054b58a5b7a8da49d522c91e963c48b41e298", checked := Try.checked }
namespace Rows
def none {H : Type} : Left H := { results := [], args := [] }

/-- 'rehearsallaw07.FramesTell': WHATEVER THE INPUT: true; the input reads as it did. -/
def framesTellSpec : ChangeSpec := { name := "framesTell", fn := fun _ => fun
  | [d1, d2, d3, d4] => { results := [.lit (.bool true)], args := [d1, d2, d3, d4] }
  | _ => none }
def framesTellRow : OpenClaim := { program := "ytpabkaihppnddaa", sum := "64889bee783fd27c2a9acb84bdb054b58a5b7a8da49d522c91e963c48b41e298", func := "rehearsal/rehearsallaw07.FramesTell", spec := "framesTell", apart := false }
def FramesTellSaid : Prop := framesTellRow.holds Try.pinned (OpenSpec.ofChange framesTellSpec)

/-- ITS FALSE NEIGHBOUR: 'it returns false'. Refute it at one input. -/
def framesTellWrong : ChangeSpec := { name := "framesTell", fn := fun _ => fun
  | [d1, d2, d3, d4] => { results := [.lit (.bool false)], args := [d1, d2, d3, d4] }
  | _ => none }
def FramesTellWrongFalsely : Prop := framesTellRow.holds Try.pinned (OpenSpec.ofChange framesTellWrong)

/-- 'rehearsallaw07.FramesHold': WHATEVER THE INPUT: true; the input reads as it did. -/
def framesHoldSpec : ChangeSpec := { name := "framesHold", fn := fun _ => fun
  | [d1, d2] => { results := [.lit (.bool true)], args := [d1, d2] }
  | _ => none }
def framesHoldRow : OpenClaim := { program := "ytpabkaihppnddaa", sum := "64889bee783fd27c2a9acb84bdb054b58a5b7a8da49d522c91e963c48b41e298", func := "rehearsal/rehearsallaw07.FramesHold", spec := "framesHold", apart := false }
def FramesHoldSaid : Prop := framesHoldRow.holds Try.pinned (OpenSpec.ofChange framesHoldSpec)

/-- ITS FALSE NEIGHBOUR: 'it returns false'. Refute it at one input. -/
def framesHoldWrong : ChangeSpec := { name := "framesHold", fn := fun _ => fun
  | [d1, d2] => { results := [.lit (.bool false)], args := [d1, d2] }
  | _ => none }
def FramesHoldWrongFalsely : Prop := framesHoldRow.holds Try.pinned (OpenSpec.ofChange framesHoldWrong)

/-- 'rehearsallaw07.FramesLeast': WHATEVER THE INPUT: true; the input reads as it did. -/
def framesLeastSpec : ChangeSpec := { name := "framesLeast", fn := fun _ => fun
  | [d1, d2] => { results := [.lit (.bool true)], args := [d1, d2] }
  | _ => none }
def framesLeastRow : OpenClaim := { program := "ytpabkaihppnddaa", sum := "64889bee783fd27c2a9acb84bdb054b58a5b7a8da49d522c91e963c48b41e298", func := "rehearsal/rehearsallaw07.FramesLeast", spec := "framesLeast", apart := false }
def FramesLeastSaid : Prop := framesLeastRow.holds Try.pinned (OpenSpec.ofChange framesLeastSpec)

/-- ITS FALSE NEIGHBOUR: 'it returns false'. Refute it at one input. -/
def framesLeastWrong : ChangeSpec := { name := "framesLeast", fn := fun _ => fun
  | [d1, d2] => { results := [.lit (.bool false)], args := [d1, d2] }
  | _ => none }
def FramesLeastWrongFalsely : Prop := framesLeastRow.holds Try.pinned (OpenSpec.ofChange framesLeastWrong)

/-- 'rehearsallaw07.FramesCopy': WHATEVER THE INPUT: true; the input reads as it did. -/
def framesCopySpec : ChangeSpec := { name := "framesCopy", fn := fun _ => fun
  | [d1, d2, d3] => { results := [.lit (.bool true)], args := [d1, d2, d3] }
  | _ => none }
def framesCopyRow : OpenClaim := { program := "ytpabkaihppnddaa", sum := "64889bee783fd27c2a9acb84bdb054b58a5b7a8da49d522c91e963c48b41e298", func := "rehearsal/rehearsallaw07.FramesCopy", spec := "framesCopy", apart := false }
def FramesCopySaid : Prop := framesCopyRow.holds Try.pinned (OpenSpec.ofChange framesCopySpec)

/-- ITS FALSE NEIGHBOUR: 'it returns false'. Refute it at one input. -/
def framesCopyWrong : ChangeSpec := { name := "framesCopy", fn := fun _ => fun
  | [d1, d2, d3] => { results := [.lit (.bool false)], args := [d1, d2, d3] }
  | _ => none }
def FramesCopyWrongFalsely : Prop := framesCopyRow.holds Try.pinned (OpenSpec.ofChange framesCopyWrong)

/- THE SECOND FORM. 'bulk': how many values and letters a reading holds, each counted each time it is reached (what is shared counts as often as it is met; a slice's spare places count too). A statement '..UptoSaid' is the law's where the arguments, and the package variables that the reading takes, are together of bulk at most 1048576: NARROWER than '..Said'. Prove '..Said' where nothing that the law and all that it calls make is longer than what came in: it says more and counts as full. Else prove '..UptoSaid'. A law counts once. -/
mutual
def uptoBulk {H : Type} : DataW H → Nat
  | .lit (.string bytes) => bytes.length + 1
  | .lit _ => 1
  | .nil => 1
  | .ptr d => uptoBulk d + 1
  | .slice elems spare => uptoBulkAll elems + uptoBulkAll spare + 1
  | .agg parts => uptoBulkAll parts + 1
  | .iface _ d => uptoBulk d + 1
  | .map entries => uptoBulkEntries entries + 1
  | .held _ => 1
def uptoBulkAll {H : Type} : List (DataW H) → Nat
  | [] => 0
  | d :: r => uptoBulk d + uptoBulkAll r
def uptoBulkEntries {H : Type} : List (Lit × DataW H) → Nat
  | [] => 0
  | x :: r => uptoBulkEntry x + uptoBulkEntries r
def uptoBulkEntry {H : Type} : Lit × DataW H → Nat
  | (.string bytes, d) => bytes.length + uptoBulk d + 1
  | (_, d) => uptoBulk d + 1
 end
def uptoSmall : (H : Type) → List (DataW H) → Bool := fun _ ds => decide (uptoBulkAll ds ≤ 1048576)
def OpenSpec.upto (s : _root_.Go.ChangeSpec) : _root_.Go.OpenSpec := { _root_.Go.OpenSpec.ofChange s with cond := some uptoSmall }

/-- 'rehearsallaw07.FramesTell', WHERE WHAT IT READS IS OF BULK AT MOST 1048576: true; the input reads as it did. -/
def framesTellUptoRow : OpenClaim := { program := "ytpabkaihppnddaa", sum := "64889bee783fd27c2a9acb84bdb054b58a5b7a8da49d522c91e963c48b41e298", func := "rehearsal/rehearsallaw07.FramesTell", spec := "framesTell", apart := false, narrowed := true }
def FramesTellUptoSaid : Prop := framesTellUptoRow.holds Try.pinned (OpenSpec.upto framesTellSpec)

/-- 'rehearsallaw07.FramesHold', WHERE WHAT IT READS IS OF BULK AT MOST 1048576: true; the input reads as it did. -/
def framesHoldUptoRow : OpenClaim := { program := "ytpabkaihppnddaa", sum := "64889bee783fd27c2a9acb84bdb054b58a5b7a8da49d522c91e963c48b41e298", func := "rehearsal/rehearsallaw07.FramesHold", spec := "framesHold", apart := false, narrowed := true }
def FramesHoldUptoSaid : Prop := framesHoldUptoRow.holds Try.pinned (OpenSpec.upto framesHoldSpec)

/-- 'rehearsallaw07.FramesLeast', WHERE WHAT IT READS IS OF BULK AT MOST 1048576: true; the input reads as it did. -/
def framesLeastUptoRow : OpenClaim := { program := "ytpabkaihppnddaa", sum := "64889bee783fd27c2a9acb84bdb054b58a5b7a8da49d522c91e963c48b41e298", func := "rehearsal/rehearsallaw07.FramesLeast", spec := "framesLeast", apart := false, narrowed := true }
def FramesLeastUptoSaid : Prop := framesLeastUptoRow.holds Try.pinned (OpenSpec.upto framesLeastSpec)

/-- 'rehearsallaw07.FramesCopy', WHERE WHAT IT READS IS OF BULK AT MOST 1048576: true; the input reads as it did. -/
def framesCopyUptoRow : OpenClaim := { program := "ytpabkaihppnddaa", sum := "64889bee783fd27c2a9acb84bdb054b58a5b7a8da49d522c91e963c48b41e298", func := "rehearsal/rehearsallaw07.FramesCopy", spec := "framesCopy", apart := false, narrowed := true }
def FramesCopyUptoSaid : Prop := framesCopyUptoRow.holds Try.pinned (OpenSpec.upto framesCopySpec)

end Rows
end Go.Proofs.Ytpabkaihppnddaa
