/-
  No cell of these rows narrows 'for every input' (looked for: loops, veiled, ifaces, maps, wideKeys, modest, calm, conditions, laid).
  DERIVED. THE GIVEN ROWS OF THIS SEAT. 4 by the template 'for every input the law returns true; each argument reads behind the call as it read before'; 0 by the template 'total and deterministic' (their statements: YtcpapdpnnlnemaaTotals.lean).
  GIVEN WITH THE SEED: the statements are not yours to turn. If you find one false, say at which input.
  Laid BY PROGRAM, IN A SANDBOX (cutbox-rows.mjs): the forced cells as the released guide's own fill.sh prints them over the translation 1f1e096071693fd1… (all of the seat's roots in one cut). By AI agents, Wed Nov 11 2026. No macro, syntax, notation, axiom, sorry.
-/
import Derived.Test.YtcpapdpnnlnemaaChecked
import GoSem.Claim
import GoSem.ClaimJoined
import GoSem.ClaimMapViews
import Derived.JoinedTies
import Derived.KernelRfl
namespace Go.Proofs.Ytcpapdpnnlnemaa
/- THE CELL 'sum', in the pinned program and in every row, IS THE sha256 OF THE DUMP (.gsa) THAT YtcpapdpnnlnemaaProg.lean LOADS. Nothing in Lean hashes anything: it is a label: what it is worth is what the hold of that sum in a sandbox is worth. -/
noncomputable def Try.pinned : Pinned := { name := "ytcpapdpnnlnemaa", sum := "1f1e096071693fd1b751f2228c9b5db0b74a44b0bbd8d2d0eea2e377646f9ac8", checked := Try.checked }
namespace Rows
def none {H : Type} : Left H := { results := [], args := [] }

/-- 'gabletlaw08.ShadowPlays': WHATEVER THE INPUT: true; the input reads as it did. -/
def shadowPlaysSpec : ChangeSpec := { name := "shadowPlays", fn := fun _ => fun
  | [d1, d2] => { results := [.lit (.bool true)], args := [d1, d2] }
  | _ => none }
def shadowPlaysRow : OpenClaim := { program := "ytcpapdpnnlnemaa", sum := "1f1e096071693fd1b751f2228c9b5db0b74a44b0bbd8d2d0eea2e377646f9ac8", func := "gablet/gabletlaw08.ShadowPlays", spec := "shadowPlays", unfollowed := true, recurses := true, apart := false }
def ShadowPlaysSaid : Prop := shadowPlaysRow.holds Try.pinned (OpenSpec.ofChange shadowPlaysSpec)

/-- ITS FALSE NEIGHBOUR: 'it returns false'. Refute it at one input. -/
def shadowPlaysWrong : ChangeSpec := { name := "shadowPlays", fn := fun _ => fun
  | [d1, d2] => { results := [.lit (.bool false)], args := [d1, d2] }
  | _ => none }
def ShadowPlaysWrongFalsely : Prop := shadowPlaysRow.holds Try.pinned (OpenSpec.ofChange shadowPlaysWrong)

/-- 'gabletlaw08.ShadowKeeps': WHATEVER THE INPUT: true; the input reads as it did. -/
def shadowKeepsSpec : ChangeSpec := { name := "shadowKeeps", fn := fun _ => fun
  | [d1, d2] => { results := [.lit (.bool true)], args := [d1, d2] }
  | _ => none }
def shadowKeepsRow : OpenClaim := { program := "ytcpapdpnnlnemaa", sum := "1f1e096071693fd1b751f2228c9b5db0b74a44b0bbd8d2d0eea2e377646f9ac8", func := "gablet/gabletlaw08.ShadowKeeps", spec := "shadowKeeps", unfollowed := true, recurses := true, apart := false }
def ShadowKeepsSaid : Prop := shadowKeepsRow.holds Try.pinned (OpenSpec.ofChange shadowKeepsSpec)

/-- ITS FALSE NEIGHBOUR: 'it returns false'. Refute it at one input. -/
def shadowKeepsWrong : ChangeSpec := { name := "shadowKeeps", fn := fun _ => fun
  | [d1, d2] => { results := [.lit (.bool false)], args := [d1, d2] }
  | _ => none }
def ShadowKeepsWrongFalsely : Prop := shadowKeepsRow.holds Try.pinned (OpenSpec.ofChange shadowKeepsWrong)

/-- 'gabletlaw08.ShadowSpoilt': WHATEVER THE INPUT: true; the input reads as it did. -/
def shadowSpoiltSpec : ChangeSpec := { name := "shadowSpoilt", fn := fun _ => fun
  | [d1, d2, d3, d4, d5, d6] => { results := [.lit (.bool true)], args := [d1, d2, d3, d4, d5, d6] }
  | _ => none }
def shadowSpoiltRow : OpenClaim := { program := "ytcpapdpnnlnemaa", sum := "1f1e096071693fd1b751f2228c9b5db0b74a44b0bbd8d2d0eea2e377646f9ac8", func := "gablet/gabletlaw08.ShadowSpoilt", spec := "shadowSpoilt", unfollowed := true, recurses := true, apart := false }
def ShadowSpoiltSaid : Prop := shadowSpoiltRow.holds Try.pinned (OpenSpec.ofChange shadowSpoiltSpec)

/-- ITS FALSE NEIGHBOUR: 'it returns false'. Refute it at one input. -/
def shadowSpoiltWrong : ChangeSpec := { name := "shadowSpoilt", fn := fun _ => fun
  | [d1, d2, d3, d4, d5, d6] => { results := [.lit (.bool false)], args := [d1, d2, d3, d4, d5, d6] }
  | _ => none }
def ShadowSpoiltWrongFalsely : Prop := shadowSpoiltRow.holds Try.pinned (OpenSpec.ofChange shadowSpoiltWrong)

/-- 'gabletlaw08.ShadowNil': WHATEVER THE INPUT: true; the input reads as it did. -/
def shadowNilSpec : ChangeSpec := { name := "shadowNil", fn := fun _ => fun
  | [d1, d2] => { results := [.lit (.bool true)], args := [d1, d2] }
  | _ => none }
def shadowNilRow : OpenClaim := { program := "ytcpapdpnnlnemaa", sum := "1f1e096071693fd1b751f2228c9b5db0b74a44b0bbd8d2d0eea2e377646f9ac8", func := "gablet/gabletlaw08.ShadowNil", spec := "shadowNil", unfollowed := true, recurses := true, apart := false }
def ShadowNilSaid : Prop := shadowNilRow.holds Try.pinned (OpenSpec.ofChange shadowNilSpec)

/-- ITS FALSE NEIGHBOUR: 'it returns false'. Refute it at one input. -/
def shadowNilWrong : ChangeSpec := { name := "shadowNil", fn := fun _ => fun
  | [d1, d2] => { results := [.lit (.bool false)], args := [d1, d2] }
  | _ => none }
def ShadowNilWrongFalsely : Prop := shadowNilRow.holds Try.pinned (OpenSpec.ofChange shadowNilWrong)

/- THE SECOND FORM. 'bulk': how many values and letters a reading holds, each counted each time it is reached (what is shared counts as often as it is met; a slice's spare places count too). A statement '..UptoSaid' is the law's where the arguments, and the package variables that the reading takes, are together of bulk at most 1048576: NARROWER than '..Said'. Prove '..Said' where nothing that the law and all that it calls make is longer than what came in: it says more and counts as full. Else prove '..UptoSaid'. A law counts once. -/
mutual
def uptoBulk {H : Type} : DataW H → Nat
  | .lit (.string bytes) => bytes.length + 1
  | .lit _ => 1
  | .nil => 1
  | .ptr d => uptoBulk d + 1
  | .slice elems spare => uptoBulkAll elems + uptoBulkAll spare + 1
  | .agg parts => uptoBulkAll parts + 1
  | .iface _ d => uptoBulk d + 1
  | .map entries => uptoBulkEntries entries + 1
  | .held _ => 1
def uptoBulkAll {H : Type} : List (DataW H) → Nat
  | [] => 0
  | d :: r => uptoBulk d + uptoBulkAll r
def uptoBulkEntries {H : Type} : List (Lit × DataW H) → Nat
  | [] => 0
  | x :: r => uptoBulkEntry x + uptoBulkEntries r
def uptoBulkEntry {H : Type} : Lit × DataW H → Nat
  | (.string bytes, d) => bytes.length + uptoBulk d + 1
  | (_, d) => uptoBulk d + 1
 end
def uptoSmall : (H : Type) → List (DataW H) → Bool := fun _ ds => decide (uptoBulkAll ds ≤ 1048576)
def OpenSpec.upto (s : _root_.Go.ChangeSpec) : _root_.Go.OpenSpec := { _root_.Go.OpenSpec.ofChange s with cond := some uptoSmall }

/-- 'gabletlaw08.ShadowPlays', WHERE WHAT IT READS IS OF BULK AT MOST 1048576: true; the input reads as it did. -/
def shadowPlaysUptoRow : OpenClaim := { program := "ytcpapdpnnlnemaa", sum := "1f1e096071693fd1b751f2228c9b5db0b74a44b0bbd8d2d0eea2e377646f9ac8", func := "gablet/gabletlaw08.ShadowPlays", spec := "shadowPlays", unfollowed := true, recurses := true, apart := false, narrowed := true }
def ShadowPlaysUptoSaid : Prop := shadowPlaysUptoRow.holds Try.pinned (OpenSpec.upto shadowPlaysSpec)

/-- 'gabletlaw08.ShadowKeeps', WHERE WHAT IT READS IS OF BULK AT MOST 1048576: true; the input reads as it did. -/
def shadowKeepsUptoRow : OpenClaim := { program := "ytcpapdpnnlnemaa", sum := "1f1e096071693fd1b751f2228c9b5db0b74a44b0bbd8d2d0eea2e377646f9ac8", func := "gablet/gabletlaw08.ShadowKeeps", spec := "shadowKeeps", unfollowed := true, recurses := true, apart := false, narrowed := true }
def ShadowKeepsUptoSaid : Prop := shadowKeepsUptoRow.holds Try.pinned (OpenSpec.upto shadowKeepsSpec)

/-- 'gabletlaw08.ShadowSpoilt', WHERE WHAT IT READS IS OF BULK AT MOST 1048576: true; the input reads as it did. -/
def shadowSpoiltUptoRow : OpenClaim := { program := "ytcpapdpnnlnemaa", sum := "1f1e096071693fd1b751f2228c9b5db0b74a44b0bbd8d2d0eea2e377646f9ac8", func := "gablet/gabletlaw08.ShadowSpoilt", spec := "shadowSpoilt", unfollowed := true, recurses := true, apart := false, narrowed := true }
def ShadowSpoiltUptoSaid : Prop := shadowSpoiltUptoRow.holds Try.pinned (OpenSpec.upto shadowSpoiltSpec)

/-- 'gabletlaw08.ShadowNil', WHERE WHAT IT READS IS OF BULK AT MOST 1048576: true; the input reads as it did. -/
def shadowNilUptoRow : OpenClaim := { program := "ytcpapdpnnlnemaa", sum := "1f1e096071693fd1b751f2228c9b5db0b74a44b0bbd8d2d0eea2e377646f9ac8", func := "gablet/gabletlaw08.ShadowNil", spec := "shadowNil", unfollowed := true, recurses := true, apart := false, narrowed := true }
def ShadowNilUptoSaid : Prop := shadowNilUptoRow.holds Try.pinned (OpenSpec.upto shadowNilSpec)

end Rows
end Go.Proofs.Ytcpapdpnnlnemaa
