/-
  NARROWER THAN 'FOR EVERY INPUT', by the rows' own cells (each row's printed sentence says how): ShopFolds: loops · ShopBatches: loops · ShopSwaps: loops.
  DERIVED. THE GIVEN ROWS OF THIS SEAT. 4 by the template 'for every input the law returns true; each argument reads behind the call as it read before'; 0 by the template 'total and deterministic' (their statements: YtgnhkpihlghbmaaTotals.lean).
  GIVEN WITH THE SEED: the statements are not yours to turn. If you find one false, say at which input.
  Laid BY PROGRAM, IN A SANDBOX (cutbox-rows.mjs): the forced cells as the released guide's own fill.sh prints them over the translation 9c118e51f6772489… (all of the seat's roots in one cut). By AI agents, Wed Nov 11 2026. No macro, syntax, notation, axiom, sorry.
-/
import Derived.Test.YtgnhkpihlghbmaaChecked
import GoSem.Claim
import GoSem.ClaimJoined
import GoSem.ClaimMapViews
import Derived.JoinedTies
import Derived.KernelRfl
namespace Go.Proofs.Ytgnhkpihlghbmaa
/- THE CELL 'sum', in the pinned program and in every row, IS THE sha256 OF THE DUMP (.gsa) THAT YtgnhkpihlghbmaaProg.lean LOADS. Nothing in Lean hashes anything: it is a label: what it is worth is what the hold of that sum in a sandbox is worth. -/
noncomputable def Try.pinned : Pinned := { name := "ytgnhkpihlghbmaa", sum := "9c118e51f6772489743342425825ecd2e52160ef671a3e623512bad76be22664", checked := Try.checked }
namespace Rows
def none {H : Type} : Left H := { results := [], args := [] }

/-- 'tailracelaw12.ShopFolds': WHATEVER THE INPUT: true; the input reads as it did. -/
def shopFoldsSpec : ChangeSpec := { name := "shopFolds", fn := fun _ => fun
  | [d1, d2] => { results := [.lit (.bool true)], args := [d1, d2] }
  | _ => none }
def shopFoldsRow : OpenClaim := { program := "ytgnhkpihlghbmaa", sum := "9c118e51f6772489743342425825ecd2e52160ef671a3e623512bad76be22664", func := "tailrace/tailracelaw12.ShopFolds", spec := "shopFolds", inPlace := ["internal/bytealg.abigen_runtime_cmpstring"], unfollowed := true, recurses := true, loops := true, plainKeys := false, apart := false }
def ShopFoldsSaid : Prop := shopFoldsRow.holds Try.pinned (OpenSpec.ofChange shopFoldsSpec)

/-- ITS FALSE NEIGHBOUR: 'it returns false'. Refute it at one input. -/
def shopFoldsWrong : ChangeSpec := { name := "shopFolds", fn := fun _ => fun
  | [d1, d2] => { results := [.lit (.bool false)], args := [d1, d2] }
  | _ => none }
def ShopFoldsWrongFalsely : Prop := shopFoldsRow.holds Try.pinned (OpenSpec.ofChange shopFoldsWrong)

/-- 'tailracelaw12.ShopBatches': WHATEVER THE INPUT: true; the input reads as it did. -/
def shopBatchesSpec : ChangeSpec := { name := "shopBatches", fn := fun _ => fun
  | [d1, d2] => { results := [.lit (.bool true)], args := [d1, d2] }
  | _ => none }
def shopBatchesRow : OpenClaim := { program := "ytgnhkpihlghbmaa", sum := "9c118e51f6772489743342425825ecd2e52160ef671a3e623512bad76be22664", func := "tailrace/tailracelaw12.ShopBatches", spec := "shopBatches", inPlace := ["internal/bytealg.abigen_runtime_cmpstring"], unfollowed := true, recurses := true, loops := true, plainKeys := false, apart := false }
def ShopBatchesSaid : Prop := shopBatchesRow.holds Try.pinned (OpenSpec.ofChange shopBatchesSpec)

/-- ITS FALSE NEIGHBOUR: 'it returns false'. Refute it at one input. -/
def shopBatchesWrong : ChangeSpec := { name := "shopBatches", fn := fun _ => fun
  | [d1, d2] => { results := [.lit (.bool false)], args := [d1, d2] }
  | _ => none }
def ShopBatchesWrongFalsely : Prop := shopBatchesRow.holds Try.pinned (OpenSpec.ofChange shopBatchesWrong)

/-- 'tailracelaw12.ShopSame': WHATEVER THE INPUT: true; the input reads as it did. -/
def shopSameSpec : ChangeSpec := { name := "shopSame", fn := fun _ => fun
  | [d1, d2, d3] => { results := [.lit (.bool true)], args := [d1, d2, d3] }
  | _ => none }
def shopSameRow : OpenClaim := { program := "ytgnhkpihlghbmaa", sum := "9c118e51f6772489743342425825ecd2e52160ef671a3e623512bad76be22664", func := "tailrace/tailracelaw12.ShopSame", spec := "shopSame", inPlace := ["internal/bytealg.abigen_runtime_cmpstring"], unfollowed := true, recurses := true, plainKeys := false, apart := false }
def ShopSameSaid : Prop := shopSameRow.holds Try.pinned (OpenSpec.ofChange shopSameSpec)

/-- ITS FALSE NEIGHBOUR: 'it returns false'. Refute it at one input. -/
def shopSameWrong : ChangeSpec := { name := "shopSame", fn := fun _ => fun
  | [d1, d2, d3] => { results := [.lit (.bool false)], args := [d1, d2, d3] }
  | _ => none }
def ShopSameWrongFalsely : Prop := shopSameRow.holds Try.pinned (OpenSpec.ofChange shopSameWrong)

/-- 'tailracelaw12.ShopSwaps': WHATEVER THE INPUT: true; the input reads as it did. -/
def shopSwapsSpec : ChangeSpec := { name := "shopSwaps", fn := fun _ => fun
  | [d1, d2] => { results := [.lit (.bool true)], args := [d1, d2] }
  | _ => none }
def shopSwapsRow : OpenClaim := { program := "ytgnhkpihlghbmaa", sum := "9c118e51f6772489743342425825ecd2e52160ef671a3e623512bad76be22664", func := "tailrace/tailracelaw12.ShopSwaps", spec := "shopSwaps", inPlace := ["internal/bytealg.abigen_runtime_cmpstring"], unfollowed := true, recurses := true, loops := true, plainKeys := false, apart := false }
def ShopSwapsSaid : Prop := shopSwapsRow.holds Try.pinned (OpenSpec.ofChange shopSwapsSpec)

/-- ITS FALSE NEIGHBOUR: 'it returns false'. Refute it at one input. -/
def shopSwapsWrong : ChangeSpec := { name := "shopSwaps", fn := fun _ => fun
  | [d1, d2] => { results := [.lit (.bool false)], args := [d1, d2] }
  | _ => none }
def ShopSwapsWrongFalsely : Prop := shopSwapsRow.holds Try.pinned (OpenSpec.ofChange shopSwapsWrong)

/- THE SECOND FORM. 'bulk': how many values and letters a reading holds, each counted each time it is reached (what is shared counts as often as it is met; a slice's spare places count too). A statement '..UptoSaid' is the law's where the arguments, and the package variables that the reading takes, are together of bulk at most 1048576: NARROWER than '..Said'. Prove '..Said' where nothing that the law and all that it calls make is longer than what came in: it says more and counts as full. Else prove '..UptoSaid'. A law counts once. -/
mutual
def uptoBulk {H : Type} : DataW H → Nat
  | .lit (.string bytes) => bytes.length + 1
  | .lit _ => 1
  | .nil => 1
  | .ptr d => uptoBulk d + 1
  | .slice elems spare => uptoBulkAll elems + uptoBulkAll spare + 1
  | .agg parts => uptoBulkAll parts + 1
  | .iface _ d => uptoBulk d + 1
  | .map entries => uptoBulkEntries entries + 1
  | .held _ => 1
def uptoBulkAll {H : Type} : List (DataW H) → Nat
  | [] => 0
  | d :: r => uptoBulk d + uptoBulkAll r
def uptoBulkEntries {H : Type} : List (Lit × DataW H) → Nat
  | [] => 0
  | x :: r => uptoBulkEntry x + uptoBulkEntries r
def uptoBulkEntry {H : Type} : Lit × DataW H → Nat
  | (.string bytes, d) => bytes.length + uptoBulk d + 1
  | (_, d) => uptoBulk d + 1
 end
def uptoSmall : (H : Type) → List (DataW H) → Bool := fun _ ds => decide (uptoBulkAll ds ≤ 1048576)
def OpenSpec.upto (s : _root_.Go.ChangeSpec) : _root_.Go.OpenSpec := { _root_.Go.OpenSpec.ofChange s with cond := some uptoSmall }

/-- 'tailracelaw12.ShopFolds', WHERE WHAT IT READS IS OF BULK AT MOST 1048576: true; the input reads as it did. -/
def shopFoldsUptoRow : OpenClaim := { program := "ytgnhkpihlghbmaa", sum := "9c118e51f6772489743342425825ecd2e52160ef671a3e623512bad76be22664", func := "tailrace/tailracelaw12.ShopFolds", spec := "shopFolds", inPlace := ["internal/bytealg.abigen_runtime_cmpstring"], unfollowed := true, recurses := true, loops := true, plainKeys := false, apart := false, narrowed := true }
def ShopFoldsUptoSaid : Prop := shopFoldsUptoRow.holds Try.pinned (OpenSpec.upto shopFoldsSpec)

/-- 'tailracelaw12.ShopBatches', WHERE WHAT IT READS IS OF BULK AT MOST 1048576: true; the input reads as it did. -/
def shopBatchesUptoRow : OpenClaim := { program := "ytgnhkpihlghbmaa", sum := "9c118e51f6772489743342425825ecd2e52160ef671a3e623512bad76be22664", func := "tailrace/tailracelaw12.ShopBatches", spec := "shopBatches", inPlace := ["internal/bytealg.abigen_runtime_cmpstring"], unfollowed := true, recurses := true, loops := true, plainKeys := false, apart := false, narrowed := true }
def ShopBatchesUptoSaid : Prop := shopBatchesUptoRow.holds Try.pinned (OpenSpec.upto shopBatchesSpec)

/-- 'tailracelaw12.ShopSame', WHERE WHAT IT READS IS OF BULK AT MOST 1048576: true; the input reads as it did. -/
def shopSameUptoRow : OpenClaim := { program := "ytgnhkpihlghbmaa", sum := "9c118e51f6772489743342425825ecd2e52160ef671a3e623512bad76be22664", func := "tailrace/tailracelaw12.ShopSame", spec := "shopSame", inPlace := ["internal/bytealg.abigen_runtime_cmpstring"], unfollowed := true, recurses := true, plainKeys := false, apart := false, narrowed := true }
def ShopSameUptoSaid : Prop := shopSameUptoRow.holds Try.pinned (OpenSpec.upto shopSameSpec)

/-- 'tailracelaw12.ShopSwaps', WHERE WHAT IT READS IS OF BULK AT MOST 1048576: true; the input reads as it did. -/
def shopSwapsUptoRow : OpenClaim := { program := "ytgnhkpihlghbmaa", sum := "9c118e51f6772489743342425825ecd2e52160ef671a3e623512bad76be22664", func := "tailrace/tailracelaw12.ShopSwaps", spec := "shopSwaps", inPlace := ["internal/bytealg.abigen_runtime_cmpstring"], unfollowed := true, recurses := true, loops := true, plainKeys := false, apart := false, narrowed := true }
def ShopSwapsUptoSaid : Prop := shopSwapsUptoRow.holds Try.pinned (OpenSpec.upto shopSwapsSpec)

end Rows
end Go.Proofs.Ytgnhkpihlghbmaa
