/-
  NARROWER THAN 'FOR EVERY INPUT', by the rows' own cells (each row's printed sentence says how): ChainSnaps: laid · ChainReads: laid · ChainCuts: laid · ChainNil: laid · ChainNames: laid · ChainGoes: laid.
  DERIVED. THE GIVEN ROWS OF THIS SEAT. 6 by the template 'for every input the law returns true; each argument reads behind the call as it read before'; 0 by the template 'total and deterministic' (their statements: YtmbdhngoldganaaGreatDoorTotals.lean).
  GIVEN WITH THE SEED: the statements are not yours to turn. If you find one false, say at which input.
  Laid BY PROGRAM, IN A SANDBOX (cutbox-rows.mjs): the forced cells as the released guide's own fill.sh prints them over the translation f8de99fd1dc834f4… (all of the seat's roots in one cut). By AI agents, Wed Nov 11 2026. No macro, syntax, notation, axiom, sorry.
-/
import Derived.Test.YtmbdhngoldganaaGreatDoorChecked
import GoSem.Claim
import GoSem.ClaimJoined
import GoSem.ClaimMapViews
import Derived.JoinedTies
import Derived.KernelRfl
namespace Go.Proofs.YtmbdhngoldganaaGreatDoor
/- THE CELL 'sum', in the pinned program and in every row, IS THE sha256 OF THE DUMP (.gsa) THAT YtmbdhngoldganaaGreatDoorProg.lean LOADS. Nothing in Lean hashes anything: it is a label: what it is worth is what the hold of that sum in a sandbox is worth. -/
noncomputable def Tryz.pinned : Pinned := { name := "ytmbdhngoldganaagreatdoor", sum := "f8de99fd1dc834f4fa86210971e4a2da2247e443fcd22b2c29957c4039c1fd40", checked := Tryz.checked }
namespace Rows
def none {H : Type} : Left H := { results := [], args := [] }

/- WHAT THE LISTED PACKAGE-LEVEL VARIABLES READ AS WHEN THE CALL BEGINS. Each datum BY PROGRAM (the guide's laid-datum.mjs) off the statement by which the dump's own 'gosem.cut.vars' lays the variable. In a bare row this is a premise. The card (YtmbdhngoldganaaGreatDoorCards.lean) ties it to the program's text. -/
def laid_muniment_sha_firstWords {H : Type} : DataW H := .agg [.lit (.int .u32 1779033703), .lit (.int .u32 3144134277), .lit (.int .u32 1013904242), .lit (.int .u32 2773480762), .lit (.int .u32 1359893119), .lit (.int .u32 2600822924), .lit (.int .u32 528734635), .lit (.int .u32 1541459225)]
def laid_muniment_sha_roundNumbers {H : Type} : DataW H := .agg [.lit (.int .u32 1116352408), .lit (.int .u32 1899447441), .lit (.int .u32 3049323471), .lit (.int .u32 3921009573), .lit (.int .u32 961987163), .lit (.int .u32 1508970993), .lit (.int .u32 2453635748), .lit (.int .u32 2870763221), .lit (.int .u32 3624381080), .lit (.int .u32 310598401), .lit (.int .u32 607225278), .lit (.int .u32 1426881987), .lit (.int .u32 1925078388), .lit (.int .u32 2162078206), .lit (.int .u32 2614888103), .lit (.int .u32 3248222580), .lit (.int .u32 3835390401), .lit (.int .u32 4022224774), .lit (.int .u32 264347078), .lit (.int .u32 604807628), .lit (.int .u32 770255983), .lit (.int .u32 1249150122), .lit (.int .u32 1555081692), .lit (.int .u32 1996064986), .lit (.int .u32 2554220882), .lit (.int .u32 2821834349), .lit (.int .u32 2952996808), .lit (.int .u32 3210313671), .lit (.int .u32 3336571891), .lit (.int .u32 3584528711), .lit (.int .u32 113926993), .lit (.int .u32 338241895), .lit (.int .u32 666307205), .lit (.int .u32 773529912), .lit (.int .u32 1294757372), .lit (.int .u32 1396182291), .lit (.int .u32 1695183700), .lit (.int .u32 1986661051), .lit (.int .u32 2177026350), .lit (.int .u32 2456956037), .lit (.int .u32 2730485921), .lit (.int .u32 2820302411), .lit (.int .u32 3259730800), .lit (.int .u32 3345764771), .lit (.int .u32 3516065817), .lit (.int .u32 3600352804), .lit (.int .u32 4094571909), .lit (.int .u32 275423344), .lit (.int .u32 430227734), .lit (.int .u32 506948616), .lit (.int .u32 659060556), .lit (.int .u32 883997877), .lit (.int .u32 958139571), .lit (.int .u32 1322822218), .lit (.int .u32 1537002063), .lit (.int .u32 1747873779), .lit (.int .u32 1955562222), .lit (.int .u32 2024104815), .lit (.int .u32 2227730452), .lit (.int .u32 2361852424), .lit (.int .u32 2428436474), .lit (.int .u32 2756734187), .lit (.int .u32 3204031479), .lit (.int .u32 3329325298)]

/-- 'munimentlaw10.ChainSnaps': WHATEVER THE INPUT: true; the input reads as it did. -/
def chainSnapsSpec : ChangeSpec := { name := "chainSnaps", fn := fun _ => fun
  | [d1, d2, d3] => { results := [.lit (.bool true)], args := [d1, d2, d3] }
  | _ => none }
def chainSnapsRow : OpenClaim := { program := "ytmbdhngoldganaagreatdoor", sum := "f8de99fd1dc834f4fa86210971e4a2da2247e443fcd22b2c29957c4039c1fd40", func := "muniment/munimentlaw10.ChainSnaps", spec := "chainSnaps", inPlace := ["internal/abi.NoEscape", "internal/bytealg.MakeNoZero"], unfollowed := true, recurses := true, named := ["muniment/sha.firstWords", "muniment/sha.roundNumbers"], apart := false, laid := [("muniment/sha.firstWords", laid_muniment_sha_firstWords), ("muniment/sha.roundNumbers", laid_muniment_sha_roundNumbers)] }
def ChainSnapsSaid : Prop := chainSnapsRow.holds Tryz.pinned (OpenSpec.ofChange chainSnapsSpec)

/-- ITS FALSE NEIGHBOUR: 'it returns false'. Refute it at one input. -/
def chainSnapsWrong : ChangeSpec := { name := "chainSnaps", fn := fun _ => fun
  | [d1, d2, d3] => { results := [.lit (.bool false)], args := [d1, d2, d3] }
  | _ => none }
def ChainSnapsWrongFalsely : Prop := chainSnapsRow.holds Tryz.pinned (OpenSpec.ofChange chainSnapsWrong)

/-- 'munimentlaw10.ChainReads': WHATEVER THE INPUT: true; the input reads as it did. -/
def chainReadsSpec : ChangeSpec := { name := "chainReads", fn := fun _ => fun
  | [d] => { results := [.lit (.bool true)], args := [d] }
  | _ => none }
def chainReadsRow : OpenClaim := { program := "ytmbdhngoldganaagreatdoor", sum := "f8de99fd1dc834f4fa86210971e4a2da2247e443fcd22b2c29957c4039c1fd40", func := "muniment/munimentlaw10.ChainReads", spec := "chainReads", inPlace := ["internal/abi.NoEscape", "internal/bytealg.MakeNoZero"], unfollowed := true, recurses := true, named := ["muniment/sha.firstWords", "muniment/sha.roundNumbers"], apart := false, laid := [("muniment/sha.firstWords", laid_muniment_sha_firstWords), ("muniment/sha.roundNumbers", laid_muniment_sha_roundNumbers)] }
def ChainReadsSaid : Prop := chainReadsRow.holds Tryz.pinned (OpenSpec.ofChange chainReadsSpec)

/-- ITS FALSE NEIGHBOUR: 'it returns false'. Refute it at one input. -/
def chainReadsWrong : ChangeSpec := { name := "chainReads", fn := fun _ => fun
  | [d] => { results := [.lit (.bool false)], args := [d] }
  | _ => none }
def ChainReadsWrongFalsely : Prop := chainReadsRow.holds Tryz.pinned (OpenSpec.ofChange chainReadsWrong)

/-- 'munimentlaw10.ChainCuts': WHATEVER THE INPUT: true; the input reads as it did. -/
def chainCutsSpec : ChangeSpec := { name := "chainCuts", fn := fun _ => fun
  | [d1, d2, d3] => { results := [.lit (.bool true)], args := [d1, d2, d3] }
  | _ => none }
def chainCutsRow : OpenClaim := { program := "ytmbdhngoldganaagreatdoor", sum := "f8de99fd1dc834f4fa86210971e4a2da2247e443fcd22b2c29957c4039c1fd40", func := "muniment/munimentlaw10.ChainCuts", spec := "chainCuts", inPlace := ["internal/abi.NoEscape", "internal/bytealg.MakeNoZero"], unfollowed := true, recurses := true, named := ["muniment/sha.firstWords", "muniment/sha.roundNumbers"], apart := false, laid := [("muniment/sha.firstWords", laid_muniment_sha_firstWords), ("muniment/sha.roundNumbers", laid_muniment_sha_roundNumbers)] }
def ChainCutsSaid : Prop := chainCutsRow.holds Tryz.pinned (OpenSpec.ofChange chainCutsSpec)

/-- ITS FALSE NEIGHBOUR: 'it returns false'. Refute it at one input. -/
def chainCutsWrong : ChangeSpec := { name := "chainCuts", fn := fun _ => fun
  | [d1, d2, d3] => { results := [.lit (.bool false)], args := [d1, d2, d3] }
  | _ => none }
def ChainCutsWrongFalsely : Prop := chainCutsRow.holds Tryz.pinned (OpenSpec.ofChange chainCutsWrong)

/-- 'munimentlaw10.ChainNil': WHATEVER THE INPUT: true; the input reads as it did. -/
def chainNilSpec : ChangeSpec := { name := "chainNil", fn := fun _ => fun
  | [d1, d2, d3] => { results := [.lit (.bool true)], args := [d1, d2, d3] }
  | _ => none }
def chainNilRow : OpenClaim := { program := "ytmbdhngoldganaagreatdoor", sum := "f8de99fd1dc834f4fa86210971e4a2da2247e443fcd22b2c29957c4039c1fd40", func := "muniment/munimentlaw10.ChainNil", spec := "chainNil", inPlace := ["internal/abi.NoEscape", "internal/bytealg.MakeNoZero"], unfollowed := true, recurses := true, named := ["muniment/sha.firstWords", "muniment/sha.roundNumbers"], apart := false, laid := [("muniment/sha.firstWords", laid_muniment_sha_firstWords), ("muniment/sha.roundNumbers", laid_muniment_sha_roundNumbers)] }
def ChainNilSaid : Prop := chainNilRow.holds Tryz.pinned (OpenSpec.ofChange chainNilSpec)

/-- ITS FALSE NEIGHBOUR: 'it returns false'. Refute it at one input. -/
def chainNilWrong : ChangeSpec := { name := "chainNil", fn := fun _ => fun
  | [d1, d2, d3] => { results := [.lit (.bool false)], args := [d1, d2, d3] }
  | _ => none }
def ChainNilWrongFalsely : Prop := chainNilRow.holds Tryz.pinned (OpenSpec.ofChange chainNilWrong)

/-- 'munimentlaw10.ChainNames': WHATEVER THE INPUT: true; the input reads as it did. -/
def chainNamesSpec : ChangeSpec := { name := "chainNames", fn := fun _ => fun
  | [d1, d2, d3] => { results := [.lit (.bool true)], args := [d1, d2, d3] }
  | _ => none }
def chainNamesRow : OpenClaim := { program := "ytmbdhngoldganaagreatdoor", sum := "f8de99fd1dc834f4fa86210971e4a2da2247e443fcd22b2c29957c4039c1fd40", func := "muniment/munimentlaw10.ChainNames", spec := "chainNames", inPlace := ["internal/abi.NoEscape", "internal/bytealg.MakeNoZero"], unfollowed := true, recurses := true, named := ["muniment/sha.firstWords", "muniment/sha.roundNumbers"], apart := false, laid := [("muniment/sha.firstWords", laid_muniment_sha_firstWords), ("muniment/sha.roundNumbers", laid_muniment_sha_roundNumbers)] }
def ChainNamesSaid : Prop := chainNamesRow.holds Tryz.pinned (OpenSpec.ofChange chainNamesSpec)

/-- ITS FALSE NEIGHBOUR: 'it returns false'. Refute it at one input. -/
def chainNamesWrong : ChangeSpec := { name := "chainNames", fn := fun _ => fun
  | [d1, d2, d3] => { results := [.lit (.bool false)], args := [d1, d2, d3] }
  | _ => none }
def ChainNamesWrongFalsely : Prop := chainNamesRow.holds Tryz.pinned (OpenSpec.ofChange chainNamesWrong)

/-- 'munimentlaw10.ChainGoes': WHATEVER THE INPUT: true; the input reads as it did. -/
def chainGoesSpec : ChangeSpec := { name := "chainGoes", fn := fun _ => fun
  | [d1, d2] => { results := [.lit (.bool true)], args := [d1, d2] }
  | _ => none }
def chainGoesRow : OpenClaim := { program := "ytmbdhngoldganaagreatdoor", sum := "f8de99fd1dc834f4fa86210971e4a2da2247e443fcd22b2c29957c4039c1fd40", func := "muniment/munimentlaw10.ChainGoes", spec := "chainGoes", inPlace := ["internal/abi.NoEscape", "internal/bytealg.MakeNoZero"], unfollowed := true, recurses := true, named := ["muniment/sha.firstWords", "muniment/sha.roundNumbers"], apart := false, laid := [("muniment/sha.firstWords", laid_muniment_sha_firstWords), ("muniment/sha.roundNumbers", laid_muniment_sha_roundNumbers)] }
def ChainGoesSaid : Prop := chainGoesRow.holds Tryz.pinned (OpenSpec.ofChange chainGoesSpec)

/-- ITS FALSE NEIGHBOUR: 'it returns false'. Refute it at one input. -/
def chainGoesWrong : ChangeSpec := { name := "chainGoes", fn := fun _ => fun
  | [d1, d2] => { results := [.lit (.bool false)], args := [d1, d2] }
  | _ => none }
def ChainGoesWrongFalsely : Prop := chainGoesRow.holds Tryz.pinned (OpenSpec.ofChange chainGoesWrong)

/- THE SECOND FORM. 'bulk': how many values and letters a reading holds, each counted each time it is reached (what is shared counts as often as it is met; a slice's spare places count too). A statement '..UptoSaid' is the law's where the arguments, and the package variables that the reading takes, are together of bulk at most 1048576: NARROWER than '..Said'. Prove '..Said' where nothing that the law and all that it calls make is longer than what came in: it says more and counts as full. Else prove '..UptoSaid'. A law counts once. -/
mutual
def uptoBulk {H : Type} : DataW H → Nat
  | .lit (.string bytes) => bytes.length + 1
  | .lit _ => 1
  | .nil => 1
  | .ptr d => uptoBulk d + 1
  | .slice elems spare => uptoBulkAll elems + uptoBulkAll spare + 1
  | .agg parts => uptoBulkAll parts + 1
  | .iface _ d => uptoBulk d + 1
  | .map entries => uptoBulkEntries entries + 1
  | .held _ => 1
def uptoBulkAll {H : Type} : List (DataW H) → Nat
  | [] => 0
  | d :: r => uptoBulk d + uptoBulkAll r
def uptoBulkEntries {H : Type} : List (Lit × DataW H) → Nat
  | [] => 0
  | x :: r => uptoBulkEntry x + uptoBulkEntries r
def uptoBulkEntry {H : Type} : Lit × DataW H → Nat
  | (.string bytes, d) => bytes.length + uptoBulk d + 1
  | (_, d) => uptoBulk d + 1
 end
def uptoSmall : (H : Type) → List (DataW H) → Bool := fun _ ds => decide (uptoBulkAll ds ≤ 1048576)
def OpenSpec.upto (s : _root_.Go.ChangeSpec) : _root_.Go.OpenSpec := { _root_.Go.OpenSpec.ofChange s with cond := some uptoSmall }

/-- 'munimentlaw10.ChainSnaps', WHERE WHAT IT READS IS OF BULK AT MOST 1048576: true; the input reads as it did. -/
def chainSnapsUptoRow : OpenClaim := { program := "ytmbdhngoldganaagreatdoor", sum := "f8de99fd1dc834f4fa86210971e4a2da2247e443fcd22b2c29957c4039c1fd40", func := "muniment/munimentlaw10.ChainSnaps", spec := "chainSnaps", inPlace := ["internal/abi.NoEscape", "internal/bytealg.MakeNoZero"], unfollowed := true, recurses := true, named := ["muniment/sha.firstWords", "muniment/sha.roundNumbers"], apart := false, laid := [("muniment/sha.firstWords", laid_muniment_sha_firstWords), ("muniment/sha.roundNumbers", laid_muniment_sha_roundNumbers)], narrowed := true }
def ChainSnapsUptoSaid : Prop := chainSnapsUptoRow.holds Tryz.pinned (OpenSpec.upto chainSnapsSpec)

/-- 'munimentlaw10.ChainReads', WHERE WHAT IT READS IS OF BULK AT MOST 1048576: true; the input reads as it did. -/
def chainReadsUptoRow : OpenClaim := { program := "ytmbdhngoldganaagreatdoor", sum := "f8de99fd1dc834f4fa86210971e4a2da2247e443fcd22b2c29957c4039c1fd40", func := "muniment/munimentlaw10.ChainReads", spec := "chainReads", inPlace := ["internal/abi.NoEscape", "internal/bytealg.MakeNoZero"], unfollowed := true, recurses := true, named := ["muniment/sha.firstWords", "muniment/sha.roundNumbers"], apart := false, laid := [("muniment/sha.firstWords", laid_muniment_sha_firstWords), ("muniment/sha.roundNumbers", laid_muniment_sha_roundNumbers)], narrowed := true }
def ChainReadsUptoSaid : Prop := chainReadsUptoRow.holds Tryz.pinned (OpenSpec.upto chainReadsSpec)

/-- 'munimentlaw10.ChainCuts', WHERE WHAT IT READS IS OF BULK AT MOST 1048576: true; the input reads as it did. -/
def chainCutsUptoRow : OpenClaim := { program := "ytmbdhngoldganaagreatdoor", sum := "f8de99fd1dc834f4fa86210971e4a2da2247e443fcd22b2c29957c4039c1fd40", func := "muniment/munimentlaw10.ChainCuts", spec := "chainCuts", inPlace := ["internal/abi.NoEscape", "internal/bytealg.MakeNoZero"], unfollowed := true, recurses := true, named := ["muniment/sha.firstWords", "muniment/sha.roundNumbers"], apart := false, laid := [("muniment/sha.firstWords", laid_muniment_sha_firstWords), ("muniment/sha.roundNumbers", laid_muniment_sha_roundNumbers)], narrowed := true }
def ChainCutsUptoSaid : Prop := chainCutsUptoRow.holds Tryz.pinned (OpenSpec.upto chainCutsSpec)

/-- 'munimentlaw10.ChainNil', WHERE WHAT IT READS IS OF BULK AT MOST 1048576: true; the input reads as it did. -/
def chainNilUptoRow : OpenClaim := { program := "ytmbdhngoldganaagreatdoor", sum := "f8de99fd1dc834f4fa86210971e4a2da2247e443fcd22b2c29957c4039c1fd40", func := "muniment/munimentlaw10.ChainNil", spec := "chainNil", inPlace := ["internal/abi.NoEscape", "internal/bytealg.MakeNoZero"], unfollowed := true, recurses := true, named := ["muniment/sha.firstWords", "muniment/sha.roundNumbers"], apart := false, laid := [("muniment/sha.firstWords", laid_muniment_sha_firstWords), ("muniment/sha.roundNumbers", laid_muniment_sha_roundNumbers)], narrowed := true }
def ChainNilUptoSaid : Prop := chainNilUptoRow.holds Tryz.pinned (OpenSpec.upto chainNilSpec)

/-- 'munimentlaw10.ChainNames', WHERE WHAT IT READS IS OF BULK AT MOST 1048576: true; the input reads as it did. -/
def chainNamesUptoRow : OpenClaim := { program := "ytmbdhngoldganaagreatdoor", sum := "f8de99fd1dc834f4fa86210971e4a2da2247e443fcd22b2c29957c4039c1fd40", func := "muniment/munimentlaw10.ChainNames", spec := "chainNames", inPlace := ["internal/abi.NoEscape", "internal/bytealg.MakeNoZero"], unfollowed := true, recurses := true, named := ["muniment/sha.firstWords", "muniment/sha.roundNumbers"], apart := false, laid := [("muniment/sha.firstWords", laid_muniment_sha_firstWords), ("muniment/sha.roundNumbers", laid_muniment_sha_roundNumbers)], narrowed := true }
def ChainNamesUptoSaid : Prop := chainNamesUptoRow.holds Tryz.pinned (OpenSpec.upto chainNamesSpec)

/-- 'munimentlaw10.ChainGoes', WHERE WHAT IT READS IS OF BULK AT MOST 1048576: true; the input reads as it did. -/
def chainGoesUptoRow : OpenClaim := { program := "ytmbdhngoldganaagreatdoor", sum := "f8de99fd1dc834f4fa86210971e4a2da2247e443fcd22b2c29957c4039c1fd40", func := "muniment/munimentlaw10.ChainGoes", spec := "chainGoes", inPlace := ["internal/abi.NoEscape", "internal/bytealg.MakeNoZero"], unfollowed := true, recurses := true, named := ["muniment/sha.firstWords", "muniment/sha.roundNumbers"], apart := false, laid := [("muniment/sha.firstWords", laid_muniment_sha_firstWords), ("muniment/sha.roundNumbers", laid_muniment_sha_roundNumbers)], narrowed := true }
def ChainGoesUptoSaid : Prop := chainGoesUptoRow.holds Tryz.pinned (OpenSpec.upto chainGoesSpec)

end Rows
end Go.Proofs.YtmbdhngoldganaaGreatDoor
