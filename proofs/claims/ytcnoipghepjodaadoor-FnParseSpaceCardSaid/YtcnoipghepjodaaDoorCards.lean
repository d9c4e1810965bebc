/-
  DERIVED. GIVEN WITH THE SEED: THE CARDS: each row of YtcnoipghepjodaaDoorRows.lean that lists a variable, with what it lists TIED to the program's text (the seventh form; the later family's looks); each row that meets fmt, with fmt's text TOLD by the authors' own Lean function (tested against real Go, not proved from fmt's source: count such statements apart). THE CARD IS WHAT COUNTS. Prove the row's statement (the work); the ties are given (YtcnoipghepjodaaDoorTie.lean); close each card by the builder's one call (the guide's Derived/Test/ToyasCard.lean, 'card_holds'). Laid BY PROGRAM, IN A SANDBOX (cutbox-door.mjs). By AI agents, Wed Nov 11 2026. No macro, syntax, notation, axiom, sorry.
-/
import Derived.Test.YtcnoipghepjodaaDoorRows
import GoSem.ClaimSeven
namespace Go.Proofs.YtcnoipghepjodaaDoor
namespace Rows

/-- THE TIED CARD OF 'laws.FnSpaceText'. -/
def fnSpaceTextCard : Claim7 := { stood := { row := fnSpaceTextRow, standIns := [], harness := (true, "b98b4237d7cd2b3fe0dd600ebdd209764df3fa3687926d4613a0ba703f089379"), looks := true }, kinds := [], alts := [], laidByText := true, laidKinds := [.data, .data, .data, .data, .sentinel, .sentinel, .pinned], laidTests := true, laidLooks := .later }
def FnSpaceTextCardSaid : Prop := Claim7.holds Tryd.pinned (.plain (OpenSpec.ofChange fnSpaceTextSpec)) fnSpaceTextCard

/-- THE TIED CARD OF 'laws.FnParseSpace'. -/
def fnParseSpaceCard : Claim7 := { stood := { row := fnParseSpaceRow, standIns := [], harness := (true, "b98b4237d7cd2b3fe0dd600ebdd209764df3fa3687926d4613a0ba703f089379"), looks := true }, kinds := [], alts := [], laidByText := true, laidKinds := [.data, .data, .data, .data, .sentinel, .sentinel, .pinned], laidTests := true, laidLooks := .later }
def FnParseSpaceCardSaid : Prop := Claim7.holds Tryd.pinned (.plain (OpenSpec.ofChange fnParseSpaceSpec)) fnParseSpaceCard

/-- THE TIED CARD OF 'laws.FnExactSpaceText'. -/
def fnExactSpaceTextCard : Claim7 := { stood := { row := fnExactSpaceTextRow, standIns := [], harness := (true, "b98b4237d7cd2b3fe0dd600ebdd209764df3fa3687926d4613a0ba703f089379"), looks := true }, kinds := [], alts := [], laidByText := true, laidKinds := [.data, .data, .data], laidTests := true, laidLooks := .later }
def FnExactSpaceTextCardSaid : Prop := Claim7.holds Tryd.pinned (.plain (OpenSpec.ofChange fnExactSpaceTextSpec)) fnExactSpaceTextCard

/-- THE TIED CARD OF 'laws.FnExactParseSpace'. -/
def fnExactParseSpaceCard : Claim7 := { stood := { row := fnExactParseSpaceRow, standIns := [], harness := (true, "b98b4237d7cd2b3fe0dd600ebdd209764df3fa3687926d4613a0ba703f089379"), looks := true }, kinds := [], alts := [], laidByText := true, laidKinds := [.data, .data, .data, .data, .sentinel, .sentinel, .pinned], laidTests := true, laidLooks := .later }
def FnExactParseSpaceCardSaid : Prop := Claim7.holds Tryd.pinned (.plain (OpenSpec.ofChange fnExactParseSpaceSpec)) fnExactParseSpaceCard

/-- THE SECOND FORM's CARD OF 'laws.FnSpaceText'. -/
def fnSpaceTextUptoCard : Claim7 := { stood := { row := fnSpaceTextUptoRow, standIns := [], harness := (true, "b98b4237d7cd2b3fe0dd600ebdd209764df3fa3687926d4613a0ba703f089379"), looks := true }, kinds := [], alts := [], laidByText := true, laidKinds := [.data, .data, .data, .data, .sentinel, .sentinel, .pinned], laidTests := true, laidLooks := .later }
def FnSpaceTextUptoCardSaid : Prop := Claim7.holds Tryd.pinned (.plain (OpenSpec.upto fnSpaceTextSpec)) fnSpaceTextUptoCard

/-- THE SECOND FORM's CARD OF 'laws.FnParseSpace'. -/
def fnParseSpaceUptoCard : Claim7 := { stood := { row := fnParseSpaceUptoRow, standIns := [], harness := (true, "b98b4237d7cd2b3fe0dd600ebdd209764df3fa3687926d4613a0ba703f089379"), looks := true }, kinds := [], alts := [], laidByText := true, laidKinds := [.data, .data, .data, .data, .sentinel, .sentinel, .pinned], laidTests := true, laidLooks := .later }
def FnParseSpaceUptoCardSaid : Prop := Claim7.holds Tryd.pinned (.plain (OpenSpec.upto fnParseSpaceSpec)) fnParseSpaceUptoCard

/-- THE SECOND FORM's CARD OF 'laws.FnExactSpaceText'. -/
def fnExactSpaceTextUptoCard : Claim7 := { stood := { row := fnExactSpaceTextUptoRow, standIns := [], harness := (true, "b98b4237d7cd2b3fe0dd600ebdd209764df3fa3687926d4613a0ba703f089379"), looks := true }, kinds := [], alts := [], laidByText := true, laidKinds := [.data, .data, .data], laidTests := true, laidLooks := .later }
def FnExactSpaceTextUptoCardSaid : Prop := Claim7.holds Tryd.pinned (.plain (OpenSpec.upto fnExactSpaceTextSpec)) fnExactSpaceTextUptoCard

/-- THE SECOND FORM's CARD OF 'laws.FnExactParseSpace'. -/
def fnExactParseSpaceUptoCard : Claim7 := { stood := { row := fnExactParseSpaceUptoRow, standIns := [], harness := (true, "b98b4237d7cd2b3fe0dd600ebdd209764df3fa3687926d4613a0ba703f089379"), looks := true }, kinds := [], alts := [], laidByText := true, laidKinds := [.data, .data, .data, .data, .sentinel, .sentinel, .pinned], laidTests := true, laidLooks := .later }
def FnExactParseSpaceUptoCardSaid : Prop := Claim7.holds Tryd.pinned (.plain (OpenSpec.upto fnExactParseSpaceSpec)) fnExactParseSpaceUptoCard
end Rows
end Go.Proofs.YtcnoipghepjodaaDoor
