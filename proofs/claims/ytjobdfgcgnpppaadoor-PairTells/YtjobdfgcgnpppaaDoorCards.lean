/-
  DERIVED. GIVEN WITH THE SEED: THE CARDS: each row of YtjobdfgcgnpppaaDoorRows.lean that lists a variable, with what it lists TIED to the program's text (the seventh form; the later family's looks); each row that meets fmt, with fmt's text TOLD by the authors' own Lean function (tested against real Go, not proved from fmt's source: count such statements apart). THE CARD IS WHAT COUNTS. Prove the row's statement (the work); the ties are given (YtjobdfgcgnpppaaDoorTie.lean); close each card by the builder's one call (the guide's Derived/Test/ToyasCard.lean, 'card_holds'). Laid BY PROGRAM, IN A SANDBOX (cutbox-door.mjs). By AI agents, Wed Nov 11 2026. No macro, syntax, notation, axiom, sorry.
-/
import Derived.Test.YtjobdfgcgnpppaaDoorRows
import GoSem.ClaimSeven
namespace Go.Proofs.YtjobdfgcgnpppaaDoor
namespace Rows

/-- THE TIED CARD OF 'assayerlaw03.PairChecks'. -/
def pairChecksCard : Claim7 := { stood := { row := pairChecksRow, standIns := [], harness := (true, "3283573edddbab0096418f965992f31cb9319a3b7e0afcb84378fd3f3292d4ae"), looks := true }, kinds := [], alts := [], laidByText := true, laidKinds := [.handle], laidTests := true, laidLooks := .later }
def PairChecksCardSaid : Prop := Claim7.holds Tryd.pinned (.plain (OpenSpec.ofChange pairChecksSpec)) pairChecksCard

/-- THE TIED CARD OF 'assayerlaw03.PairTells'. -/
def pairTellsCard : Claim7 := { stood := { row := pairTellsRow, standIns := [], harness := (true, "3283573edddbab0096418f965992f31cb9319a3b7e0afcb84378fd3f3292d4ae"), looks := true }, kinds := [], alts := [], laidByText := true, laidKinds := [.handle], laidTests := true, laidLooks := .later }
def PairTellsCardSaid : Prop := Claim7.holds Tryd.pinned (.plain (OpenSpec.ofChange pairTellsSpec)) pairTellsCard

/-- THE TIED CARD OF 'assayerlaw03.PairOne'. -/
def pairOneCard : Claim7 := { stood := { row := pairOneRow, standIns := [], harness := (true, "3283573edddbab0096418f965992f31cb9319a3b7e0afcb84378fd3f3292d4ae"), looks := true }, kinds := [], alts := [], laidByText := true, laidKinds := [.handle], laidTests := true, laidLooks := .later }
def PairOneCardSaid : Prop := Claim7.holds Tryd.pinned (.plain (OpenSpec.ofChange pairOneSpec)) pairOneCard

/-- THE TIED CARD OF 'assayerlaw03.PairBegins'. -/
def pairBeginsCard : Claim7 := { stood := { row := pairBeginsRow, standIns := [], harness := (true, "3283573edddbab0096418f965992f31cb9319a3b7e0afcb84378fd3f3292d4ae"), looks := true }, kinds := [], alts := [], laidByText := true, laidKinds := [.handle], laidTests := true, laidLooks := .later }
def PairBeginsCardSaid : Prop := Claim7.holds Tryd.pinned (.plain (OpenSpec.ofChange pairBeginsSpec)) pairBeginsCard

/-- THE TIED CARD OF 'assayerlaw03.PairApart'. -/
def pairApartCard : Claim7 := { stood := { row := pairApartRow, standIns := [], harness := (true, "3283573edddbab0096418f965992f31cb9319a3b7e0afcb84378fd3f3292d4ae"), looks := true }, kinds := [], alts := [], laidByText := true, laidKinds := [.handle], laidTests := true, laidLooks := .later }
def PairApartCardSaid : Prop := Claim7.holds Tryd.pinned (.plain (OpenSpec.ofChange pairApartSpec)) pairApartCard

/-- THE TIED CARD OF 'assayerlaw03.PairGone'. -/
def pairGoneCard : Claim7 := { stood := { row := pairGoneRow, standIns := [], harness := (true, "3283573edddbab0096418f965992f31cb9319a3b7e0afcb84378fd3f3292d4ae"), looks := true }, kinds := [], alts := [], laidByText := true, laidKinds := [.handle], laidTests := true, laidLooks := .later }
def PairGoneCardSaid : Prop := Claim7.holds Tryd.pinned (.plain (OpenSpec.ofChange pairGoneSpec)) pairGoneCard

/-- THE SECOND FORM's CARD OF 'assayerlaw03.PairChecks'. -/
def pairChecksUptoCard : Claim7 := { stood := { row := pairChecksUptoRow, standIns := [], harness := (true, "3283573edddbab0096418f965992f31cb9319a3b7e0afcb84378fd3f3292d4ae"), looks := true }, kinds := [], alts := [], laidByText := true, laidKinds := [.handle], laidTests := true, laidLooks := .later }
def PairChecksUptoCardSaid : Prop := Claim7.holds Tryd.pinned (.plain (OpenSpec.upto pairChecksSpec)) pairChecksUptoCard

/-- THE SECOND FORM's CARD OF 'assayerlaw03.PairTells'. -/
def pairTellsUptoCard : Claim7 := { stood := { row := pairTellsUptoRow, standIns := [], harness := (true, "3283573edddbab0096418f965992f31cb9319a3b7e0afcb84378fd3f3292d4ae"), looks := true }, kinds := [], alts := [], laidByText := true, laidKinds := [.handle], laidTests := true, laidLooks := .later }
def PairTellsUptoCardSaid : Prop := Claim7.holds Tryd.pinned (.plain (OpenSpec.upto pairTellsSpec)) pairTellsUptoCard

/-- THE SECOND FORM's CARD OF 'assayerlaw03.PairOne'. -/
def pairOneUptoCard : Claim7 := { stood := { row := pairOneUptoRow, standIns := [], harness := (true, "3283573edddbab0096418f965992f31cb9319a3b7e0afcb84378fd3f3292d4ae"), looks := true }, kinds := [], alts := [], laidByText := true, laidKinds := [.handle], laidTests := true, laidLooks := .later }
def PairOneUptoCardSaid : Prop := Claim7.holds Tryd.pinned (.plain (OpenSpec.upto pairOneSpec)) pairOneUptoCard

/-- THE SECOND FORM's CARD OF 'assayerlaw03.PairBegins'. -/
def pairBeginsUptoCard : Claim7 := { stood := { row := pairBeginsUptoRow, standIns := [], harness := (true, "3283573edddbab0096418f965992f31cb9319a3b7e0afcb84378fd3f3292d4ae"), looks := true }, kinds := [], alts := [], laidByText := true, laidKinds := [.handle], laidTests := true, laidLooks := .later }
def PairBeginsUptoCardSaid : Prop := Claim7.holds Tryd.pinned (.plain (OpenSpec.upto pairBeginsSpec)) pairBeginsUptoCard

/-- THE SECOND FORM's CARD OF 'assayerlaw03.PairApart'. -/
def pairApartUptoCard : Claim7 := { stood := { row := pairApartUptoRow, standIns := [], harness := (true, "3283573edddbab0096418f965992f31cb9319a3b7e0afcb84378fd3f3292d4ae"), looks := true }, kinds := [], alts := [], laidByText := true, laidKinds := [.handle], laidTests := true, laidLooks := .later }
def PairApartUptoCardSaid : Prop := Claim7.holds Tryd.pinned (.plain (OpenSpec.upto pairApartSpec)) pairApartUptoCard

/-- THE SECOND FORM's CARD OF 'assayerlaw03.PairGone'. -/
def pairGoneUptoCard : Claim7 := { stood := { row := pairGoneUptoRow, standIns := [], harness := (true, "3283573edddbab0096418f965992f31cb9319a3b7e0afcb84378fd3f3292d4ae"), looks := true }, kinds := [], alts := [], laidByText := true, laidKinds := [.handle], laidTests := true, laidLooks := .later }
def PairGoneUptoCardSaid : Prop := Claim7.holds Tryd.pinned (.plain (OpenSpec.upto pairGoneSpec)) pairGoneUptoCard
end Rows
end Go.Proofs.YtjobdfgcgnpppaaDoor
