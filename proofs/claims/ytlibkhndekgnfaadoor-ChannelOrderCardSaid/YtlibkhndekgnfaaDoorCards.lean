/-
  DERIVED. GIVEN WITH THE SEED: THE CARDS: each row of YtlibkhndekgnfaaDoorRows.lean that lists a variable, with what it lists TIED to the program's text (the seventh form; the later family's looks); each row that meets fmt, with fmt's text TOLD by the authors' own Lean function (tested against real Go, not proved from fmt's source: count such statements apart). THE CARD IS WHAT COUNTS. Prove the row's statement (the work); the ties are given (YtlibkhndekgnfaaDoorTie.lean); close each card by the builder's one call (the guide's Derived/Test/ToyasCard.lean, 'card_holds'). Laid BY PROGRAM, IN A SANDBOX (cutbox-door.mjs). By AI agents, Wed Nov 11 2026. No macro, syntax, notation, axiom, sorry.
-/
import Derived.Test.YtlibkhndekgnfaaDoorRows
import GoSem.ClaimSeven
namespace Go.Proofs.YtlibkhndekgnfaaDoor
namespace Rows

/-- THE TIED CARD OF 'seedbedlaw16.ChannelPlays'. -/
def channelPlaysCard : Claim7 := { stood := { row := channelPlaysRow, standIns := [], harness := (true, "2bf654390c63b6cb19e879928d81e1f41637003e654025b8fec3a50193165d48"), looks := false }, kinds := [], alts := [], laidByText := true, laidKinds := [.data], laidTests := true, laidLooks := .later }
def ChannelPlaysCardSaid : Prop := Claim7.holds Tryd.pinned (.plain (OpenSpec.ofChange channelPlaysSpec)) channelPlaysCard

/-- THE TIED CARD OF 'seedbedlaw16.ChannelNobody'. -/
def channelNobodyCard : Claim7 := { stood := { row := channelNobodyRow, standIns := [], harness := (true, "2bf654390c63b6cb19e879928d81e1f41637003e654025b8fec3a50193165d48"), looks := false }, kinds := [], alts := [], laidByText := true, laidKinds := [.data], laidTests := true, laidLooks := .later }
def ChannelNobodyCardSaid : Prop := Claim7.holds Tryd.pinned (.plain (OpenSpec.ofChange channelNobodySpec)) channelNobodyCard

/-- THE TIED CARD OF 'seedbedlaw16.ChannelCloses'. -/
def channelClosesCard : Claim7 := { stood := { row := channelClosesRow, standIns := [], harness := (true, "2bf654390c63b6cb19e879928d81e1f41637003e654025b8fec3a50193165d48"), looks := false }, kinds := [], alts := [], laidByText := true, laidKinds := [.data], laidTests := true, laidLooks := .later }
def ChannelClosesCardSaid : Prop := Claim7.holds Tryd.pinned (.plain (OpenSpec.ofChange channelClosesSpec)) channelClosesCard

/-- THE TIED CARD OF 'seedbedlaw16.ChannelCopies'. -/
def channelCopiesCard : Claim7 := { stood := { row := channelCopiesRow, standIns := [], harness := (true, "2bf654390c63b6cb19e879928d81e1f41637003e654025b8fec3a50193165d48"), looks := false }, kinds := [], alts := [], laidByText := true, laidKinds := [.data], laidTests := true, laidLooks := .later }
def ChannelCopiesCardSaid : Prop := Claim7.holds Tryd.pinned (.plain (OpenSpec.ofChange channelCopiesSpec)) channelCopiesCard

/-- THE TIED CARD OF 'seedbedlaw16.ChannelOrder'. -/
def channelOrderCard : Claim7 := { stood := { row := channelOrderRow, standIns := [], harness := (true, "2bf654390c63b6cb19e879928d81e1f41637003e654025b8fec3a50193165d48"), looks := false }, kinds := [], alts := [], laidByText := true, laidKinds := [.data], laidTests := true, laidLooks := .later }
def ChannelOrderCardSaid : Prop := Claim7.holds Tryd.pinned (.plain (OpenSpec.ofChange channelOrderSpec)) channelOrderCard

/-- THE TIED CARD OF 'seedbedlaw16.ChannelBalance'. -/
def channelBalanceCard : Claim7 := { stood := { row := channelBalanceRow, standIns := [], harness := (true, "2bf654390c63b6cb19e879928d81e1f41637003e654025b8fec3a50193165d48"), looks := false }, kinds := [], alts := [], laidByText := true, laidKinds := [.data], laidTests := true, laidLooks := .later }
def ChannelBalanceCardSaid : Prop := Claim7.holds Tryd.pinned (.plain (OpenSpec.ofChange channelBalanceSpec)) channelBalanceCard

/-- THE TIED CARD OF 'seedbedlaw16.ChannelWakes'. -/
def channelWakesCard : Claim7 := { stood := { row := channelWakesRow, standIns := [], harness := (true, "2bf654390c63b6cb19e879928d81e1f41637003e654025b8fec3a50193165d48"), looks := false }, kinds := [], alts := [], laidByText := true, laidKinds := [.data], laidTests := true, laidLooks := .later }
def ChannelWakesCardSaid : Prop := Claim7.holds Tryd.pinned (.plain (OpenSpec.ofChange channelWakesSpec)) channelWakesCard

/-- THE SECOND FORM's CARD OF 'seedbedlaw16.ChannelPlays'. -/
def channelPlaysUptoCard : Claim7 := { stood := { row := channelPlaysUptoRow, standIns := [], harness := (true, "2bf654390c63b6cb19e879928d81e1f41637003e654025b8fec3a50193165d48"), looks := false }, kinds := [], alts := [], laidByText := true, laidKinds := [.data], laidTests := true, laidLooks := .later }
def ChannelPlaysUptoCardSaid : Prop := Claim7.holds Tryd.pinned (.plain (OpenSpec.upto channelPlaysSpec)) channelPlaysUptoCard

/-- THE SECOND FORM's CARD OF 'seedbedlaw16.ChannelNobody'. -/
def channelNobodyUptoCard : Claim7 := { stood := { row := channelNobodyUptoRow, standIns := [], harness := (true, "2bf654390c63b6cb19e879928d81e1f41637003e654025b8fec3a50193165d48"), looks := false }, kinds := [], alts := [], laidByText := true, laidKinds := [.data], laidTests := true, laidLooks := .later }
def ChannelNobodyUptoCardSaid : Prop := Claim7.holds Tryd.pinned (.plain (OpenSpec.upto channelNobodySpec)) channelNobodyUptoCard

/-- THE SECOND FORM's CARD OF 'seedbedlaw16.ChannelCloses'. -/
def channelClosesUptoCard : Claim7 := { stood := { row := channelClosesUptoRow, standIns := [], harness := (true, "2bf654390c63b6cb19e879928d81e1f41637003e654025b8fec3a50193165d48"), looks := false }, kinds := [], alts := [], laidByText := true, laidKinds := [.data], laidTests := true, laidLooks := .later }
def ChannelClosesUptoCardSaid : Prop := Claim7.holds Tryd.pinned (.plain (OpenSpec.upto channelClosesSpec)) channelClosesUptoCard

/-- THE SECOND FORM's CARD OF 'seedbedlaw16.ChannelCopies'. -/
def channelCopiesUptoCard : Claim7 := { stood := { row := channelCopiesUptoRow, standIns := [], harness := (true, "2bf654390c63b6cb19e879928d81e1f41637003e654025b8fec3a50193165d48"), looks := false }, kinds := [], alts := [], laidByText := true, laidKinds := [.data], laidTests := true, laidLooks := .later }
def ChannelCopiesUptoCardSaid : Prop := Claim7.holds Tryd.pinned (.plain (OpenSpec.upto channelCopiesSpec)) channelCopiesUptoCard

/-- THE SECOND FORM's CARD OF 'seedbedlaw16.ChannelOrder'. -/
def channelOrderUptoCard : Claim7 := { stood := { row := channelOrderUptoRow, standIns := [], harness := (true, "2bf654390c63b6cb19e879928d81e1f41637003e654025b8fec3a50193165d48"), looks := false }, kinds := [], alts := [], laidByText := true, laidKinds := [.data], laidTests := true, laidLooks := .later }
def ChannelOrderUptoCardSaid : Prop := Claim7.holds Tryd.pinned (.plain (OpenSpec.upto channelOrderSpec)) channelOrderUptoCard

/-- THE SECOND FORM's CARD OF 'seedbedlaw16.ChannelBalance'. -/
def channelBalanceUptoCard : Claim7 := { stood := { row := channelBalanceUptoRow, standIns := [], harness := (true, "2bf654390c63b6cb19e879928d81e1f41637003e654025b8fec3a50193165d48"), looks := false }, kinds := [], alts := [], laidByText := true, laidKinds := [.data], laidTests := true, laidLooks := .later }
def ChannelBalanceUptoCardSaid : Prop := Claim7.holds Tryd.pinned (.plain (OpenSpec.upto channelBalanceSpec)) channelBalanceUptoCard

/-- THE SECOND FORM's CARD OF 'seedbedlaw16.ChannelWakes'. -/
def channelWakesUptoCard : Claim7 := { stood := { row := channelWakesUptoRow, standIns := [], harness := (true, "2bf654390c63b6cb19e879928d81e1f41637003e654025b8fec3a50193165d48"), looks := false }, kinds := [], alts := [], laidByText := true, laidKinds := [.data], laidTests := true, laidLooks := .later }
def ChannelWakesUptoCardSaid : Prop := Claim7.holds Tryd.pinned (.plain (OpenSpec.upto channelWakesSpec)) channelWakesUptoCard
end Rows
end Go.Proofs.YtlibkhndekgnfaaDoor
