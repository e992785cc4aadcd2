/-
  DERIVED. GIVEN WITH THE SEED: THE CARDS: each row of YtiohpcnnpmnjhaaGreatDoorRows.lean that lists a variable, with what it lists TIED to the program's text (the seventh form; the later family's looks); each row that meets fmt, with fmt's text TOLD by the authors' own Lean function (tested against real Go, not proved from fmt's source: count such statements apart). THE CARD IS WHAT COUNTS. Prove the row's statement (the work); the ties are given (YtiohpcnnpmnjhaaGreatDoorTie.lean); close each card by the builder's one call (the guide's Derived/Test/ToyasCard.lean, 'card_holds'). Laid BY PROGRAM, IN A SANDBOX (cutbox-door.mjs). By AI agents, Wed Nov 11 2026. No macro, syntax, notation, axiom, sorry.
-/
import Derived.Test.YtiohpcnnpmnjhaaGreatDoorRows
import GoSem.ClaimSeven
namespace Go.Proofs.YtiohpcnnpmnjhaaGreatDoor
namespace Rows

/-- THE TIED CARD OF 'orbitlaw.Steps'. -/
def stepsCard : Claim7 := { stood := { row := stepsRow, standIns := [], harness := (true, "a267a01c6fe8236873e6e8ec4ab0112fc1da13a150118519eff087a234eefd39"), looks := true }, kinds := [], alts := [], laidByText := true, laidKinds := [.data, .data, .data], laidTests := true, laidLooks := .later }
def StepsCardSaid : Prop := Claim7.holds Tryz.pinned (.plain (OpenSpec.ofChange stepsSpec)) stepsCard

/-- THE TIED CARD OF 'orbitlaw.Onward'. -/
def onwardCard : Claim7 := { stood := { row := onwardRow, standIns := [], harness := (true, "a267a01c6fe8236873e6e8ec4ab0112fc1da13a150118519eff087a234eefd39"), looks := true }, kinds := [], alts := [], laidByText := true, laidKinds := [.data, .data, .data], laidTests := true, laidLooks := .later }
def OnwardCardSaid : Prop := Claim7.holds Tryz.pinned (.plain (OpenSpec.ofChange onwardSpec)) onwardCard

/-- THE TIED CARD OF 'orbitlaw.Comes'. -/
def comesCard : Claim7 := { stood := { row := comesRow, standIns := [], harness := (true, "a267a01c6fe8236873e6e8ec4ab0112fc1da13a150118519eff087a234eefd39"), looks := true }, kinds := [], alts := [], laidByText := true, laidKinds := [.data, .data, .data], laidTests := true, laidLooks := .later }
def ComesCardSaid : Prop := Claim7.holds Tryz.pinned (.plain (OpenSpec.ofChange comesSpec)) comesCard

/-- THE TIED CARD OF 'orbitlaw.Turns'. -/
def turnsCard : Claim7 := { stood := { row := turnsRow, standIns := [], harness := (true, "a267a01c6fe8236873e6e8ec4ab0112fc1da13a150118519eff087a234eefd39"), looks := true }, kinds := [], alts := [], laidByText := true, laidKinds := [.data, .data, .data], laidTests := true, laidLooks := .later }
def TurnsCardSaid : Prop := Claim7.holds Tryz.pinned (.plain (OpenSpec.ofChange turnsSpec)) turnsCard

/-- THE TIED CARD OF 'orbitlaw.Split'. -/
def splitCard : Claim7 := { stood := { row := splitRow, standIns := [], harness := (true, "a267a01c6fe8236873e6e8ec4ab0112fc1da13a150118519eff087a234eefd39"), looks := true }, kinds := [], alts := [], laidByText := true, laidKinds := [.data, .data, .data], laidTests := true, laidLooks := .later }
def SplitCardSaid : Prop := Claim7.holds Tryz.pinned (.plain (OpenSpec.ofChange splitSpec)) splitCard

/-- THE TIED CARD OF 'orbitlaw.Beside'. -/
def besideCard : Claim7 := { stood := { row := besideRow, standIns := [], harness := (true, "a267a01c6fe8236873e6e8ec4ab0112fc1da13a150118519eff087a234eefd39"), looks := true }, kinds := [], alts := [], laidByText := true, laidKinds := [.data, .data, .data, .data], laidTests := true, laidLooks := .later }
def BesideCardSaid : Prop := Claim7.holds Tryz.pinned (.plain (OpenSpec.ofChange besideSpec)) besideCard

/-- THE TIED CARD OF 'orbitlaw.Codes'. -/
def codesCard : Claim7 := { stood := { row := codesRow, standIns := [], harness := (true, "a267a01c6fe8236873e6e8ec4ab0112fc1da13a150118519eff087a234eefd39"), looks := true }, kinds := [], alts := [], laidByText := true, laidKinds := [.data, .data, .data, .data], laidTests := true, laidLooks := .later }
def CodesCardSaid : Prop := Claim7.holds Tryz.pinned (.plain (OpenSpec.ofChange codesSpec)) codesCard

/-- THE TIED CARD OF 'orbitlaw.Called'. -/
def calledCard : Claim7 := { stood := { row := calledRow, standIns := [], harness := (true, "a267a01c6fe8236873e6e8ec4ab0112fc1da13a150118519eff087a234eefd39"), looks := true }, kinds := [], alts := [], laidByText := true, laidKinds := [.data, .data, .data, .data], laidTests := true, laidLooks := .later }
def CalledCardSaid : Prop := Claim7.holds Tryz.pinned (.plain (OpenSpec.ofChange calledSpec)) calledCard

/-- THE TIED CARD OF 'orbitlaw.Agree'. -/
def agreeCard : Claim7 := { stood := { row := agreeRow, standIns := [], harness := (true, "a267a01c6fe8236873e6e8ec4ab0112fc1da13a150118519eff087a234eefd39"), looks := true }, kinds := [], alts := [], laidByText := true, laidKinds := [.data, .data, .data, .data], laidTests := true, laidLooks := .later }
def AgreeCardSaid : Prop := Claim7.holds Tryz.pinned (.plain (OpenSpec.ofChange agreeSpec)) agreeCard

/-- THE SECOND FORM's CARD OF 'orbitlaw.Steps'. -/
def stepsUptoCard : Claim7 := { stood := { row := stepsUptoRow, standIns := [], harness := (true, "a267a01c6fe8236873e6e8ec4ab0112fc1da13a150118519eff087a234eefd39"), looks := true }, kinds := [], alts := [], laidByText := true, laidKinds := [.data, .data, .data], laidTests := true, laidLooks := .later }
def StepsUptoCardSaid : Prop := Claim7.holds Tryz.pinned (.plain (OpenSpec.upto stepsSpec)) stepsUptoCard

/-- THE SECOND FORM's CARD OF 'orbitlaw.Onward'. -/
def onwardUptoCard : Claim7 := { stood := { row := onwardUptoRow, standIns := [], harness := (true, "a267a01c6fe8236873e6e8ec4ab0112fc1da13a150118519eff087a234eefd39"), looks := true }, kinds := [], alts := [], laidByText := true, laidKinds := [.data, .data, .data], laidTests := true, laidLooks := .later }
def OnwardUptoCardSaid : Prop := Claim7.holds Tryz.pinned (.plain (OpenSpec.upto onwardSpec)) onwardUptoCard

/-- THE SECOND FORM's CARD OF 'orbitlaw.Comes'. -/
def comesUptoCard : Claim7 := { stood := { row := comesUptoRow, standIns := [], harness := (true, "a267a01c6fe8236873e6e8ec4ab0112fc1da13a150118519eff087a234eefd39"), looks := true }, kinds := [], alts := [], laidByText := true, laidKinds := [.data, .data, .data], laidTests := true, laidLooks := .later }
def ComesUptoCardSaid : Prop := Claim7.holds Tryz.pinned (.plain (OpenSpec.upto comesSpec)) comesUptoCard

/-- THE SECOND FORM's CARD OF 'orbitlaw.Turns'. -/
def turnsUptoCard : Claim7 := { stood := { row := turnsUptoRow, standIns := [], harness := (true, "a267a01c6fe8236873e6e8ec4ab0112fc1da13a150118519eff087a234eefd39"), looks := true }, kinds := [], alts := [], laidByText := true, laidKinds := [.data, .data, .data], laidTests := true, laidLooks := .later }
def TurnsUptoCardSaid : Prop := Claim7.holds Tryz.pinned (.plain (OpenSpec.upto turnsSpec)) turnsUptoCard

/-- THE SECOND FORM's CARD OF 'orbitlaw.Split'. -/
def splitUptoCard : Claim7 := { stood := { row := splitUptoRow, standIns := [], harness := (true, "a267a01c6fe8236873e6e8ec4ab0112fc1da13a150118519eff087a234eefd39"), looks := true }, kinds := [], alts := [], laidByText := true, laidKinds := [.data, .data, .data], laidTests := true, laidLooks := .later }
def SplitUptoCardSaid : Prop := Claim7.holds Tryz.pinned (.plain (OpenSpec.upto splitSpec)) splitUptoCard

/-- THE SECOND FORM's CARD OF 'orbitlaw.Beside'. -/
def besideUptoCard : Claim7 := { stood := { row := besideUptoRow, standIns := [], harness := (true, "a267a01c6fe8236873e6e8ec4ab0112fc1da13a150118519eff087a234eefd39"), looks := true }, kinds := [], alts := [], laidByText := true, laidKinds := [.data, .data, .data, .data], laidTests := true, laidLooks := .later }
def BesideUptoCardSaid : Prop := Claim7.holds Tryz.pinned (.plain (OpenSpec.upto besideSpec)) besideUptoCard

/-- THE SECOND FORM's CARD OF 'orbitlaw.Codes'. -/
def codesUptoCard : Claim7 := { stood := { row := codesUptoRow, standIns := [], harness := (true, "a267a01c6fe8236873e6e8ec4ab0112fc1da13a150118519eff087a234eefd39"), looks := true }, kinds := [], alts := [], laidByText := true, laidKinds := [.data, .data, .data, .data], laidTests := true, laidLooks := .later }
def CodesUptoCardSaid : Prop := Claim7.holds Tryz.pinned (.plain (OpenSpec.upto codesSpec)) codesUptoCard

/-- THE SECOND FORM's CARD OF 'orbitlaw.Called'. -/
def calledUptoCard : Claim7 := { stood := { row := calledUptoRow, standIns := [], harness := (true, "a267a01c6fe8236873e6e8ec4ab0112fc1da13a150118519eff087a234eefd39"), looks := true }, kinds := [], alts := [], laidByText := true, laidKinds := [.data, .data, .data, .data], laidTests := true, laidLooks := .later }
def CalledUptoCardSaid : Prop := Claim7.holds Tryz.pinned (.plain (OpenSpec.upto calledSpec)) calledUptoCard

/-- THE SECOND FORM's CARD OF 'orbitlaw.Agree'. -/
def agreeUptoCard : Claim7 := { stood := { row := agreeUptoRow, standIns := [], harness := (true, "a267a01c6fe8236873e6e8ec4ab0112fc1da13a150118519eff087a234eefd39"), looks := true }, kinds := [], alts := [], laidByText := true, laidKinds := [.data, .data, .data, .data], laidTests := true, laidLooks := .later }
def AgreeUptoCardSaid : Prop := Claim7.holds Tryz.pinned (.plain (OpenSpec.upto agreeSpec)) agreeUptoCard
end Rows
end Go.Proofs.YtiohpcnnpmnjhaaGreatDoor
