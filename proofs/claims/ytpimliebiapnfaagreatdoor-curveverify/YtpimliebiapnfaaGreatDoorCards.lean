/-
  DERIVED. GIVEN WITH THE SEED: THE CARDS: each row of YtpimliebiapnfaaGreatDoorRows.lean that lists a variable, with what it lists TIED to the program's text (the seventh form; the later family's looks); each row that meets fmt, with fmt's text TOLD by the authors' own Lean function (tested against real Go, not proved from fmt's source: count such statements apart). THE CARD IS WHAT COUNTS. Prove the row's statement (the work); the ties are given (YtpimliebiapnfaaGreatDoorTie.lean); close each card by the builder's one call (the guide's Derived/Test/ToyasCard.lean, 'card_holds'). Laid BY PROGRAM, IN A SANDBOX (cutbox-door.mjs). By AI agents, Wed Nov 11 2026. No macro, syntax, notation, axiom, sorry.
-/
import Derived.Test.YtpimliebiapnfaaGreatDoorRows
import GoSem.ClaimSeven
namespace Go.Proofs.YtpimliebiapnfaaGreatDoor
namespace Rows

/-- THE TIED CARD OF 'guidepostlaw07.CurveSums'. -/
def curveSumsCard : Claim7 := { stood := { row := curveSumsRow, standIns := [], harness := (true, "6e970a94fbbc3216f24170a32beee8b3e3fc043cfb00898ca49fde554de441de"), looks := false }, kinds := [], alts := [], laidByText := true, laidKinds := [.data, .pinned], laidTests := true, laidLooks := .later }
def CurveSumsCardSaid : Prop := Claim7.holds Tryz.pinned (.plain (OpenSpec.ofChange curveSumsSpec)) curveSumsCard

/-- THE TIED CARD OF 'guidepostlaw07.CurveTimes'. -/
def curveTimesCard : Claim7 := { stood := { row := curveTimesRow, standIns := [], harness := (true, "6e970a94fbbc3216f24170a32beee8b3e3fc043cfb00898ca49fde554de441de"), looks := false }, kinds := [], alts := [], laidByText := true, laidKinds := [.data, .pinned], laidTests := true, laidLooks := .later }
def CurveTimesCardSaid : Prop := Claim7.holds Tryz.pinned (.plain (OpenSpec.ofChange curveTimesSpec)) curveTimesCard

/-- THE TIED CARD OF 'guidepostlaw07.CurveVerify'. -/
def curveVerifyCard : Claim7 := { stood := { row := curveVerifyRow, standIns := [], harness := (true, "6e970a94fbbc3216f24170a32beee8b3e3fc043cfb00898ca49fde554de441de"), looks := false }, kinds := [], alts := [], laidByText := true, laidKinds := [.data, .data, .pinned], laidTests := true, laidLooks := .later }
def CurveVerifyCardSaid : Prop := Claim7.holds Tryz.pinned (.plain (OpenSpec.ofChange curveVerifySpec)) curveVerifyCard

/-- THE SECOND FORM's CARD OF 'guidepostlaw07.CurveSums'. -/
def curveSumsUptoCard : Claim7 := { stood := { row := curveSumsUptoRow, standIns := [], harness := (true, "6e970a94fbbc3216f24170a32beee8b3e3fc043cfb00898ca49fde554de441de"), looks := false }, kinds := [], alts := [], laidByText := true, laidKinds := [.data, .pinned], laidTests := true, laidLooks := .later }
def CurveSumsUptoCardSaid : Prop := Claim7.holds Tryz.pinned (.plain (OpenSpec.upto curveSumsSpec)) curveSumsUptoCard

/-- THE SECOND FORM's CARD OF 'guidepostlaw07.CurveTimes'. -/
def curveTimesUptoCard : Claim7 := { stood := { row := curveTimesUptoRow, standIns := [], harness := (true, "6e970a94fbbc3216f24170a32beee8b3e3fc043cfb00898ca49fde554de441de"), looks := false }, kinds := [], alts := [], laidByText := true, laidKinds := [.data, .pinned], laidTests := true, laidLooks := .later }
def CurveTimesUptoCardSaid : Prop := Claim7.holds Tryz.pinned (.plain (OpenSpec.upto curveTimesSpec)) curveTimesUptoCard

/-- THE SECOND FORM's CARD OF 'guidepostlaw07.CurveVerify'. -/
def curveVerifyUptoCard : Claim7 := { stood := { row := curveVerifyUptoRow, standIns := [], harness := (true, "6e970a94fbbc3216f24170a32beee8b3e3fc043cfb00898ca49fde554de441de"), looks := false }, kinds := [], alts := [], laidByText := true, laidKinds := [.data, .data, .pinned], laidTests := true, laidLooks := .later }
def CurveVerifyUptoCardSaid : Prop := Claim7.holds Tryz.pinned (.plain (OpenSpec.upto curveVerifySpec)) curveVerifyUptoCard
end Rows
end Go.Proofs.YtpimliebiapnfaaGreatDoor
