import Derived.Test.YtiohpcnnpmnjhaaDoorPrintsProof
import Derived.Test.YtiohpcnnpmnjhaaDoorCards
import Derived.Test.YtiohpcnnpmnjhaaDoorTie
import Derived.SevenTiedAt
namespace Go.Proofs.YtiohpcnnpmnjhaaDoor
open Go

/-- The card. -/
theorem prints_card_holds : Rows.PrintsCardSaid :=
  Claim7.holds_tied_plain_at .later [] [.data, .data, .data] true (true, "de967703e47825b5c7e3e5016a9ed40539d1a01a3b22dfd89677e183de10af32") true
    prints_row_holds (fun _ h => by cases h) (by kernel_rfl) (fun _ h => by cases h) prints_row_tie rfl ⟨rfl, rfl⟩ (by kernel_rfl) rfl
    (fun f fn hf hfn => by
      obtain rfl : f = 3 := Option.some.inj ((show Tryd.prog.funcNamed "orbit/orbitlaw.Prints" = some 3 by kernel_rfl).symm.trans hf) |>.symm
      obtain rfl : fn = Tryd.f3 := (Option.some.inj (Tryd.func3.symm.trans hfn)).symm
      exact ⟨by kernel_rfl, fun j t ht => by
        rw [Tryd.params3] at ht
        have hm : t ∈ [9] := by simpa using Array.mem_of_getElem? ht
        have hall : ([9].all fun u => !Tryd.prog.wantsStandIn u) = true := by kernel_rfl
        exact (show Tryd.prog.wantsStandIn t = false by simpa using List.all_eq_true.1 hall t hm)⟩)
    (by kernel_rfl)
#print axioms prints_card_holds

end Go.Proofs.YtiohpcnnpmnjhaaDoor
