import Derived.Test.YtiohpcnnpmnjhaaGreatDoorCompare
namespace Go.Proofs.YtiohpcnnpmnjhaaGreatDoor
open Go.RowKit
set_option linter.unusedVariables false

set_option maxRecDepth 100000 in
set_option maxHeartbeats 12800000 in
theorem compare_any (a b c d : Int) (w : World) :
    Calls Tryz.prog 111 #[.agg #[.int .i64 a, .int .i64 b], .agg #[.int .i64 c, .int .i64 d]] w fun e w' => e = .returned (.int .i64 (cmpC (a, b) (c, d))) ∧ w' = (((w.alloc (.cells #[.int .i64 a, .int .i64 b] 113)).alloc (.cells #[.int .i64 c, .int .i64 d] 113)).alloc (.cells #[.int .i64 (cmpI b d), .int .i64 (cmpI a c)] 3)).drew := by
  have h1 := fun w => cmpInt_any b d w
  have h2 := fun w => cmpInt_any a c w
  have hC : Hid (cmpC (a, b) (c, d) = if cmpI b d = 0 then cmpI a c else cmpI b d) := rfl
  obtain ⟨p, hp⟩ : ∃ p, cmpI b d = p := ⟨_, rfl⟩
  obtain ⟨q, hq⟩ : ∃ q, cmpI a c = q := ⟨_, rfl⟩
  simp only [hp] at h1
  simp only [hq] at h2
  rw [hp, hq] at hC
  rw [hp, hq]
  clear hp hq
  have hz := blk_new ((w.alloc (.cells #[.int .i64 a, .int .i64 b] 113)).alloc (.cells #[.int .i64 c, .int .i64 d] 113)) (.cells #[.int .i64 p, .int .i64 q] 3)
  simp only [World.size_alloc] at hz
  have hz' : (((w.alloc (.cells #[.int .i64 a, .int .i64 b] 113)).alloc (.cells #[.int .i64 c, .int .i64 d] 113)).alloc (.cells #[.int .i64 p, .int .i64 q] 3)).drew.heap[w.heap.size + 1 + 1]? = some (.cells #[.int .i64 p, .int .i64 q] 3 (0, 0)) := hz
  obtain ⟨r, hr⟩ : ∃ r, (if p = 0 then q else p) = r := ⟨_, rfl⟩
  have hO := fun g W h0 h1 => cmpOr_any p q g W h0 h1
  simp only [hr] at hO
  rw [hr] at hC
  clear hr
  go_enter Tryz.func111, Tryz.ntmps111
  go_wp2
  go_region_with (first
    | (go_at_call_of 129 (Value.int IntKind.i64 b); refine (h1 _).mono ?_; rintro e w1 ⟨rfl, rfl⟩)
    | (go_at_call_of 129 (Value.int IntKind.i64 a); refine (h2 _).mono ?_; rintro e w1 ⟨rfl, rfl⟩)
    | (go_at_call 128; refine (hO _ _ (cell_of hz' 0) (cell_of hz' 1)).mono ?_; rintro e w3 ⟨rfl, rfl⟩))
  all_goals
    go_wp2
    go_ret
    exact ⟨ret_int (a := r) hC.out.symm, rfl⟩

end Go.Proofs.YtiohpcnnpmnjhaaGreatDoor
