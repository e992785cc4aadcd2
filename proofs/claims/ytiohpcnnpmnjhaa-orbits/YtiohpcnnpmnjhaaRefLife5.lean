import Derived.Test.YtiohpcnnpmnjhaaRefLife4
namespace Go.Proofs.Ytiohpcnnpmnjhaa
open Go.RowKit
set_option linter.unusedVariables false

/-- By how much A must be moved to be B, if that can be. -/
def wayD (A B : List Cel) : Cel := ((cornP B).1 - (cornP A).1, (cornP B).2 - (cornP A).2)
def wayB (A B : List Cel) : Bool := decide (A.map (sh (wayD A B).1 (wayD A B).2) = B)

theorem rcornerAt (v : Value) (C : List Cel) (w : World) (h : RowAt w v C) (hl : C.length ≤ 1000000) (ha : Asc C) :
    Calls Try.prog 37 #[v] w fun e w' => e = .returned (.agg #[.int .i64 (cornP C).1, .int .i64 (cornP C).2]) ∧ Below w.heap.size w w' := by
  rcases h with ⟨rfl, rfl⟩ | ⟨g, cap, rfl, hS, hg⟩
  · exact rcorner_nil 0 w none
  · cases C with
    | nil => exact rcorner_nil cap w _
    | cons c r =>
      obtain ⟨x, y⟩ := c
      exact rcorner_row g cap x y ((x, y) :: r) w hS hg hl (by simp) (asc_first ha)

set_option maxRecDepth 100000 in
set_option maxHeartbeats 1600000 in
theorem way_any (v u : Value) (A B : List Cel) (w : World) (h : RowAt w v A) (h2 : RowAt w u B) (hl : A.length ≤ 1000000) (hl2 : B.length ≤ 1000000) (ha : Asc A) (hb : Asc B)
    (hF : Fits (wayD A B).1 (wayD A B).2 A) (hx : -9000000000000000000 ≤ (wayD A B).1 ∧ (wayD A B).1 ≤ 9000000000000000000) (hy : -9000000000000000000 ≤ (wayD A B).2 ∧ (wayD A B).2 ≤ 9000000000000000000) :
    Calls Try.prog 27 #[v, u] w fun e w' => e = .returned (.tuple #[.agg #[.int .i64 (wayD A B).1, .int .i64 (wayD A B).2], .bool (wayB A B)]) ∧ Below w.heap.size w w' := by
  have hcA := fun W (hR : RowAt W v A) => rcornerAt v A W hR (by omega) ha
  have hcB := fun W (hR : RowAt W u B) => rcornerAt u B W hR (by omega) hb
  have hM := fun W (hR : RowAt W v A) => rmoved_any v A (wayD A B).1 (wayD A B).2 W hR hl hF
  have hdx : (cornP B).1 - (cornP A).1 = (wayD A B).1 := rfl
  have hdy : (cornP B).2 - (cornP A).2 = (wayD A B).2 := rfl
  have HB : Hid (wayB A B = decide (A.map (sh (wayD A B).1 (wayD A B).2) = B)) := rfl
  obtain ⟨dx, hdxe⟩ : ∃ dx, (wayD A B).1 = dx := ⟨_, rfl⟩
  obtain ⟨dy, hdye⟩ : ∃ dy, (wayD A B).2 = dy := ⟨_, rfl⟩
  obtain ⟨ax, hax⟩ : ∃ ax, (cornP A).1 = ax := ⟨_, rfl⟩
  obtain ⟨ay, hay⟩ : ∃ ay, (cornP A).2 = ay := ⟨_, rfl⟩
  obtain ⟨bx, hbx⟩ : ∃ bx, (cornP B).1 = bx := ⟨_, rfl⟩
  obtain ⟨bY, hbY⟩ : ∃ bY, (cornP B).2 = bY := ⟨_, rfl⟩
  rw [hax, hbx, hdxe] at hdx
  rw [hay, hbY, hdye] at hdy
  rw [hdxe, hdye] at HB
  rw [hdxe] at hx
  rw [hdye] at hy
  simp only [hax, hay] at hcA
  simp only [hbx, hbY] at hcB
  simp only [hdxe, hdye] at hM
  rw [hdxe, hdye]
  have w1 : IntKind.i64.wrap (bx - ax) = dx := by rw [hdx]; exact IntWalk.i64_in _ ⟨by omega, by omega⟩
  have w2 : IntKind.i64.wrap (bY - ay) = dy := by rw [hdy]; exact IntWalk.i64_in _ ⟨by omega, by omega⟩
  have hd0 := hdx
  have hd1 := hdy
  clear hdxe hdye hax hay hbx hbY hF hdx hdy
  have hS := fun W m (hR : RowAt W m (A.map (sh dx dy))) (hR2 : RowAt W u B) => same_any m u (A.map (sh dx dy)) B W hR hR2 (by rw [List.length_map]; exact hl) hl2
  obtain ⟨wb, hwb⟩ : ∃ wb, decide (A.map (sh dx dy) = B) = wb := ⟨_, rfl⟩
  rw [hwb] at HB
  rw [HB.out]
  simp only [hwb] at hS
  clear hwb HB
  have r0 := blk_new w (.cells #[.int .i64 0, .int .i64 0] 72)
  have be0 : Below w.heap.size w (w.alloc (.cells #[.int .i64 0, .int .i64 0] 72)) := (Below.refl _ _).alloc (Nat.le_refl _) _
  go_enter Try.func27, Try.ntmps27
  go_wp2_with (first
    | (go_at_call 37; refine (hcA _ (h.below be0)).mono ?_; rintro e w3 ⟨rfl, b3⟩; clear hcA; have be3 := be0.trans (b3.mono be0.size); have r3 := (b3.block _ (blk_lt r0)).trans r0; have be4 := be3.alloc be3.size (.cells #[.int .i64 ax, .int .i64 ay] 72); have r4 := blk_old r3 (.cells #[.int .i64 ax, .int .i64 ay] 72); have p4 := blk_new w3 (.cells #[.int .i64 ax, .int .i64 ay] 72))
    | (go_at_call 37; refine (hcB _ (h2.below be4)).mono ?_; rintro e w5 ⟨rfl, b5⟩; clear hcB; have be5 := be4.trans (b5.mono be4.size); have r5 := (b5.block _ (blk_lt r4)).trans r4; have p5 := (b5.block _ (blk_lt p4)).trans p4; have z50 := cell_of p5 0; have z51 := cell_of p5 1; have l5 := blk_lt p5)
    | (go_at_call 38; refine (hM _ (h.below ?_)).mono ?_; (exact (be5.alloc be5.size _).alloc (by have := be5.size; simp; omega) _); rintro e w7 ⟨⟨vm, rfl, own7⟩, b7⟩; have be6 := (be5.alloc be5.size (.cells #[.int .i64 bx, .int .i64 bY] 72)).alloc (by have := be5.size; simp; omega) (.cells #[.int .i64 dx, .int .i64 dy] 72); have be7 := be6.trans (b7.mono be6.size); have d6 := blk_new (w5.alloc (.cells #[.int .i64 bx, .int .i64 bY] 72)) (.cells #[.int .i64 dx, .int .i64 dy] 72); have d7 := (b7.block _ (blk_lt d6)).trans d6; rw [World.size_alloc] at d7; have r6 := blk_old (blk_old r5 (.cells #[.int .i64 bx, .int .i64 bY] 72)) (.cells #[.int .i64 dx, .int .i64 dy] 72); have r7 := (b7.block _ (blk_lt r6)).trans r6; have z70 := cell_of d7 0; have z71 := cell_of d7 1; have l7 := blk_lt d7))
  have s5 := be5.size
  have nR : ¬ w.heap.size = w5.heap.size + 1 := by omega
  clear be0 be3 be4 be6 r0 r3 r4 r5 r6 p4 p5 z50 z51 d6
  go_region_with (go_at_call 39; refine (hS _ _ ?_ ?_).mono ?_; (first | exact RowAt.of_owns own7 | exact RowAt.of_owns (w := World.drew _) own7); (first | exact h2.below be7 | exact h2.below be7.drew); rintro e w8 ⟨rfl, b8⟩; have r8 := (b8.block _ (blk_lt r7)).trans r7; have d8 := (b8.block _ (blk_lt d7)).trans d7; have y0 := cell_of r8 0; have y1 := cell_of r8 1; have x0 := frz_of r8 0; have x1 := frz_of r8 1; have z80 := cell_of d8 0; have z81 := cell_of d8 1)
  all_goals
    go_wp2
    have rF : ((w8.setCell ⟨w.heap.size, 0, none⟩ (.int .i64 dx)).setCell ⟨w.heap.size, 1, none⟩ (.int .i64 dy)).heap[w.heap.size]? = some (.cells #[.int .i64 dx, .int .i64 dy] 72 (0, 0)) := blk_put (j := 1) (blk_put (j := 0) r8 _) _
    have k0 := cell_of rF 0
    have k1 := cell_of rF 1
    have bF : Below w.heap.size w ((w8.setCell ⟨w.heap.size, 0, none⟩ (.int .i64 dx)).setCell ⟨w.heap.size, 1, none⟩ (.int .i64 dy)) := ((be7.drew.trans (b8.mono be7.size)).setCell (p := ⟨w.heap.size, 0, none⟩) (Nat.le_refl _) _).setCell (p := ⟨w.heap.size, 1, none⟩) (Nat.le_refl _) _
    exact bodyPost_ret (v := .tuple #[.agg #[.int .i64 dx, .int .i64 dy], .bool wb]) (by simp [results, Try.results27, go_sem, k0, k1]) rfl ⟨rfl, by first | exact bF | exact bF.drew⟩

end Go.Proofs.Ytiohpcnnpmnjhaa
