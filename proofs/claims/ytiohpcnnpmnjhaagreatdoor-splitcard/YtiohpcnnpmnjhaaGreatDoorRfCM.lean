import Derived.Test.YtiohpcnnpmnjhaaGreatDoorRefRead
import Derived.Test.YtiohpcnnpmnjhaaGreatDoorFrmM
namespace Go.Proofs.YtiohpcnnpmnjhaaGreatDoor
open Go.RowKit
set_option linter.unusedVariables false

theorem rnumTok_end {s : ByteArray} {j : Nat} (h : s.size ≤ j) : rnumTok s j = none := by
  unfold rnumTok
  rw [if_neg (by rw [pk_out (by omega)]; decide), if_pos (.inl (skip_end h))]

theorem rnumTok_le {s : ByteArray} {i j : Nat} {z : Int} (hi : i ≤ s.size) (h : rnumTok s i = some (z, j)) : i < j ∧ j ≤ s.size := by
  unfold rnumTok at h
  split at h
  · rename_i h1
    have hl := lt_of_pk (s := s) (i := i) (by omega)
    have hk := dg_le s (i + 1) (by omega)
    split at h
    · cases h
    · rename_i h2
      simp only [Option.some.injEq, Prod.mk.injEq] at h
      obtain ⟨_, rfl⟩ := h
      omega
  · have hk := dg_le s i hi
    split at h
    · cases h
    · rename_i h2
      simp only [Option.some.injEq, Prod.mk.injEq] at h
      obtain ⟨_, rfl⟩ := h
      omega

abbrev runs0 : Obj := .cells #[.int .i64 0, .int .i64 0, .slice none 0 0, .string ⟨#[]⟩] 97 (0, 0)

set_option maxHeartbeats 800000 in
theorem rread_x (b : Nat) (s : ByteArray) (w : World) (h : RAt w b s 0 false) (hs : s.size ≤ 1500) (h1 : rnumTok s (bl s 0) = none) :
    Calls Tryz.prog 52 #[.pointer (some ⟨b, 0, none⟩)] w (ReadOut b s w (.inl (bl s 0))) := by
  have hb0 := bl_le s 0 (by omega)
  have hlt := h.lt
  obtain ⟨T, hT⟩ : ∃ T, w.heap.size + 1 = T := ⟨_, rfl⟩
  have nbT : ¬ b = T := by omega
  have nTb : ¬ T = b := by omega
  have nRb : w.heap.size ≠ b := by omega
  have nRT : w.heap.size ≠ T := by omega
  have a1 := (h.alloc (.cells #[.int .i64 0, .int .i64 0, .slice none 0 0, .string ⟨#[]⟩] 97)).alloc (.cells #[.int .i64 0, .int .i64 0, .slice none 0 0, .string ⟨#[]⟩] 97)
  have t1 : ((w.alloc (.cells #[.int .i64 0, .int .i64 0, .slice none 0 0, .string ⟨#[]⟩] 97)).alloc (.cells #[.int .i64 0, .int .i64 0, .slice none 0 0, .string ⟨#[]⟩] 97)).heap[T]? = some (runsT 0 0 (.slice none 0 0) ⟨#[]⟩) := by
    have := blk_new (w.alloc (.cells #[.int .i64 0, .int .i64 0, .slice none 0 0, .string ⟨#[]⟩] 97)) (.cells #[.int .i64 0, .int .i64 0, .slice none 0 0, .string ⟨#[]⟩] 97)
    rw [World.size_alloc, hT] at this; exact this
  have r1 : ((w.alloc (.cells #[.int .i64 0, .int .i64 0, .slice none 0 0, .string ⟨#[]⟩] 97)).alloc (.cells #[.int .i64 0, .int .i64 0, .slice none 0 0, .string ⟨#[]⟩] 97)).heap[w.heap.size]? = some (runsT 0 0 (.slice none 0 0) ⟨#[]⟩) := blk_old (blk_new w _) _
  have hB0 := rblanks_any b s 0 false _ a1 (by omega) hs
  have hN0 := rnumber_none b s (bl s 0) h1 hb0.2 hs
  go_enter Tryz.func52, Tryz.ntmps52
  go_wp2_with (first
    | (go_at_call 78; refine hB0.mono ?_; rintro e w2 ⟨rfl, a2, n2⟩; have t2 := (n2.block T nTb).trans t1; have r2 := (n2.block w.heap.size nRb).trans r1; clear hB0)
    | (go_at_call 79; refine (hN0 _ a2).mono ?_; rintro e w3 ⟨rfl, a3, n3⟩; have t3 := (n3.block T nTb).trans t2; have r3 := (n3.block w.heap.size nRb).trans r2; have q1 := cell_of t3 0; have q2 := frz_of t3 0; have a4 := a3.other (a := ⟨T, 0, none⟩) nbT (.int .i64 0); have ⟨d0, d1, d2, d3, d4⟩ := a4; have t4 : (w3.setCell ⟨T, 0, none⟩ (.int .i64 0)).heap[T]? = some (runsT 0 0 (.slice none 0 0) ⟨#[]⟩) := blk_put t3 _; have r4 := blk_set (a := ⟨T, 0, none⟩) r3 nRT (.int .i64 0); clear hN0; have q0 := cell_of t4 0; have q11 := cell_of t4 1; have q22 := cell_of t4 2; have q3 := cell_of t4 3; have y0 := cell_of r4 0; have y1 := cell_of r4 1; have y2 := cell_of r4 2; have y3 := cell_of r4 3; have x0 := frz_of r4 0; have x1 := frz_of r4 1; have x2 := frz_of r4 2; have x3 := frz_of r4 3))
  have pF : Pad b w.heap.size w (w3.setCell ⟨T, 0, none⟩ (.int .i64 0)) := (((((Pad.refl b w.heap.size w).alloc (Nat.le_refl _) (.cells #[.int .i64 0, .int .i64 0, .slice none 0 0, .string ⟨#[]⟩] 97)).alloc (by simp) (.cells #[.int .i64 0, .int .i64 0, .slice none 0 0, .string ⟨#[]⟩] 97)).trans n2.pad).trans n3.pad).set (a := ⟨T, 0, none⟩) (by show w.heap.size ≤ T; omega) (.int .i64 0)
  refine read_ret (W := w3.setCell ⟨T, 0, none⟩ (.int .i64 0)) (x := 0) (y := 0) (v := .slice none 0 0) (kd := ⟨#[]⟩) ⟨_, _, _, rfl⟩ rfl rfl r4 ?_
  rintro W' rfl
  have ⟨f1, f2, f3⟩ := ret4 (x := 0) (y := 0) (v := .slice none 0 0) (kd := ⟨#[]⟩) pF a4 nRb.symm r4
  exact ⟨f1, ⟨_, _, _, _, _, _, rfl⟩, f2⟩

set_option maxRecDepth 100000 in
set_option maxHeartbeats 1600000 in
theorem rread_gap (b : Nat) (s : ByteArray) (x : Int) (j : Nat) (w : World) (h : RAt w b s 0 false) (hs : s.size ≤ 1500) (h1 : rnumTok s (bl s 0) = some (x, j)) (hj : bl s 0 ≤ j ∧ j ≤ s.size) (h2 : bl s j = j) :
    Calls Tryz.prog 52 #[.pointer (some ⟨b, 0, none⟩)] w (ReadOut b s w (.inl j)) := by
  have hb0 := bl_le s 0 (by omega)
  have hlt := h.lt
  obtain ⟨T, hT⟩ : ∃ T, w.heap.size + 1 = T := ⟨_, rfl⟩
  have nbT : ¬ b = T := by omega
  have nTb : ¬ T = b := by omega
  have nRb : w.heap.size ≠ b := by omega
  have nRT : w.heap.size ≠ T := by omega
  have a1 := (h.alloc (.cells #[.int .i64 0, .int .i64 0, .slice none 0 0, .string ⟨#[]⟩] 97)).alloc (.cells #[.int .i64 0, .int .i64 0, .slice none 0 0, .string ⟨#[]⟩] 97)
  have t1 : ((w.alloc (.cells #[.int .i64 0, .int .i64 0, .slice none 0 0, .string ⟨#[]⟩] 97)).alloc (.cells #[.int .i64 0, .int .i64 0, .slice none 0 0, .string ⟨#[]⟩] 97)).heap[T]? = some (runsT 0 0 (.slice none 0 0) ⟨#[]⟩) := by
    have := blk_new (w.alloc (.cells #[.int .i64 0, .int .i64 0, .slice none 0 0, .string ⟨#[]⟩] 97)) (.cells #[.int .i64 0, .int .i64 0, .slice none 0 0, .string ⟨#[]⟩] 97)
    rw [World.size_alloc, hT] at this; exact this
  have r1 : ((w.alloc (.cells #[.int .i64 0, .int .i64 0, .slice none 0 0, .string ⟨#[]⟩] 97)).alloc (.cells #[.int .i64 0, .int .i64 0, .slice none 0 0, .string ⟨#[]⟩] 97)).heap[w.heap.size]? = some (runsT 0 0 (.slice none 0 0) ⟨#[]⟩) := blk_old (blk_new w _) _
  have hB0 := rblanks_any b s 0 false _ a1 (by omega) hs
  have hN0 := rnumber_some b s (bl s 0) x j h1 hb0.2 hs
  have hB1 := fun (w : World) (h : RAt w b s j false) => rblanks_any b s j false w h hj.2 hs
  have hdj : decide (j < bl s j) = false := by rw [h2]; simp
  simp only [hdj] at hB1
  simp only [h2] at hB1
  by_cases hjs : j < s.size
  · have hdc : decide ((j : Int) < (s.size : Int)) = true := by simp; omega
    clear h2 hdj
    go_enter Tryz.func52, Tryz.ntmps52
    go_wp2_with (first
      | (go_at_call 78; refine hB0.mono ?_; rintro e w2 ⟨rfl, a2, n2⟩; have t2 := (n2.block T nTb).trans t1; have r2 := (n2.block w.heap.size nRb).trans r1; clear hB0)
      | (go_at_call 79; refine (hN0 _ a2).mono ?_; rintro e w3 ⟨rfl, a3, n3⟩; have t3 := (n3.block T nTb).trans t2; have r3 := (n3.block w.heap.size nRb).trans r2; have q1 := cell_of t3 0; have q2 := frz_of t3 0; have a4 := a3.other (a := ⟨T, 0, none⟩) nbT (.int .i64 x); have ⟨d0, d1, d2, d3, d4⟩ := a4; have t4 : (w3.setCell ⟨T, 0, none⟩ (.int .i64 x)).heap[T]? = some (runsT x 0 (.slice none 0 0) ⟨#[]⟩) := blk_put t3 _; have r4 := blk_set (a := ⟨T, 0, none⟩) r3 nRT (.int .i64 x); clear hN0)
      | (go_at_call 78; refine (hB1 _ a4).mono ?_; rintro e w5 ⟨rfl, a5, n5⟩; have t5 := (n5.block T nTb).trans t4; have r5 := (n5.block w.heap.size nRb).trans r4; have ⟨g0, g1, g2, g3, g4⟩ := a5; have q0 := cell_of t5 0; have q11 := cell_of t5 1; have q22 := cell_of t5 2; have q3 := cell_of t5 3; have y0 := cell_of r5 0; have y1 := cell_of r5 1; have y2 := cell_of r5 2; have y3 := cell_of r5 3; have x0 := frz_of r5 0; have x1 := frz_of r5 1; have x2 := frz_of r5 2; have x3 := frz_of r5 3))
    go_quiet (fail)
    go_wp2
    have pF : Pad b w.heap.size w w5 := ((((((Pad.refl b w.heap.size w).alloc (Nat.le_refl _) (.cells #[.int .i64 0, .int .i64 0, .slice none 0 0, .string ⟨#[]⟩] 97)).alloc (by simp) (.cells #[.int .i64 0, .int .i64 0, .slice none 0 0, .string ⟨#[]⟩] 97)).trans n2.pad).trans n3.pad).set (a := ⟨T, 0, none⟩) (by show w.heap.size ≤ T; omega) (.int .i64 x)).trans n5.pad
    have rF : ∀ N, ((w5.drewN N).setCell ⟨b, 2, none⟩ (.bool true)).heap[w.heap.size]? = some (runsT 0 0 (.slice none 0 0) ⟨#[]⟩) := fun N => blk_set (a := ⟨b, 2, none⟩) (show (w5.drewN N).heap[w.heap.size]? = _ from r5) nRb (.bool true)
    have aF := fun N => (a5.drewN N).setBad true
    have pF2 : ∀ N, Pad b w.heap.size w ((w5.drewN N).setCell ⟨b, 2, none⟩ (.bool true)) := fun N => (pF.drewN N).setCell 2 _
    refine read_ret (W := (w5.drewN _).setCell ⟨b, 2, none⟩ (.bool true)) (x := x) (y := 0) (v := .slice none 0 0) (kd := ⟨#[]⟩) ⟨_, _, _, rfl⟩ rfl rfl (rF _) ?_
    rintro W' rfl
    exact ⟨(ret4 (pF2 _) (aF _) nRb.symm (rF _)).1, ⟨_, _, _, _, _, _, rfl⟩, (ret4 (pF2 _) (aF _) nRb.symm (rF _)).2.1⟩
  · have hdc : decide ((j : Int) < (s.size : Int)) = false := by simp; omega
    have hN1 := rnumber_none b s j (rnumTok_end (by omega)) hj.2 hs
    clear h2 hdj
    go_enter Tryz.func52, Tryz.ntmps52
    go_wp2_with (first
      | (go_at_call 78; refine hB0.mono ?_; rintro e w2 ⟨rfl, a2, n2⟩; have t2 := (n2.block T nTb).trans t1; have r2 := (n2.block w.heap.size nRb).trans r1; clear hB0)
      | (go_at_call 79; refine (hN0 _ a2).mono ?_; rintro e w3 ⟨rfl, a3, n3⟩; have t3 := (n3.block T nTb).trans t2; have r3 := (n3.block w.heap.size nRb).trans r2; have q1 := cell_of t3 0; have q2 := frz_of t3 0; have a4 := a3.other (a := ⟨T, 0, none⟩) nbT (.int .i64 x); have ⟨d0, d1, d2, d3, d4⟩ := a4; have t4 : (w3.setCell ⟨T, 0, none⟩ (.int .i64 x)).heap[T]? = some (runsT x 0 (.slice none 0 0) ⟨#[]⟩) := blk_put t3 _; have r4 := blk_set (a := ⟨T, 0, none⟩) r3 nRT (.int .i64 x); clear hN0)
      | (go_at_call 78; refine (hB1 _ a4).mono ?_; rintro e w5 ⟨rfl, a5, n5⟩; have t5 := (n5.block T nTb).trans t4; have r5 := (n5.block w.heap.size nRb).trans r4; have ⟨g0, g1, g2, g3, g4⟩ := a5))
    go_quiet (fail)
    go_wp2_with (go_at_call 79; refine (hN1 _ (a5.drewN _)).mono ?_; rintro e w6 ⟨rfl, a6, n6⟩; have t6 := (n6.block T nTb).trans (show (w5.drewN _).heap[T]? = _ from t5); have r6 := (n6.block w.heap.size nRb).trans (show (w5.drewN _).heap[w.heap.size]? = _ from r5); have q3 := cell_of t6 1; have q4 := frz_of t6 1; have a7 := a6.other (a := ⟨T, 1, none⟩) nbT (.int .i64 0); have ⟨p0, p1, p2, p3, p4⟩ := a7; have t7 : (w6.setCell ⟨T, 1, none⟩ (.int .i64 0)).heap[T]? = some (runsT x 0 (.slice none 0 0) ⟨#[]⟩) := blk_put t6 _; have r7 := blk_set (a := ⟨T, 1, none⟩) r6 nRT (.int .i64 0); have q0 := cell_of t7 0; have q11 := cell_of t7 1; have q22 := cell_of t7 2; have q33 := cell_of t7 3; have y0 := cell_of r7 0; have y1 := cell_of r7 1; have y2 := cell_of r7 2; have y3 := cell_of r7 3; have x0 := frz_of r7 0; have x1 := frz_of r7 1; have x2 := frz_of r7 2; have x3 := frz_of r7 3)
    have pF : Pad b w.heap.size w w5 := ((((((Pad.refl b w.heap.size w).alloc (Nat.le_refl _) (.cells #[.int .i64 0, .int .i64 0, .slice none 0 0, .string ⟨#[]⟩] 97)).alloc (by simp) (.cells #[.int .i64 0, .int .i64 0, .slice none 0 0, .string ⟨#[]⟩] 97)).trans n2.pad).trans n3.pad).set (a := ⟨T, 0, none⟩) (by show w.heap.size ≤ T; omega) (.int .i64 x)).trans n5.pad
    have pF2 : Pad b w.heap.size w (w6.setCell ⟨T, 1, none⟩ (.int .i64 0)) := ((pF.drewN _).trans n6.pad).set (a := ⟨T, 1, none⟩) (by show w.heap.size ≤ T; omega) (.int .i64 0)
    go_loopg [] 0 (fun g wr => g = 0 ∧ wr = w6.setCell ⟨T, 1, none⟩ (.int .i64 0))
    case atStart => exact ⟨rfl, rfl⟩
    case round =>
      obtain ⟨rfl, rfl⟩ := hrel
      go_wp2
      refine read_ret (W := w6.setCell ⟨T, 1, none⟩ (.int .i64 0)) (x := x) (y := 0) (v := .slice none 0 0) (kd := ⟨#[]⟩) ⟨_, _, _, rfl⟩ rfl rfl r7 ?_
      rintro W' rfl
      exact ⟨(ret4 pF2 a7 nRb.symm r7).1, ⟨_, _, _, _, _, _, rfl⟩, (ret4 pF2 a7 nRb.symm r7).2.1⟩

set_option maxRecDepth 100000 in
set_option maxHeartbeats 1600000 in
theorem rread_y (b : Nat) (s : ByteArray) (x : Int) (j : Nat) (w : World) (h : RAt w b s 0 false) (hs : s.size ≤ 1500) (h1 : rnumTok s (bl s 0) = some (x, j)) (hj : bl s 0 ≤ j ∧ j ≤ s.size) (h2 : j < bl s j) (h3 : rnumTok s (bl s j) = none) :
    Calls Tryz.prog 52 #[.pointer (some ⟨b, 0, none⟩)] w (ReadOut b s w (.inl (bl s j))) := by
  have hb0 := bl_le s 0 (by omega)
  have hb1 := bl_le s j hj.2
  have hlt := h.lt
  obtain ⟨T, hT⟩ : ∃ T, w.heap.size + 1 = T := ⟨_, rfl⟩
  have nbT : ¬ b = T := by omega
  have nTb : ¬ T = b := by omega
  have nRb : w.heap.size ≠ b := by omega
  have nRT : w.heap.size ≠ T := by omega
  have a1 := (h.alloc (.cells #[.int .i64 0, .int .i64 0, .slice none 0 0, .string ⟨#[]⟩] 97)).alloc (.cells #[.int .i64 0, .int .i64 0, .slice none 0 0, .string ⟨#[]⟩] 97)
  have t1 : ((w.alloc (.cells #[.int .i64 0, .int .i64 0, .slice none 0 0, .string ⟨#[]⟩] 97)).alloc (.cells #[.int .i64 0, .int .i64 0, .slice none 0 0, .string ⟨#[]⟩] 97)).heap[T]? = some (runsT 0 0 (.slice none 0 0) ⟨#[]⟩) := by
    have := blk_new (w.alloc (.cells #[.int .i64 0, .int .i64 0, .slice none 0 0, .string ⟨#[]⟩] 97)) (.cells #[.int .i64 0, .int .i64 0, .slice none 0 0, .string ⟨#[]⟩] 97)
    rw [World.size_alloc, hT] at this; exact this
  have r1 : ((w.alloc (.cells #[.int .i64 0, .int .i64 0, .slice none 0 0, .string ⟨#[]⟩] 97)).alloc (.cells #[.int .i64 0, .int .i64 0, .slice none 0 0, .string ⟨#[]⟩] 97)).heap[w.heap.size]? = some (runsT 0 0 (.slice none 0 0) ⟨#[]⟩) := blk_old (blk_new w _) _
  have hB0 := rblanks_any b s 0 false _ a1 (by omega) hs
  have hN0 := rnumber_some b s (bl s 0) x j h1 hb0.2 hs
  have hB1 := fun (w : World) (h : RAt w b s j false) => rblanks_any b s j false w h hj.2 hs
  have hN1 := rnumber_none b s (bl s j) h3 hb1.2 hs
  have hdj : decide (j < bl s j) = true := by simpa using h2
  simp only [hdj] at hB1
  obtain ⟨J, hJ⟩ : ∃ J, bl s j = J := ⟨_, rfl⟩
  rw [hJ] at h2 h3 hb1 hdj
  simp only [hJ] at hB1 hN1
  rw [hJ]
  clear hJ h3
  go_enter Tryz.func52, Tryz.ntmps52
  go_wp2_with (first
    | (go_at_call 78; refine hB0.mono ?_; rintro e w2 ⟨rfl, a2, n2⟩; have t2 := (n2.block T nTb).trans t1; have r2 := (n2.block w.heap.size nRb).trans r1; clear hB0)
    | (go_at_call 79; refine (hN0 _ a2).mono ?_; rintro e w3 ⟨rfl, a3, n3⟩; have t3 := (n3.block T nTb).trans t2; have r3 := (n3.block w.heap.size nRb).trans r2; have q1 := cell_of t3 0; have q2 := frz_of t3 0; have a4 := a3.other (a := ⟨T, 0, none⟩) nbT (.int .i64 x); have ⟨d0, d1, d2, d3, d4⟩ := a4; have t4 : (w3.setCell ⟨T, 0, none⟩ (.int .i64 x)).heap[T]? = some (runsT x 0 (.slice none 0 0) ⟨#[]⟩) := blk_put t3 _; have r4 := blk_set (a := ⟨T, 0, none⟩) r3 nRT (.int .i64 x); clear hN0)
    | (go_at_call 78; refine (hB1 _ a4).mono ?_; rintro e w5 ⟨rfl, a5, n5⟩; have t5 := (n5.block T nTb).trans t4; have r5 := (n5.block w.heap.size nRb).trans r4; have ⟨g0, g1, g2, g3, g4⟩ := a5))
  go_quiet (fail)
  go_wp2_with (go_at_call 79; refine (hN1 _ (a5.drewN _)).mono ?_; rintro e w6 ⟨rfl, a6, n6⟩; have t6 := (n6.block T nTb).trans (show (w5.drewN _).heap[T]? = _ from t5); have r6 := (n6.block w.heap.size nRb).trans (show (w5.drewN _).heap[w.heap.size]? = _ from r5); have q3 := cell_of t6 1; have q4 := frz_of t6 1; have a7 := a6.other (a := ⟨T, 1, none⟩) nbT (.int .i64 0); have ⟨p0, p1, p2, p3, p4⟩ := a7; have t7 : (w6.setCell ⟨T, 1, none⟩ (.int .i64 0)).heap[T]? = some (runsT x 0 (.slice none 0 0) ⟨#[]⟩) := blk_put t6 _; have r7 := blk_set (a := ⟨T, 1, none⟩) r6 nRT (.int .i64 0); have q0 := cell_of t7 0; have q11 := cell_of t7 1; have q22 := cell_of t7 2; have q33 := cell_of t7 3; have y0 := cell_of r7 0; have y1 := cell_of r7 1; have y2 := cell_of r7 2; have y3 := cell_of r7 3; have x0 := frz_of r7 0; have x1 := frz_of r7 1; have x2 := frz_of r7 2; have x3 := frz_of r7 3)
  have pF : Pad b w.heap.size w w5 := ((((((Pad.refl b w.heap.size w).alloc (Nat.le_refl _) (.cells #[.int .i64 0, .int .i64 0, .slice none 0 0, .string ⟨#[]⟩] 97)).alloc (by simp) (.cells #[.int .i64 0, .int .i64 0, .slice none 0 0, .string ⟨#[]⟩] 97)).trans n2.pad).trans n3.pad).set (a := ⟨T, 0, none⟩) (by show w.heap.size ≤ T; omega) (.int .i64 x)).trans n5.pad
  have pF2 : Pad b w.heap.size w (w6.setCell ⟨T, 1, none⟩ (.int .i64 0)) := ((pF.drewN _).trans n6.pad).set (a := ⟨T, 1, none⟩) (by show w.heap.size ≤ T; omega) (.int .i64 0)
  go_loopg [] 0 (fun g wr => g = 0 ∧ wr = w6.setCell ⟨T, 1, none⟩ (.int .i64 0))
  case atStart => exact ⟨rfl, rfl⟩
  case round =>
    obtain ⟨rfl, rfl⟩ := hrel
    go_wp2
    refine read_ret (W := w6.setCell ⟨T, 1, none⟩ (.int .i64 0)) (x := x) (y := 0) (v := .slice none 0 0) (kd := ⟨#[]⟩) ⟨_, _, _, rfl⟩ rfl rfl r7 ?_
    rintro W' rfl
    exact ⟨(ret4 pF2 a7 nRb.symm r7).1, ⟨_, _, _, _, _, _, rfl⟩, (ret4 pF2 a7 nRb.symm r7).2.1⟩

/-- The reference's reading, whole. -/
theorem rread_any (b : Nat) (s : ByteArray) (w : World) (h : RAt w b s 0 false) (hs : s.size ≤ 1500) :
    Calls Tryz.prog 52 #[.pointer (some ⟨b, 0, none⟩)] w (ReadOut b s w (rparse s)) := by
  have l0 := bl_le s 0 (Nat.zero_le _)
  unfold rparse
  split
  · rename_i h1
    exact rread_x b s w h hs h1
  · rename_i x j h1
    have l1 := rnumTok_le l0.2 h1
    have l2 := bl_le s j l1.2
    split
    · rename_i h2
      exact rread_gap b s x j w h hs h1 ⟨by omega, l1.2⟩ h2
    · rename_i h2
      split
      · rename_i h3
        exact rread_y b s x j w h hs h1 ⟨by omega, l1.2⟩ (by omega) h3
      · rename_i y k h3
        have l3 := rnumTok_le l2.2 h3
        exact rread_loop b s x y j k w h hs h1 ⟨by omega, l1.2⟩ (by omega) h3 l3.2

/-- A number far out is far out in both readings; else they are the same. -/
theorem rnumTok_num {s : ByteArray} {i : Nat} (hi : i ≤ s.size) : (rnumTok s i = none ∧ numTok s i = none) ∨ ∃ x x' j, rnumTok s i = some (x, j) ∧ numTok s i = some (x', j) ∧ -2000000000000000009 ≤ x ∧ x ≤ 2000000000000000009 ∧ (x = x' ∨ (2000000000000000000 < x ∧ 2000000000000000000 < x') ∨ (x < -2000000000000000000 ∧ x' < -2000000000000000000)) := by
  unfold rnumTok numTok
  by_cases hn : pk s i = 45
  · have hl := lt_of_pk (s := s) (i := i) (by omega)
    rw [if_pos hn, if_pos hn]
    split
    · exact .inl ⟨rfl, rfl⟩
    · have hd : ∀ j, j < dg s (i + 1) - (i + 1) → isDg (pk s (i + 1 + j)) = true := fun j hj => skip_all (i := i + 1) (by omega) (by omega) (by show i + 1 + j < dg s (i + 1); omega)
      have h1 := tenV_le s (i + 1) _ hd
      have h2 := tenV_dv s (i + 1) _ hd
      refine .inr ⟨_, _, _, rfl, rfl, by omega, by omega, ?_⟩
      omega
  · rw [if_neg hn, if_neg hn]
    split
    · exact .inl ⟨rfl, rfl⟩
    · have hd : ∀ j, j < dg s i - i → isDg (pk s (i + j)) = true := fun j hj => skip_all hi (by omega) (by show i + j < dg s i; omega)
      have h1 := tenV_le s i _ hd
      have h2 := tenV_dv s i _ hd
      refine .inr ⟨_, _, _, rfl, rfl, by omega, by omega, ?_⟩
      omega

/-- How near the two readings are. -/
theorem rparse_parse (s : ByteArray) (hs : s.size ≤ 1500) : (∃ i, rparse s = .inl i ∧ parse s = .inl i) ∨ ∃ x y x' y' l, rparse s = .inr (x, y, l) ∧ parse s = .inr (x', y', l) ∧ -2000000000000000009 ≤ x ∧ x ≤ 2000000000000000009 ∧ -2000000000000000009 ≤ y ∧ y ≤ 2000000000000000009 ∧ farB x y = farB x' y' ∧ (farB x y = false → x = x' ∧ y = y') := by
  have l0 := bl_le s 0 (Nat.zero_le _)
  unfold rparse parse
  rcases rnumTok_num l0.2 with ⟨e1, e2⟩ | ⟨x, x', j, e1, e2, b1, b2, b3⟩
  · rw [e1, e2]; exact .inl ⟨_, rfl, rfl⟩
  rw [e1, e2]
  simp only
  have l1 := rnumTok_le l0.2 e1
  have l2 := bl_le s j l1.2
  split
  · exact .inl ⟨_, rfl, rfl⟩
  rcases rnumTok_num l2.2 with ⟨e3, e4⟩ | ⟨y, y', k, e3, e4, c1, c2, c3⟩
  · rw [e3, e4]; exact .inl ⟨_, rfl, rfl⟩
  rw [e3, e4]
  simp only
  rcases hr : runsAt s (bl s k) with e | ⟨l, e⟩
  · exact .inl ⟨_, rfl, rfl⟩
  · simp only [rtail]
    split
    · exact .inl ⟨_, rfl, rfl⟩
    · refine .inr ⟨x, y, x', y', l, rfl, rfl, b1, b2, c1, c2, ?_, ?_⟩
      · rw [Bool.eq_iff_iff]; simp only [farB, MC, Bool.or_eq_true, decide_eq_true_eq]; omega
      · simp only [farB, MC, Bool.or_eq_false_iff, decide_eq_false_iff_not]; omega

end Go.Proofs.YtiohpcnnpmnjhaaGreatDoor

namespace Go.Proofs.YtiohpcnnpmnjhaaGreatDoor
open Go.RowKit
set_option linter.unusedVariables false

set_option maxHeartbeats 800000 in
theorem near_any (x y : Int) (w : World) :
    Calls Tryz.prog 53 #[.agg #[.int .i64 x, .int .i64 y]] w fun e w' => e = .returned (.bool (!farB x y)) ∧ w' = w.alloc (.cells #[.int .i64 x, .int .i64 y] 44) := by
  by_cases h1 : -2000000000000000000 ≤ x
  · by_cases h2 : x ≤ 2000000000000000000
    · by_cases h3 : -2000000000000000000 ≤ y
      · by_cases h4 : y ≤ 2000000000000000000
        · go_enter Tryz.func53, Tryz.ntmps53
          go_wp2
          go_ret
          exact ⟨ret_bool (by rw [show farB x y = false by simp [farB, MC]; omega]; rfl), rfl⟩
        · go_enter Tryz.func53, Tryz.ntmps53
          go_wp2
          go_ret
          exact ⟨ret_bool (by rw [show farB x y = true by simp [farB, MC]; omega]; rfl), rfl⟩
      · go_enter Tryz.func53, Tryz.ntmps53
        go_wp2
        go_ret
        exact ⟨ret_bool (by rw [show farB x y = true by simp [farB, MC]; omega]; rfl), rfl⟩
    · go_enter Tryz.func53, Tryz.ntmps53
      go_wp2
      go_ret
      exact ⟨ret_bool (by rw [show farB x y = true by simp [farB, MC]; omega]; rfl), rfl⟩
  · go_enter Tryz.func53, Tryz.ntmps53
    go_wp2
    go_ret
    exact ⟨ret_bool (by rw [show farB x y = true by simp [farB, MC]; omega]; rfl), rfl⟩

/-- More spans only come behind. -/
theorem penGo_pre (x0 : Int) (st : Int × Int × List Span) (r : Nat × Int) : ∃ m, (penGo x0 st r).2.2 = st.2.2 ++ m := by
  unfold penGo
  split
  · exact ⟨[], by simp⟩
  · split
    · exact ⟨_, rfl⟩
    · exact ⟨[], by simp⟩
theorem penFold_pre (x0 : Int) : ∀ (l : List (Nat × Int)) (st : Int × Int × List Span), ∃ m, (l.foldl (penGo x0) st).2.2 = st.2.2 ++ m
  | [], st => ⟨[], by simp⟩
  | r :: l, st => by
    obtain ⟨m1, h1⟩ := penGo_pre x0 st r
    obtain ⟨m2, h2⟩ := penFold_pre x0 l (penGo x0 st r)
    exact ⟨m1 ++ m2, by rw [List.foldl_cons, h2, h1]; simp⟩
theorem penRun_any {x y : Int} {l : List (Nat × Int)} {i : Nat} (h : (penRun x y (l.take i)).2.2.any farS = true) : (penRun x y l).2.2.any farS = true := by
  obtain ⟨m, hm⟩ := penFold_pre x (l.drop i) (penRun x y (l.take i))
  have e : penRun x y l = (l.drop i).foldl (penGo x) (penRun x y (l.take i)) := by
    unfold penRun
    rw [← List.foldl_append, List.take_append_drop]
  rw [e, hm, List.any_append, h]; rfl
theorem penRun_take {x y : Int} {l : List (Nat × Int)} {i : Nat} {r : Nat × Int} (h : l[i]? = some r) : penRun x y (l.take (i + 1)) = penGo x (penRun x y (l.take i)) r := by
  rw [List.take_add_one, h]; exact penRun_snoc _ _ _ _

/-- What the reference's Read does. -/
def RefPat (s : ByteArray) (w : World) (e : Ending) (w' : World) : Prop :=
  Below w.heap.size w w' ∧ match patR s with
    | .inl (k, i) => e = .returned (.tuple #[.slice none 0 0, .int .i64 k, .int .i64 (i : Int)])
    | .inr C => ∃ v, e = .returned (.tuple #[v, .int .i64 0, .int .i64 0]) ∧ w'.ownsRow w.heap.size 44 2 v C.length (flatC C)

theorem refPat_bad {s : ByteArray} {w w' : World} {k : Int} {i : Nat} (h : patR s = .inl (k, i)) (hb : Below w.heap.size w w') : RefPat s w (.returned (.tuple #[.slice none 0 0, .int .i64 k, .int .i64 (i : Int)])) w' := by
  unfold RefPat; rw [h]; exact ⟨hb, rfl⟩
theorem refPat_ok {s : ByteArray} {w w' : World} {C : List Cel} {v : Value} (h : patR s = .inr C) (hb : Below w.heap.size w w') (own : w'.ownsRow w.heap.size 44 2 v C.length (flatC C)) : RefPat s w (.returned (.tuple #[v, .int .i64 0, .int .i64 0])) w' := by
  unfold RefPat; rw [h]; exact ⟨hb, _, rfl, own⟩

/-- The counts lie in block g. -/
theorem counts_get {w : World} {B : Nat} {v : Value} {l : List (Nat × Int)} (own : w.ownsRow B 3 1 v l.length (l.map fun r => .int .i64 (r.1 : Int))) (h : 0 < l.length) :
    ∃ g cap, v = .slice (some ⟨g, 0, none⟩) l.length cap ∧ g < w.heap.size ∧ B ≤ g ∧ ∀ i r, l[i]? = some r → w.cell? ⟨g, i, none⟩ = some (.int .i64 (r.1 : Int)) := by
  rcases own.2 with ⟨h1, h2⟩ | ⟨g, cap, cur, rfl, hg, hh, hn, hc, hz, ht⟩
  · omega
  · refine ⟨g, cap, rfl, blk_lt hh, hg, fun i r hr => ?_⟩
    have : (l.map fun r : Nat × Int => Value.int .i64 (r.1 : Int))[i]? = some (.int .i64 (r.1 : Int)) := by simp [hr]
    rw [← ht, List.getElem?_take] at this
    split at this
    · simpa [World.cell?, hh] using this
    · cases this

theorem kd_get {kd : ByteArray} {l : List (Nat × Int)} (h : KD kd l) {i : Nat} {r : Nat × Int} (hr : l[i]? = some r) : ∃ hi : i < kd.size, (kd[i].toNat : Int) = r.2 := by
  unfold KD at h
  have h1 := congrArg (fun t => t[i]?) h
  simp only [List.getElem?_map, hr, Option.map_some] at h1
  have hl := congrArg List.length h
  simp only [List.length_map, Array.length_toList] at hl
  have hi : i < l.length := (List.getElem?_eq_some_iff.1 hr).1
  have hk : i < kd.size := by show i < kd.data.size; omega
  refine ⟨hk, ?_⟩
  have e : kd.data.toList[i]? = some kd[i] := by
    rw [List.getElem?_eq_getElem (by simpa using hk)]
    rfl
  rw [e] at h1
  simpa using h1
theorem kd_size {kd : ByteArray} {l : List (Nat × Int)} (h : KD kd l) : kd.size = l.length := by
  have := congrArg List.length h
  simpa using this

theorem infoRCell : (Tryz.prog.info? 44).map (fun i => (i.zero, i.size, i.bytes)) = some (some (.agg #[.int .i64 0, .int .i64 0]), 2, 16) := by kernel_rfl

/-- Where the pen and the list are when i runs are through. -/
structure RInv (W0 : World) (A B : Nat) (x y : Int) (l : List (Nat × Int)) (i : Nat) (F : Bool) (M : Int) (v : Value) (L : List Cel) (px py : Int) (wr : World) : Prop where
  own : wr.ownsRow B 44 2 v L.length (flatC L)
  at_ : wr.heap[A]? = some (.cells #[.int .i64 px, .int .i64 py] 44 (0, 0))
  pad : Pad A B W0 wr
  len : L.length ≤ 100
theorem RInv.size {W0 : World} {A B : Nat} {x y : Int} {l : List (Nat × Int)} {i : Nat} {F : Bool} {M : Int} {v : Value} {L : List Cel} {px py : Int} {wr : World} (h : RInv W0 A B x y l i F M v L px py wr) : W0.heap.size ≤ wr.heap.size := h.pad.size

/-- The same, as the specification has it. -/
def RSpec (x y : Int) (l : List (Nat × Int)) (i : Nat) (F : Bool) (M : Int) (L : List Cel) (px py : Int) : Prop :=
  (penRun x y (l.take i)).1 = px ∧ (penRun x y (l.take i)).2.1 = py ∧ (penRun x y (l.take i)).2.2.any farS = F ∧ total (penRun x y (l.take i)).2.2 = M ∧ (M ≤ 100 → L = cellsOf (penRun x y (l.take i)).2.2)

theorem RSpec.start (x y : Int) (l : List (Nat × Int)) : RSpec x y l 0 false 0 [] x y := by
  refine ⟨?_, ?_, ?_, ?_, fun _ => ?_⟩ <;> simp [penRun, total, cellsOf]

theorem RSpec.bd {x y : Int} {l : List (Nat × Int)} {i : Nat} {F : Bool} {M : Int} {L : List Cel} {px py : Int} (h : RSpec x y l i F M L px py) (hx : -2000000000000000000 ≤ x ∧ x ≤ 2000000000000000000) (hy : -2000000000000000000 ≤ y ∧ y ≤ 2000000000000000000) (hl : l.length ≤ 1500) (hr : ∀ r ∈ l, okRun r) :
    x ≤ px ∧ px ≤ x + 15000000 ∧ y ≤ py ∧ py ≤ y + 15000000 ∧ 0 ≤ M ∧ M ≤ 15000000 := by
  obtain ⟨h1, h2, h3, h4, h5⟩ := h
  have hw := penWin_run (x := x) (y := y) (l := l.take i) (fun r hr' => hr r (List.mem_of_mem_take hr'))
  have hbd := penRun_bd (x := x) (y := y) (l := l.take i) (by omega) (by have := List.length_take_le i l; have := List.length_take_le' i l; omega) (fun r hr' => hr r (List.mem_of_mem_take hr'))
  have ht := total_bd _ hbd.2
  have hlen : (l.take i).length ≤ 1500 := by have := List.length_take_le' i l; omega
  obtain ⟨a1, a2, b1, b2, _, _, _⟩ := hw
  rw [h1] at a1 a2
  rw [h2] at b1 b2
  rw [h4] at ht
  omega

theorem RSpec.down {x y : Int} {l : List (Nat × Int)} {i : Nat} {F : Bool} {M : Int} {L : List Cel} {px py : Int} {n : Nat} (h : RSpec x y l i F M L px py) (hr : l[i]? = some (n, 36)) : RSpec x y l (i + 1) F M L x (py + n) := by
  obtain ⟨h1, h2, h3, h4, h5⟩ := h
  unfold RSpec
  rw [penRun_take hr]
  unfold penGo
  rw [if_pos rfl]
  exact ⟨rfl, by rw [h2], h3, h4, h5⟩
theorem RSpec.right {x y : Int} {l : List (Nat × Int)} {i : Nat} {F : Bool} {M : Int} {L : List Cel} {px py : Int} {n : Nat} (h : RSpec x y l i F M L px py) (hr : l[i]? = some (n, 98)) : RSpec x y l (i + 1) F M L (px + n) py := by
  obtain ⟨h1, h2, h3, h4, h5⟩ := h
  unfold RSpec
  rw [penRun_take hr]
  unfold penGo
  rw [if_neg (by simp), if_neg (by simp)]
  exact ⟨by rw [h1], h2, h3, h4, h5⟩
theorem RSpec.live {x y : Int} {l : List (Nat × Int)} {i : Nat} {F : Bool} {M : Int} {L L' : List Cel} {px py : Int} {n : Nat} (h : RSpec x y l i F M L px py) (hr : l[i]? = some (n, 111)) (hL : M + n ≤ 100 → L' = L ++ runCells px py n) :
    RSpec x y l (i + 1) (F || (farB px py || farB (px + n - 1) py)) (M + n) L' (px + n) py := by
  obtain ⟨h1, h2, h3, h4, h5⟩ := h
  unfold RSpec
  rw [penRun_take hr]
  unfold penGo
  rw [if_neg (by simp), if_pos rfl, h1, h2]
  refine ⟨rfl, rfl, ?_, ?_, ?_⟩
  · simp only [List.any_append, h3, List.any_cons, List.any_nil, Bool.or_false, farS]
  · rw [total_snoc, h4]
  · intro hm
    rw [hL hm, cellsOf_snoc, h5 (by omega)]
    simp [spanCells]

end Go.Proofs.YtiohpcnnpmnjhaaGreatDoor
