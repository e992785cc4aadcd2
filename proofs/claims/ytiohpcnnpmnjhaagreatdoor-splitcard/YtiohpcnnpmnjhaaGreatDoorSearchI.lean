import Derived.Test.YtiohpcnnpmnjhaaGreatDoorSearch
namespace Go.Proofs.YtiohpcnnpmnjhaaGreatDoor
open Go.RowKit
set_option linter.unusedVariables false

set_option maxRecDepth 100000 in
set_option maxHeartbeats 25600000 in
theorem search_idx (hcmp : CompareDoes) (v : Value) (C : List Cel) (x y : Int) (w : World) (h : RowAt w v C) (hl : C.length ≤ 1000000) (hasc : Asc C) :
    Calls Tryz.prog 143 #[v, .agg #[.int .i64 x, .int .i64 y], .func (.func 111) #[] #[]] w fun e w' => (∃ i : Nat, i ≤ C.length ∧ Sought C (x, y) i i ∧ e = .returned (.tuple #[.int .i64 (i : Int), .bool (decide ((x, y) ∈ C))])) ∧ Below w.heap.size w w' := by
  obtain ⟨ad, cp, rfl⟩ := h.slice
  go_enter Tryz.func143, Tryz.ntmps143
  go_wp2
  go_loopg [9, 10] C.length (fun gm vi vj wr => ∃ i j : Nat, gm = j - i ∧ vi = .int .i64 (i : Int) ∧ vj = .int .i64 (j : Int) ∧ i ≤ j ∧ j ≤ C.length ∧ Below w.heap.size w wr ∧ wr.heap[w.heap.size]? = some (.cells #[.int .i64 x, .int .i64 y] 113 (0, 0)) ∧ Hid (Sought C (x, y) i j))
  case atStart => exact ⟨0, C.length, rfl, rfl, rfl, Nat.zero_le _, Nat.le_refl _, (Below.refl _ _).alloc (Nat.le_refl _) _, blk_new w _, ⟨Nat.zero_le _, Nat.le_refl _, fun t d ht => by omega, fun t d ht hd => by have := (List.getElem?_eq_some_iff.1 hd).1; omega⟩⟩
  case round =>
    obtain ⟨i, j, rfl, rfl, rfl, hij, hj, hb, b0, hS⟩ := hrel
    have c0 := cell_of b0 0
    have c1 := cell_of b0 1
    have hsz : w.heap.size < wr.heap.size := by
      rcases Nat.lt_or_ge w.heap.size wr.heap.size with h' | h'
      · exact h'
      · rw [Array.getElem?_eq_none h'] at b0; cases b0
    by_cases hlt : i < j
    · have hli : (i : Int) < (j : Int) := by omega
      obtain ⟨m, hm⟩ : ∃ m : Nat, (i + j) / 2 = m := ⟨_, rfl⟩
      have hmI : ((i : Int) + (j : Int)) / 2 = (m : Int) := by omega
      have him : i ≤ m := by omega
      have hmj : m < j := by omega
      clear hm
      obtain ⟨⟨x', y'⟩, hs⟩ : ∃ s, C[m]? = some s := ⟨C[m], by simp⟩
      obtain ⟨g, rfl, hg, hget⟩ := h.get hs
      obtain ⟨d0, d1⟩ := hget wr hb
      simp only at d0 d1
      have hcm := fun w => hcmp x' y' x y w
      have hml : (m : Int) < (C.length : Int) := by omega
      by_cases hc : before (x', y') (x, y)
      · have HS : Hid (Sought C (x, y) (m + 1) j) := hS.out.left hasc him hmj hs hc
        have hr0 : cmpC (x', y') (x, y) < 0 := (cmpC_lt _ _).2 hc
        obtain ⟨r, hr⟩ : ∃ r, cmpC (x', y') (x, y) = r := ⟨_, rfl⟩
        simp only [hr] at hcm
        rw [hr] at hr0
        clear hr hc hs hS hasc hcmp
        go_wp2
        try simp only [hmI]
        clear hmI
        go_region_with (go_at_call 111; refine (hcm _).mono ?_; rintro e w1 ⟨rfl, hb1⟩)
        all_goals
          go_wp2
          go_roundg (j - (m + 1))
          case measure => omega
          case rel => exact ⟨m + 1, j, rfl, by go_num, rfl, by omega, hj, (below_drewN hb 1).trans (hb1.mono hb.size), (hb1.block _ hsz).trans b0, HS⟩
      · have HS : Hid (Sought C (x, y) i m) := hS.out.right hasc him hmj hs hc
        have hr0 : ¬ cmpC (x', y') (x, y) < 0 := fun hh => hc ((cmpC_lt _ _).1 hh)
        obtain ⟨r, hr⟩ : ∃ r, cmpC (x', y') (x, y) = r := ⟨_, rfl⟩
        simp only [hr] at hcm
        rw [hr] at hr0
        clear hr hc hs hS hasc hcmp
        go_wp2
        try simp only [hmI]
        clear hmI
        go_region_with (go_at_call 111; refine (hcm _).mono ?_; rintro e w1 ⟨rfl, hb1⟩)
        all_goals
          go_wp2
          go_roundg (m - i)
          case measure => omega
          case rel => exact ⟨i, m, rfl, rfl, rfl, him, by omega, (below_drewN hb 1).trans (hb1.mono hb.size), (hb1.block _ hsz).trans b0, HS⟩
    · have hli : ¬ (i : Int) < (j : Int) := by omega
      obtain rfl : i = j := by omega
      by_cases hic : i < C.length
      · have hin : (i : Int) < (C.length : Int) := by omega
        obtain ⟨⟨x', y'⟩, hs⟩ : ∃ s, C[i]? = some s := ⟨C[i], by simp⟩
        obtain ⟨g, rfl, hg, hget⟩ := h.get hs
        obtain ⟨d0, d1⟩ := hget wr hb
        simp only at d0 d1
        have hcm := fun w => hcmp x' y' x y w
        have HF : Hid (decide ((x, y) ∈ C) = (cmpC (x', y') (x, y) == 0)) := by
          have h1 := hS.out.found hasc hs
          have h2 := cmpC_eq (x', y') (x, y)
          show decide _ = _
          by_cases e1 : (x', y') = (x, y)
          · rw [decide_eq_true (h1.2 e1), h2.2 e1]; rfl
          · rw [decide_eq_false (fun hh => e1 (h1.1 hh))]
            have : ¬ cmpC (x', y') (x, y) = 0 := fun hh => e1 (h2.1 hh)
            simp [this]
        obtain ⟨r, hr⟩ : ∃ r, cmpC (x', y') (x, y) = r := ⟨_, rfl⟩
        simp only [hr] at hcm
        rw [hr] at HF
        clear hr hs hasc hcmp
        go_wp2
        go_region_with (go_at_call 111; refine (hcm _).mono ?_; rintro e w1 ⟨rfl, hb1⟩)
        all_goals
          go_wp2
          go_ret2
          exact ⟨⟨i, hj, hS.out, by rw [HF.out]; rfl⟩, (below_drewN hb 1).trans (hb1.mono hb.size)⟩
      · have hin : ¬ (i : Int) < (C.length : Int) := by omega
        have HF : Hid (decide ((x, y) ∈ C) = false) := decide_eq_false (hS.out.none hic)
        clear hasc hcmp
        go_wp2
        go_quiet (fail)
        go_wp2
        go_ret2
        exact ⟨⟨i, hj, hS.out, by rw [HF.out]; rfl⟩, below_drewN hb _⟩

end Go.Proofs.YtiohpcnnpmnjhaaGreatDoor
