import Derived.Test.YtiohpcnnpmnjhaaGreatDoorCompare
import Derived.Test.YtiohpcnnpmnjhaaGreatDoorRefLife1
namespace Go.Proofs.YtiohpcnnpmnjhaaGreatDoor
open Go.RowKit
set_option linter.unusedVariables false

/-- Where the search stands. -/
def Sought (C : List Cel) (c : Cel) (i j : Nat) : Prop := i ≤ j ∧ j ≤ C.length ∧ (∀ t d, t < i → C[t]? = some d → before d c) ∧ (∀ t d, j ≤ t → C[t]? = some d → ¬ before d c)
theorem asc_at {C : List Cel} (h : Asc C) {i j : Nat} {a b : Cel} (hi : C[i]? = some a) (hj : C[j]? = some b) (hij : i < j) : before a b := by
  obtain ⟨h1, rfl⟩ := List.getElem?_eq_some_iff.1 hi
  obtain ⟨h2, rfl⟩ := List.getElem?_eq_some_iff.1 hj
  exact List.pairwise_iff_getElem.1 h i j h1 h2 hij
theorem Sought.left {C : List Cel} {c d : Cel} {i j m : Nat} (h : Sought C c i j) (ha : Asc C) (hm : i ≤ m) (hmj : m < j) (hd : C[m]? = some d) (hb : before d c) : Sought C c (m + 1) j := by
  obtain ⟨h1, h2, h3, h4⟩ := h
  refine ⟨by omega, h2, fun t e ht he => ?_, h4⟩
  by_cases e1 : t = m
  · subst e1; rw [hd] at he; cases he; exact hb
  · exact before_trans (asc_at ha he hd (by omega)) hb
theorem Sought.right {C : List Cel} {c d : Cel} {i j m : Nat} (h : Sought C c i j) (ha : Asc C) (hm : i ≤ m) (hmj : m < j) (hd : C[m]? = some d) (hb : ¬ before d c) : Sought C c i m := by
  obtain ⟨h1, h2, h3, h4⟩ := h
  refine ⟨hm, by omega, h3, fun t e ht he hbe => ?_⟩
  by_cases e1 : t = m
  · subst e1; rw [hd] at he; cases he; exact hb hbe
  · exact hb (before_trans (asc_at ha hd he (by omega)) hbe)
theorem Sought.found {C : List Cel} {c d : Cel} {i : Nat} (h : Sought C c i i) (ha : Asc C) (hd : C[i]? = some d) : (c ∈ C) ↔ d = c := by
  obtain ⟨_, _, h3, h4⟩ := h
  constructor
  · intro hc
    obtain ⟨t, ht⟩ := List.mem_iff_getElem?.1 hc
    by_cases e1 : t < i
    · exact absurd (h3 t c e1 ht) (before_irr c)
    · by_cases e2 : t = i
      · subst e2; rw [hd] at ht; cases ht; rfl
      · have := asc_at ha hd ht (by omega)
        exact absurd this (h4 i d (Nat.le_refl _) hd)
  · rintro rfl; exact List.mem_of_getElem? hd
theorem Sought.none {C : List Cel} {c : Cel} {i : Nat} (h : Sought C c i i) (hi : ¬ i < C.length) : ¬ c ∈ C := by
  obtain ⟨_, _, h3, _⟩ := h
  intro hc
  obtain ⟨t, ht⟩ := List.mem_iff_getElem?.1 hc
  have := (List.getElem?_eq_some_iff.1 ht).1
  exact before_irr c (h3 t c (by omega) ht)

/-- What compare does. -/
def CompareDoes : Prop := ∀ (a b c d : Int) (w : World), Calls Tryz.prog 111 #[.agg #[.int .i64 a, .int .i64 b], .agg #[.int .i64 c, .int .i64 d]] w fun e w' => e = .returned (.int .i64 (cmpC (a, b) (c, d))) ∧ Below w.heap.size w w'
theorem cmpC_bd (a b : Cel) : -1 ≤ cmpC a b ∧ cmpC a b ≤ 1 := by
  unfold cmpC
  have h1 := cmpI_bd a.1 b.1
  have h2 := cmpI_bd a.2 b.2
  split <;> omega

set_option maxRecDepth 100000 in
set_option maxHeartbeats 25600000 in
theorem search_any (hcmp : CompareDoes) (v : Value) (C : List Cel) (x y : Int) (w : World) (h : RowAt w v C) (hl : C.length ≤ 1000000) (hasc : Asc C) :
    Calls Tryz.prog 143 #[v, .agg #[.int .i64 x, .int .i64 y], .func (.func 111) #[] #[]] w fun e w' => (∃ i : Int, e = .returned (.tuple #[.int .i64 i, .bool (decide ((x, y) ∈ C))])) ∧ Below w.heap.size w w' := by
  obtain ⟨ad, cp, rfl⟩ := h.slice
  go_enter Tryz.func143, Tryz.ntmps143
  go_wp2
  go_loopg [9, 10] C.length (fun gm vi vj wr => ∃ i j : Nat, gm = j - i ∧ vi = .int .i64 (i : Int) ∧ vj = .int .i64 (j : Int) ∧ i ≤ j ∧ j ≤ C.length ∧ Below w.heap.size w wr ∧ wr.heap[w.heap.size]? = some (.cells #[.int .i64 x, .int .i64 y] 113 (0, 0)) ∧ Hid (Sought C (x, y) i j))
  case atStart => exact ⟨0, C.length, rfl, rfl, rfl, Nat.zero_le _, Nat.le_refl _, (Below.refl _ _).alloc (Nat.le_refl _) _, blk_new w _, ⟨Nat.zero_le _, Nat.le_refl _, fun t d ht => by omega, fun t d ht hd => by have := (List.getElem?_eq_some_iff.1 hd).1; omega⟩⟩
  case round =>
    obtain ⟨i, j, rfl, rfl, rfl, hij, hj, hb, b0, hS⟩ := hrel
    have c0 := cell_of b0 0
    have c1 := cell_of b0 1
    have hsz : w.heap.size < wr.heap.size := by
      rcases Nat.lt_or_ge w.heap.size wr.heap.size with h' | h'
      · exact h'
      · rw [Array.getElem?_eq_none h'] at b0; cases b0
    by_cases hlt : i < j
    · have hli : (i : Int) < (j : Int) := by omega
      obtain ⟨m, hm⟩ : ∃ m : Nat, (i + j) / 2 = m := ⟨_, rfl⟩
      have hmI : ((i : Int) + (j : Int)) / 2 = (m : Int) := by omega
      have him : i ≤ m := by omega
      have hmj : m < j := by omega
      clear hm
      obtain ⟨⟨x', y'⟩, hs⟩ : ∃ s, C[m]? = some s := ⟨C[m], by simp⟩
      obtain ⟨g, rfl, hg, hget⟩ := h.get hs
      obtain ⟨d0, d1⟩ := hget wr hb
      simp only at d0 d1
      have hcm := fun w => hcmp x' y' x y w
      have hml : (m : Int) < (C.length : Int) := by omega
      by_cases hc : before (x', y') (x, y)
      · have HS : Hid (Sought C (x, y) (m + 1) j) := hS.out.left hasc him hmj hs hc
        have hr0 : cmpC (x', y') (x, y) < 0 := (cmpC_lt _ _).2 hc
        obtain ⟨r, hr⟩ : ∃ r, cmpC (x', y') (x, y) = r := ⟨_, rfl⟩
        simp only [hr] at hcm
        rw [hr] at hr0
        clear hr hc hs hS hasc hcmp
        go_wp2
        try simp only [hmI]
        clear hmI
        go_region_with (go_at_call 111; refine (hcm _).mono ?_; rintro e w1 ⟨rfl, hb1⟩)
        all_goals
          go_wp2
          go_roundg (j - (m + 1))
          case measure => omega
          case rel => exact ⟨m + 1, j, rfl, by go_num, rfl, by omega, hj, (below_drewN hb 1).trans (hb1.mono hb.size), (hb1.block _ hsz).trans b0, HS⟩
      · have HS : Hid (Sought C (x, y) i m) := hS.out.right hasc him hmj hs hc
        have hr0 : ¬ cmpC (x', y') (x, y) < 0 := fun hh => hc ((cmpC_lt _ _).1 hh)
        obtain ⟨r, hr⟩ : ∃ r, cmpC (x', y') (x, y) = r := ⟨_, rfl⟩
        simp only [hr] at hcm
        rw [hr] at hr0
        clear hr hc hs hS hasc hcmp
        go_wp2
        try simp only [hmI]
        clear hmI
        go_region_with (go_at_call 111; refine (hcm _).mono ?_; rintro e w1 ⟨rfl, hb1⟩)
        all_goals
          go_wp2
          go_roundg (m - i)
          case measure => omega
          case rel => exact ⟨i, m, rfl, rfl, rfl, him, by omega, (below_drewN hb 1).trans (hb1.mono hb.size), (hb1.block _ hsz).trans b0, HS⟩
    · have hli : ¬ (i : Int) < (j : Int) := by omega
      obtain rfl : i = j := by omega
      by_cases hic : i < C.length
      · have hin : (i : Int) < (C.length : Int) := by omega
        obtain ⟨⟨x', y'⟩, hs⟩ : ∃ s, C[i]? = some s := ⟨C[i], by simp⟩
        obtain ⟨g, rfl, hg, hget⟩ := h.get hs
        obtain ⟨d0, d1⟩ := hget wr hb
        simp only at d0 d1
        have hcm := fun w => hcmp x' y' x y w
        have HF : Hid (decide ((x, y) ∈ C) = (cmpC (x', y') (x, y) == 0)) := by
          have h1 := hS.out.found hasc hs
          have h2 := cmpC_eq (x', y') (x, y)
          show decide _ = _
          by_cases e1 : (x', y') = (x, y)
          · rw [decide_eq_true (h1.2 e1), h2.2 e1]; rfl
          · rw [decide_eq_false (fun hh => e1 (h1.1 hh))]
            have : ¬ cmpC (x', y') (x, y) = 0 := fun hh => e1 (h2.1 hh)
            simp [this]
        obtain ⟨r, hr⟩ : ∃ r, cmpC (x', y') (x, y) = r := ⟨_, rfl⟩
        simp only [hr] at hcm
        rw [hr] at HF
        clear hr hs hS hasc hcmp
        go_wp2
        go_region_with (go_at_call 111; refine (hcm _).mono ?_; rintro e w1 ⟨rfl, hb1⟩)
        all_goals
          go_wp2
          go_ret2
          exact ⟨⟨(i : Int), by rw [HF.out]; rfl⟩, (below_drewN hb 1).trans (hb1.mono hb.size)⟩
      · have hin : ¬ (i : Int) < (C.length : Int) := by omega
        have HF : Hid (decide ((x, y) ∈ C) = false) := decide_eq_false (hS.out.none hic)
        clear hS hasc hcmp
        go_wp2
        go_quiet (fail)
        go_wp2
        go_ret2
        exact ⟨⟨(i : Int), by rw [HF.out]; rfl⟩, below_drewN hb _⟩

end Go.Proofs.YtiohpcnnpmnjhaaGreatDoor
