import Derived.Test.YtiohpcnnpmnjhaaDoorReadForm
namespace Go.Proofs.YtiohpcnnpmnjhaaDoor
open Go.RowKit
set_option linter.unusedVariables false

/-- Too far out? -/
def farB (x y : Int) : Bool := decide (MC < x) || decide (MC < y) || decide (x < -MC) || decide (y < -MC)
/-- The span's first or last cell too far out? -/
def farS (s : Span) : Bool := farB s.1 s.2.1 || farB (s.1 + s.2.2 - 1) s.2.1

set_option maxHeartbeats 800000 in
theorem isFar_any (x y : Int) (w : World) :
    Calls Tryd.prog 25 #[.agg #[.int .i64 x, .int .i64 y]] w fun e w' => e = .returned (.bool (farB x y)) ∧ w' = w.alloc (.cells #[.int .i64 x, .int .i64 y] 53) := by
  by_cases h1 : y ≤ x
  · go_enter Tryd.func25, Tryd.ntmps25
    go_wp2
    all_goals
      go_ret
      exact ⟨ret_bool (by rw [Bool.eq_iff_iff]; simp [farB, MC]; omega), rfl⟩
  · go_enter Tryd.func25, Tryd.ntmps25
    go_wp2
    all_goals
      go_ret
      exact ⟨ret_bool (by rw [Bool.eq_iff_iff]; simp [farB, MC]; omega), rfl⟩

set_option maxHeartbeats 800000 in
theorem spanFar_any (x y n : Int) (w : World) (h1 : -3000000000000000000 ≤ x) (h2 : x ≤ 3000000000000000000) (h3 : 0 ≤ n) (h4 : n ≤ 9999) :
    Calls Tryd.prog 27 #[.agg #[.int .i64 x, .int .i64 y, .int .i64 n]] w fun e w' => e = .returned (.bool (farS (x, y, n))) ∧ Below w.heap.size w w' := by
  cases hf : farB x y with
  | true =>
    have hI := fun w => isFar_any x y w
    simp only [hf] at hI
    go_enter Tryd.func27, Tryd.ntmps27
    go_wp2_with (go_at_call 25; refine (hI _).mono ?_; rintro e w1 ⟨rfl, rfl⟩)
    go_ret
    exact ⟨ret_bool (by simp [farS, hf]), (((Below.refl _ _).alloc (Nat.le_refl _) _).alloc (by simp) _).alloc (by simp; omega) _⟩
  | false =>
    have hI := fun w => isFar_any x y w
    simp only [hf] at hI
    go_enter Tryd.func27, Tryd.ntmps27
    go_wp2_with (first
      | (go_at_call 25; refine (hI _).mono ?_; rintro e w1 ⟨rfl, rfl⟩; clear hI)
      | (go_at_call 25; refine (isFar_any (x + n - 1) y _).mono ?_; rintro e w2 ⟨rfl, rfl⟩))
    go_ret
    exact ⟨ret_bool (by simp [farS, hf]), ((((Below.refl _ _).alloc (Nat.le_refl _) _).alloc (by simp) _).alloc (by simp; omega) _).alloc (by simp; omega) _⟩

theorem flat_get : ∀ (sp : List Span) (k : Nat) (s : Span), sp[k]? = some s → (flat sp)[k * 3]? = some (.int .i64 s.1) ∧ (flat sp)[k * 3 + 1]? = some (.int .i64 s.2.1) ∧ (flat sp)[k * 3 + 2]? = some (.int .i64 s.2.2)
  | [], k, s, h => by simp at h
  | (x, y, n) :: r, 0, s, h => by simp at h; subst h; simp [flat]
  | (x, y, n) :: r, k + 1, s, h => by
    have := flat_get r k s (by simpa using h)
    simpa [flat, show (k + 1) * 3 = k * 3 + 1 + 1 + 1 by omega] using this

/-- The spans lie in block g. -/
structure SpansAt (w : World) (g : Nat) (sp : List Span) : Prop where
  at_ : ∀ j u, (flat sp)[j]? = some u → w.cell? ⟨g, j, none⟩ = some u

theorem SpansAt.below {w w' : World} {g B : Nat} {sp : List Span} (h : SpansAt w g sp) (hb : Below B w w') (hg : g < B) : SpansAt w' g sp :=
  ⟨fun j u hu => (hb.cell (p := ⟨g, j, none⟩) hg).trans (h.at_ j u hu)⟩
theorem SpansAt.get {w : World} {g : Nat} {sp : List Span} (h : SpansAt w g sp) (k : Nat) (s : Span) (hs : sp[k]? = some s) :
    w.cell? ⟨g, k * 3, none⟩ = some (.int .i64 s.1) ∧ w.cell? ⟨g, k * 3 + 1, none⟩ = some (.int .i64 s.2.1) ∧ w.cell? ⟨g, k * 3 + 2, none⟩ = some (.int .i64 s.2.2) := by
  obtain ⟨h1, h2, h3⟩ := flat_get sp k s hs
  exact ⟨h.at_ _ _ h1, h.at_ _ _ h2, h.at_ _ _ h3⟩

/-- The two makes of a list of spans. -/
theorem spans_cases {w : World} {B : Nat} {t : TypeId} {v : Value} {sp : List Span} (h : w.ownsRow B t 3 v sp.length (flat sp)) :
    (v = .slice none 0 0 ∧ sp = []) ∨ ∃ g cap, v = .slice (some ⟨g, 0, none⟩) sp.length cap ∧ SpansAt w g sp ∧ g < w.heap.size := by
  rcases h.2 with ⟨h1, h2⟩ | ⟨g, cap, cur, rfl, hg, hh, hn, hc, hz, ht⟩
  · exact .inl ⟨h1, List.eq_nil_of_length_eq_zero h2⟩
  · refine .inr ⟨g, cap, rfl, ⟨fun j u hu => ?_⟩, (Array.getElem?_eq_some_iff.1 hh).1⟩
    rw [← ht, List.getElem?_take] at hu
    split at hu
    · simpa [World.cell?, hh] using hu
    · cases hu

/-- What is known of a span's numbers. -/
def okSpan (s : Span) : Prop := -3000000000000000000 ≤ s.1 ∧ s.1 ≤ 3000000000000000000 ∧ 0 ≤ s.2.2 ∧ s.2.2 ≤ 9999

theorem any_take_succ {sp : List Span} {k : Nat} {s : Span} (h : sp[k]? = some s) : (sp.take (k + 1)).any farS = ((sp.take k).any farS || farS s) := by
  rw [List.take_add_one, h]; simp

set_option maxHeartbeats 800000 in
theorem indexFunc_row (g cap : Nat) (sp : List Span) (w : World) (h : SpansAt w g sp) (hg : g < w.heap.size) (hl : sp.length ≤ 1500) (hb : ∀ s ∈ sp, okSpan s) :
    Calls Tryd.prog 41 #[.slice (some ⟨g, 0, none⟩) sp.length cap, .func (.func 27) #[] #[]] w fun e w' => (∃ r : Int, e = .returned (.int .i64 r) ∧ decide (0 ≤ r) = sp.any farS) ∧ Below w.heap.size w w' := by
  go_enter Tryd.func41, Tryd.ntmps41
  go_wp2
  go_loopw [8] (fun i wr => ∃ k : Nat, k ≤ sp.length ∧ i = .int .i64 k ∧ Hid ((sp.take k).any farS = false) ∧ Below w.heap.size w wr) (fun i _ => sp.length - (intOf i).toNat)
  case atStart => exact ⟨0, Nat.zero_le _, rfl, by simp [Hid], Below.refl _ _⟩
  case round =>
    obtain ⟨k, hk, rfl, hr, hbw⟩ := hrel
    by_cases hlt : k < sp.length
    · obtain ⟨⟨x, y, n⟩, hs⟩ : ∃ s, sp[k]? = some s := ⟨sp[k], by simp [hlt]⟩
      obtain ⟨e0, e1, e2⟩ := (h.below hbw hg).get k _ hs
      obtain ⟨b1, b2, b3, b4⟩ := hb (x, y, n) (List.mem_of_getElem? hs)
      simp only at e0 e1 e2 b1 b2 b3 b4
      have hA := any_take_succ hs
      have hF := fun w => spanFar_any x y n w b1 b2 b3 b4
      have hm := List.mem_of_getElem? hs
      cases hf : farS (x, y, n) with
      | true =>
        have HA : Hid (sp.any farS = true) := List.any_eq_true.2 ⟨_, hm, hf⟩
        simp only [hf] at hF
        clear hA hs hm
        go_wp2_with (go_at_call 27; refine (hF _).mono ?_; rintro e w1 ⟨rfl, hb1⟩)
        go_ret
        exact ⟨⟨_, rfl, by rw [HA.out]; simp⟩, hbw.trans (hb1.mono hbw.size)⟩
      | false =>
        simp only [hf] at hF
        rw [hf, hr.out] at hA
        have HA : Hid ((sp.take (k + 1)).any farS = false) := hA
        clear hA hs hm
        go_wp2_with (go_at_call 27; refine (hF _).mono ?_; rintro e w1 ⟨rfl, hb1⟩)
        go_roundw
        case rel => exact ⟨k + 1, by omega, by go_num, HA.out, hbw.trans (hb1.mono hbw.size)⟩
        case measure => simp [intOf]; omega
    · have HA : Hid (sp.any farS = false) := by have := hr.out; rwa [List.take_of_length_le (by omega)] at this
      go_wp2
      go_ret
      exact ⟨⟨_, rfl, by rw [HA.out]; simp⟩, hbw⟩

set_option maxHeartbeats 800000 in
theorem indexFunc_nil (w : World) :
    Calls Tryd.prog 41 #[.slice none 0 0, .func (.func 27) #[] #[]] w fun e w' => e = .returned (.int .i64 (-1)) ∧ w' = w := by
  go_enter Tryd.func41, Tryd.ntmps41
  go_wp2
  refine wp_loop_rounds 1 ?_
  rw [rounds_succ]
  go_wp2
  go_ret
  exact ⟨rfl, rfl⟩

set_option maxHeartbeats 800000 in
theorem containsFunc_any (B : Nat) (v : Value) (sp : List Span) (w : World) (h : w.ownsRow B 61 3 v sp.length (flat sp)) (hl : sp.length ≤ 1500) (hb : ∀ s ∈ sp, okSpan s) :
    Calls Tryd.prog 26 #[v, .func (.func 27) #[] #[]] w fun e w' => e = .returned (.bool (sp.any farS)) ∧ Below w.heap.size w w' := by
  rcases spans_cases h with ⟨rfl, rfl⟩ | ⟨g, cap, rfl, hS, hg⟩
  · go_enter Tryd.func26, Tryd.ntmps26
    go_wp2_with (go_at_call 41; refine (indexFunc_nil _).mono ?_; rintro e w1 ⟨rfl, rfl⟩)
    go_ret
    exact ⟨rfl, Below.refl _ _⟩
  · go_enter Tryd.func26, Tryd.ntmps26
    go_wp2_with (go_at_call 41; refine (indexFunc_row g cap sp _ hS hg hl hb).mono ?_; rintro e w1 ⟨⟨r, rfl, hr⟩, hb1⟩)
    go_ret
    exact ⟨rfl, hb1⟩

/-- How many cells live. -/
def total (sp : List Span) : Int := (sp.map (·.2.2)).sum
theorem total_snoc (a : List Span) (s : Span) : total (a ++ [s]) = total a + s.2.2 := by simp [total]
theorem total_bd : ∀ (sp : List Span), (∀ s ∈ sp, okSpan s) → 0 ≤ total sp ∧ total sp ≤ 9999 * (sp.length : Int)
  | [], _ => by simp [total]
  | s :: r, h => by
    have h1 := total_bd r (fun x hx => h x (by simp [hx]))
    have h2 := h s (by simp)
    obtain ⟨_, _, h3, h4⟩ := h2
    simp [total] at h1 ⊢
    omega

set_option maxHeartbeats 800000 in
theorem countCells_row (g cap : Nat) (sp : List Span) (w : World) (h : SpansAt w g sp) (hg : g < w.heap.size) (hl : sp.length ≤ 1500) (hb : ∀ s ∈ sp, okSpan s) :
    Calls Tryd.prog 28 #[.slice (some ⟨g, 0, none⟩) sp.length cap] w fun e w' => e = .returned (.int .i64 (total sp)) ∧ Below w.heap.size w w' := by
  go_enter Tryd.func28, Tryd.ntmps28
  go_wp2
  go_loopw [3, 8] (fun t i wr => ∃ k : Nat, k ≤ sp.length ∧ i = .int .i64 k ∧ t = .int .i64 (total (sp.take k)) ∧ Below w.heap.size w wr) (fun _ i _ => sp.length - (intOf i).toNat)
  case atStart => exact ⟨0, Nat.zero_le _, rfl, rfl, Below.refl _ _⟩
  case round =>
    obtain ⟨k, hk, rfl, rfl, hbw⟩ := hrel
    by_cases hlt : k < sp.length
    · obtain ⟨⟨x, y, n⟩, hs⟩ : ∃ s, sp[k]? = some s := ⟨sp[k], by simp [hlt]⟩
      obtain ⟨e0, e1, e2⟩ := (h.below hbw hg).get k _ hs
      obtain ⟨b1, b2, b3, b4⟩ := hb (x, y, n) (List.mem_of_getElem? hs)
      simp only at e0 e1 e2 b1 b2 b3 b4
      have hT : total (sp.take (k + 1)) = total (sp.take k) + n := by rw [List.take_add_one, hs]; exact total_snoc _ _
      have hB := total_bd (sp.take k) (fun s hs => hb s (List.mem_of_mem_take hs))
      have hL : (sp.take k).length ≤ k := List.length_take_le _ _
      have hB2 : total (sp.take k) ≤ 15000000 := by omega
      have hB1 := hB.1
      have HT : Hid (total (sp.take (k + 1)) = total (sp.take k) + n) := hT
      clear hT hs hL hB
      go_wp2
      go_roundw
      case rel => exact ⟨k + 1, by omega, by go_num, by rw [HT.out], hbw.alloc hbw.size _⟩
      case measure => simp [intOf]; omega
    · have hk' : k = sp.length := by omega
      subst hk'
      go_wp2
      go_ret
      exact ⟨by simp, hbw⟩

set_option maxHeartbeats 800000 in
theorem countCells_any (B : Nat) (v : Value) (sp : List Span) (w : World) (h : w.ownsRow B 61 3 v sp.length (flat sp)) (hl : sp.length ≤ 1500) (hb : ∀ s ∈ sp, okSpan s) :
    Calls Tryd.prog 28 #[v] w fun e w' => e = .returned (.int .i64 (total sp)) ∧ Below w.heap.size w w' := by
  rcases spans_cases h with ⟨rfl, rfl⟩ | ⟨g, cap, rfl, hS, hg⟩
  · go_enter Tryd.func28, Tryd.ntmps28
    go_wp2
    refine wp_loop_rounds 1 ?_
    rw [rounds_succ]
    go_wp2
    go_ret
    exact ⟨rfl, Below.refl _ _⟩
  · exact countCells_row g cap sp w hS hg hl hb

end Go.Proofs.YtiohpcnnpmnjhaaDoor
