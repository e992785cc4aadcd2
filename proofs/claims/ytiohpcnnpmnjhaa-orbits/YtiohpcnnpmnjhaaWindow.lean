import Derived.Test.YtiohpcnnpmnjhaaPatternM
namespace Go.Proofs.Ytiohpcnnpmnjhaa
open Go.RowKit
set_option linter.unusedVariables false

/-- Where the pen is, and what it has drawn. -/
structure PenWin (x0 y0 : Int) (st : Int × Int × List Span) (m : Nat) : Prop where
  a1 : x0 ≤ st.1
  a2 : st.1 ≤ x0 + 9999 * (m : Int)
  b1 : y0 ≤ st.2.1
  b2 : st.2.1 ≤ y0 + 9999 * (m : Int)
  win : ∀ c ∈ cellsOf st.2.2, x0 ≤ c.1 ∧ c.1 ≤ x0 + 9999 * (m : Int) ∧ y0 ≤ c.2 ∧ c.2 ≤ y0 + 9999 * (m : Int)
  bef : ∀ c ∈ cellsOf st.2.2, before c (st.1, st.2.1)
  asc : Asc (cellsOf st.2.2)

theorem mem_runCells {x y : Int} {n : Nat} {c : Cel} (h : c ∈ runCells x y n) : x ≤ c.1 ∧ c.1 < x + (n : Int) ∧ c.2 = y := by
  unfold runCells at h
  rw [List.mem_map] at h
  obtain ⟨i, hi, rfl⟩ := h
  rw [List.mem_range] at hi
  refine ⟨?_, ?_, rfl⟩ <;> simp only <;> omega
theorem asc_runCells (x y : Int) (n : Nat) : Asc (runCells x y n) := by
  unfold Asc runCells
  rw [List.pairwise_map]
  exact List.pairwise_lt_range.imp fun {a b} h => .inr ⟨rfl, by simp only; omega⟩

theorem penWin_go {x0 y0 : Int} {st : Int × Int × List Span} {m : Nat} {r : Nat × Int} (h : PenWin x0 y0 st m) (hr : okRun r) : PenWin x0 y0 (penGo x0 st r) (m + 1) := by
  obtain ⟨a1, a2, b1, b2, win, bef, asc⟩ := h
  obtain ⟨r1, r2, r3⟩ := hr
  have win' : ∀ c ∈ cellsOf st.2.2, x0 ≤ c.1 ∧ c.1 ≤ x0 + 9999 * ((m + 1 : Nat) : Int) ∧ y0 ≤ c.2 ∧ c.2 ≤ y0 + 9999 * ((m + 1 : Nat) : Int) := fun c hc => by
    obtain ⟨h1, h2, h3, h4⟩ := win c hc
    omega
  unfold penGo
  split
  · refine ⟨by simp only; omega, by simp only; omega, by simp only; omega, by simp only; omega, win', fun c hc => .inl ?_, asc⟩
    rcases bef c hc with h | ⟨h, _⟩ <;> simp only at h ⊢ <;> omega
  · split
    · refine ⟨by simp only; omega, by simp only; omega, by simp only; omega, by simp only; omega, ?_, ?_, ?_⟩
      · simp only [cellsOf_snoc]
        intro c hc
        rcases List.mem_append.1 hc with hc | hc
        · exact win' c hc
        · have := mem_runCells hc
          simp only [Int.toNat_natCast] at this
          omega
      · simp only [cellsOf_snoc]
        intro c hc
        rcases List.mem_append.1 hc with hc | hc
        · rcases bef c hc with h | ⟨h, h'⟩
          · exact .inl h
          · exact .inr ⟨h, by simp only at h' ⊢; omega⟩
        · have := mem_runCells hc
          simp only [Int.toNat_natCast] at this
          exact .inr ⟨this.2.2, this.2.1⟩
      · simp only [cellsOf_snoc]
        refine List.pairwise_append.2 ⟨asc, asc_runCells _ _ _, fun a ha b hb => ?_⟩
        have := mem_runCells hb
        simp only at this
        rcases bef a ha with h | ⟨h, h'⟩
        · exact .inl (by simp only at h; omega)
        · exact .inr (by simp only at h h'; omega)
    · refine ⟨by simp only; omega, by simp only; omega, b1, by simp only; omega, win', fun c hc => ?_, asc⟩
      rcases bef c hc with h | ⟨h, h'⟩
      · exact .inl h
      · exact .inr ⟨h, by simp only at h' ⊢; omega⟩

theorem penWin_fold {x0 y0 : Int} : ∀ (l : List (Nat × Int)) (st : Int × Int × List Span) (m : Nat), PenWin x0 y0 st m → (∀ r ∈ l, okRun r) → PenWin x0 y0 (l.foldl (penGo x0) st) (m + l.length)
  | [], st, m, h, _ => h
  | r :: l, st, m, h, hl => by
    have := penWin_fold l (penGo x0 st r) (m + 1) (penWin_go h (hl r (by simp))) (fun q hq => hl q (by simp [hq]))
    simpa [Nat.add_assoc, Nat.add_comm 1] using this
theorem penWin_run {x y : Int} {l : List (Nat × Int)} (hl : ∀ r ∈ l, okRun r) : PenWin x y (penRun x y l) l.length := by
  have := penWin_fold (x0 := x) (y0 := y) l (x, y, []) 0 ⟨by simp, by simp, by simp, by simp, by simp [cellsOf], by simp [cellsOf], by simp [cellsOf, Asc]⟩ hl
  rwa [Nat.zero_add] at this

theorem minX_le : ∀ (C : List Cel) (x : Int), minX x C ≤ x
  | [], x => by simp [minX]
  | c :: r, x => by
    have := minX_le r (min x c.1)
    simp only [minX, List.foldl_cons] at this ⊢
    omega
theorem minX_all : ∀ (C : List Cel) (x : Int), ∀ c ∈ C, minX x C ≤ c.1
  | [], x, c, hc => by simp at hc
  | d :: r, x, c, hc => by
    rcases List.mem_cons.1 hc with rfl | hc
    · have := minX_le r (min x c.1)
      simp only [minX, List.foldl_cons] at this ⊢
      omega
    · have := minX_all r (min x d.1) c hc
      simpa [minX] using this
theorem minX_ge {a : Int} : ∀ (C : List Cel) (x : Int), a ≤ x → (∀ c ∈ C, a ≤ c.1) → a ≤ minX x C
  | [], x, h, _ => by simpa [minX] using h
  | d :: r, x, h, hc => by
    have h1 := hc d (by simp)
    have := minX_ge r (min x d.1) (by omega) (fun c h => hc c (by simp [h]))
    simpa [minX] using this

/-- What readPattern's cells are like. -/
structure Fine (C : List Cel) (X0 Y0 : Int) : Prop where
  x1 : -2000000000000000000 ≤ X0
  x2 : X0 ≤ 2000000000000000000
  y1 : -2000000000000000000 ≤ Y0
  y2 : Y0 ≤ 2000000000000000000
  len : C.length ≤ 100
  win : ∀ c ∈ C, inWin X0 Y0 c
  asc : Asc C

theorem Fine.corn {C : List Cel} {X0 Y0 : Int} (h : Fine C X0 Y0) : inWin X0 Y0 (cornP C) ∨ C = [] := by
  cases C with
  | nil => exact .inr rfl
  | cons c r =>
    obtain ⟨x, y⟩ := c
    have h1 := h.win (x, y) (by simp)
    obtain ⟨g1, g2, g3, g4⟩ := h1
    refine .inl ⟨?_, ?_, g3, g4⟩
    · exact minX_ge _ _ g1 (fun c hc => (h.win c hc).1)
    · exact Int.le_trans (minX_le _ _) g2

theorem patR_fine {s : ByteArray} {C : List Cel} (h : patR s = .inr C) : ∃ X0 Y0, Fine C X0 Y0 := by
  unfold patR at h
  split at h
  · cases h
  rename_i hs
  split at h
  · cases h
  rename_i x y l hp
  split at h
  · cases h
  rename_i hf
  split at h
  · cases h
  rename_i ht
  cases h
  obtain ⟨hl, hr⟩ := parse_ok (by omega) hp
  simp only [Bool.or_eq_true, not_or, Bool.not_eq_true] at hf
  have hb := hf.1
  simp only [farB, MC, Bool.or_eq_false_iff, decide_eq_false_iff_not] at hb
  have hbd := penRun_bd (x := x) (y := y) (l := l) (by omega) hl hr
  have hw := penWin_run (x := x) (y := y) hr
  have hcl := cellsOf_length _ hbd.2
  refine ⟨x, y, ⟨by omega, by omega, by omega, by omega, by omega, fun c hc => ?_, hw.asc⟩⟩
  obtain ⟨w1, w2, w3, w4⟩ := hw.win c hc
  exact ⟨w1, by omega, w3, by omega⟩

end Go.Proofs.Ytiohpcnnpmnjhaa
