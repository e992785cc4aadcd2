import Derived.Test.YtiohpcnnpmnjhaaGreatDoorPfaM
import Derived.Test.YtiohpcnnpmnjhaaGreatDoorOnwM
namespace Go.Proofs.YtiohpcnnpmnjhaaGreatDoor
open Go.RowKit Go.Shelf
set_option linter.unusedVariables false

/-- Joined in a list: for counting. -/
def joinL (g : List Nat) (p : Nat × Nat) : List Nat := g.map fun x => if x = g.getD p.1 p.1 ∨ x = g.getD p.2 p.2 then min (g.getD p.1 p.1) (g.getD p.2 p.2) else x
theorem joinL_ok {g : List Nat} {ρ : Nat → Nat} (h : ∀ k, k < g.length → g.getD k k = ρ k) {p : Nat × Nat} (h1 : p.1 < g.length) (h2 : p.2 < g.length) : (joinL g p).length = g.length ∧ ∀ k, k < g.length → (joinL g p).getD k k = join1 ρ p k := by
  unfold joinL
  refine ⟨by simp, fun k hk => ?_⟩
  have hg : g[k]? = some (ρ k) := by
    have := h k hk
    simp [List.getD, hk] at this ⊢
    exact this
  rw [h _ h1, h _ h2]
  simp [List.getD, hg, join1]
theorem joinsL_ok : ∀ (ps : List (Nat × Nat)) {g : List Nat} {ρ : Nat → Nat}, (∀ k, k < g.length → g.getD k k = ρ k) → (∀ p ∈ ps, p.1 < g.length ∧ p.2 < g.length) → ∀ k, k < g.length → (ps.foldl joinL g).getD k k = joins ρ ps k
  | [], g, ρ, h, _ => h
  | p :: ps, g, ρ, h, hp => by
    obtain ⟨h1, h2⟩ := hp p (by simp)
    obtain ⟨hl, hj⟩ := joinL_ok h h1 h2
    intro k hk
    exact joinsL_ok ps (g := joinL g p) (ρ := join1 ρ p) (fun k hk => hj k (by omega)) (fun q hq => by rw [hl]; exact hp q (by simp [hq])) k (by omega)
theorem links_lt {Gs : List (List Cel)} (hn : 1 ≤ Gs.length) (h0 : (Gs.getD (Gs.length - 1) []).length ≤ startOf Gs Gs.length) {p : Nat × Nat} (hp : p ∈ allLinks Gs) : p.1 < startOf Gs Gs.length ∧ p.2 < startOf Gs Gs.length := by
  have ub : ∀ {t i : Nat} {c : Cel}, CellAt Gs t i c → startOf Gs t + i < startOf Gs Gs.length := fun {t i c} h => by
    have h1 := h.start
    have h2 := startOf_mono Gs (i := t + 1) (j := Gs.length) h.lt
    omega
  obtain ⟨a, b⟩ := p
  rcases (mem_allLinks hn).1 hp with ⟨t, i, j, c, d, hc, hd, _, rfl, rfl⟩ | ⟨t, i, j, c, d, hc, hd, _, rfl, rfl⟩ | ⟨i, d, hd, rfl, rfl⟩
  · exact ⟨ub hc, ub hd⟩
  · exact ⟨ub hc, ub hd⟩
  · have := ub hd
    simp only
    omega
/-- How many parts there are. -/
def cntL (Gs : List (List Cel)) : Nat := ((List.range (Gs.getD 0 []).length).filter fun i => decide (((allLinks Gs).foldl joinL (List.range (startOf Gs Gs.length))).getD i i = i)).length
theorem cntL_ok {f g : Nat → Bool} {C : List Cel} {s p : Nat} : (storyParts f g C s p).length = cntL (gensL f g C s p) := by
  have hl := gensL_len f g C s p
  have hz : (gensL f g C s p).getD 0 [] = gen f g C s := gensL_getD (Nat.zero_le _)
  have hsum := fun k hk => startOf_mono (gensL f g C s p) (i := k) (j := (gensL f g C s p).length) hk
  have hlast : ((gensL f g C s p).getD ((gensL f g C s p).length - 1) []).length ≤ startOf (gensL f g C s p) (gensL f g C s p).length := by
    have h := getD_some (Gs := gensL f g C s p) (t := (gensL f g C s p).length - 1) (by omega)
    have := startOf_succ h
    rw [show (gensL f g C s p).length - 1 + 1 = (gensL f g C s p).length by omega] at this
    omega
  have hfirst : (gen f g C s).length ≤ startOf (gensL f g C s p) (gensL f g C s p).length := by
    have h := getD_some (Gs := gensL f g C s p) (t := 0) (by omega)
    have h1 := startOf_succ h
    have h2 := hsum (0 + 1) (by omega)
    rw [hz] at h1
    omega
  have key := joinsL_ok (allLinks (gensL f g C s p)) (g := List.range (startOf (gensL f g C s p) (gensL f g C s p).length)) (ρ := id) (fun k hk => by
    rw [List.length_range] at hk
    simp [List.getD, hk]) (fun q hq => by
    rw [List.length_range]
    exact links_lt (by omega) hlast hq)
  rw [List.length_range] at key
  unfold storyParts partsTo cntL
  rw [hz, ← List.countP_eq_length_filter]
  have : ∀ (l : List Nat), (∀ i ∈ l, i < (gen f g C s).length) → (l.filterMap fun i => if joins id (allLinks (gensL f g C s p)) i = i then some (ledTo (joins id (allLinks (gensL f g C s p))) (gen f g C s) i (gen f g C s).length) else none).length = l.countP fun i => decide (((allLinks (gensL f g C s p)).foldl joinL (List.range (startOf (gensL f g C s p) (gensL f g C s p).length))).getD i i = i) := fun l => by
    induction l with
    | nil => intro _; rfl
    | cons i l ih =>
      intro h
      have hi := h i (by simp)
      have ih := ih fun j hj => h j (by simp [hj])
      rw [List.filterMap_cons, List.countP_cons]
      have hk := key i (by omega)
      rw [hk]
      by_cases e : joins id (allLinks (gensL f g C s p)) i = i
      · simp only [if_pos e, decide_eq_true e, List.length_cons, if_true]
        rw [ih]
      · simp only [if_neg e, decide_eq_false e, Bool.false_eq_true, if_false]
        rw [ih]
        rfl
  exact this _ (fun i hi => List.mem_range.1 hi)
/-- How many texts Parts answers, and the error. -/
def partsC (rule text : ByteArray) : Nat × Int × Int := match ruleR rule with
  | .inl (k, i) => (0, k, (i : Int))
  | .inr (f, g) => match patR text with
    | .inl (k, i) => (0, k, (i : Int))
    | .inr C => match course f g C with
      | .inl k => (0, k, 0)
      | .inr (t, s) => if farL (gen f g C s) = true then (0, 4, 0) else (cntL (gensL f g C s (t - s)), 0, 0)
theorem partsC_ok (rule text : ByteArray) : ((partsA rule text).1.length, (partsA rule text).2) = partsC rule text := by
  unfold partsA partsC
  cases hr : ruleR rule with
  | inl x => rfl
  | inr x =>
    obtain ⟨f, g⟩ := x
    simp only
    cases hp : patR text with
    | inl x => rfl
    | inr C =>
      simp only
      cases hc : course f g C with
      | inl k => rfl
      | inr x =>
        obtain ⟨t, s⟩ := x
        simp only
        by_cases hf : farL (gen f g C s) = true
        · rw [if_pos hf, if_pos hf]; rfl
        · rw [if_neg hf, if_neg hf]
          simp only [partsT, List.length_map, cntL_ok]
theorem named_parts : partsC ⟨#[66, 51, 47, 83, 50, 51]⟩ ⟨#[48, 32, 48, 32, 51, 111, 53, 98, 50, 111, 36, 56, 98, 50, 111, 33]⟩ = (2, 0, 0) := by decide +kernel
theorem named_code : codeA ⟨#[66, 51, 47, 83, 50, 51]⟩ ⟨#[57, 32, 57, 32, 51, 111, 33]⟩ = (⟨#[48, 32, 48, 32, 51, 111, 33]⟩, 0, 0) := by decide +kernel

set_option maxRecDepth 100000 in
set_option maxHeartbeats 800000 in
/-- Two more of the document's examples are told. -/
theorem named_any (w : World) (ht : Tab w.heap.size w) (hT : TurnTab w) : Calls Tryz.prog 31 #[] w fun e w' => e = .returned (.bool true) ∧ Below w.heap.size w w' := by
  have hP := parts_any ⟨#[66, 51, 47, 83, 50, 51]⟩ ⟨#[48, 32, 48, 32, 51, 111, 53, 98, 50, 111, 36, 56, 98, 50, 111, 33]⟩ w (by unfold maxLen; decide) (by unfold maxLen; decide) ht
  have hC := fun w ht hT => code_any ⟨#[66, 51, 47, 83, 50, 51]⟩ ⟨#[57, 32, 57, 32, 51, 111, 33]⟩ w (by unfold maxLen; decide) (by unfold maxLen; decide) ht hT
  have h0 := (partsC_ok ⟨#[66, 51, 47, 83, 50, 51]⟩ ⟨#[48, 32, 48, 32, 51, 111, 53, 98, 50, 111, 36, 56, 98, 50, 111, 33]⟩).trans named_parts
  obtain ⟨⟨Ts, k, i⟩, hA⟩ : ∃ A, partsA ⟨#[66, 51, 47, 83, 50, 51]⟩ ⟨#[48, 32, 48, 32, 51, 111, 53, 98, 50, 111, 36, 56, 98, 50, 111, 33]⟩ = A := ⟨_, rfl⟩
  rw [hA] at hP h0
  simp only [Prod.mk.injEq] at h0
  obtain ⟨hl, rfl, rfl⟩ := h0
  simp only [named_code] at hC
  clear hA
  go_enter Tryz.func31, Tryz.ntmps31
  go_wp2_with (first
    | (go_at_call 26; refine hP.mono ?_; rintro e w1 ⟨⟨v, rfl, hTx⟩, b1⟩; clear hP; obtain ⟨av, cv, rfl⟩ := row_slice hTx.1; rw [hl])
    | (go_at_call 33; refine (hC _ (tab_up ht b1 b1.size) (hT.on b1 (Nat.le_refl _))).mono ?_; rintro e w2 ⟨rfl, b2⟩)
    | (go_at_call 18; refine (known_any 0 _).mono ?_; rintro e w3 ⟨rfl, rfl⟩))
  go_ret
  exact ⟨rfl, b1.trans (b2.mono b1.size)⟩

end Go.Proofs.YtiohpcnnpmnjhaaGreatDoor
