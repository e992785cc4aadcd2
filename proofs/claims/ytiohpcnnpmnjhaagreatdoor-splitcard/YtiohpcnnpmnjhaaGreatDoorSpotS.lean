import Derived.Test.YtiohpcnnpmnjhaaGreatDoorSpread
import Derived.Test.YtiohpcnnpmnjhaaGreatDoorPrtM
namespace Go.Proofs.YtiohpcnnpmnjhaaGreatDoor
set_option linter.unusedVariables false

/-- The spots of the first m layers. -/
def spotsL (Gs : List (List Cel)) (m : Nat) : List (Nat × Cel) := (List.range m).flatMap fun t => (Gs.getD t []).map fun c => (t, c)
theorem spotsL_succ (Gs : List (List Cel)) (m : Nat) : spotsL Gs (m + 1) = spotsL Gs m ++ (Gs.getD m []).map fun c => (m, c) := by simp [spotsL, List.range_succ]
theorem spotsL_len (Gs : List (List Cel)) : ∀ m, m ≤ Gs.length → (spotsL Gs m).length = startOf Gs m
  | 0, _ => rfl
  | m + 1, h => by
    rw [spotsL_succ, List.length_append, spotsL_len Gs m (by omega), List.length_map, startOf_succ (getD_some (show m < Gs.length by omega))]
theorem spots_at {Gs : List (List Cel)} {t i : Nat} {c : Cel} (h : CellAt Gs t i c) : ∀ m, t < m → m ≤ Gs.length → (spotsL Gs m)[startOf Gs t + i]? = some (t, c)
  | 0, h0, _ => by omega
  | m + 1, h0, hm => by
    have hl := spotsL_len Gs m (by omega)
    rw [spotsL_succ]
    by_cases e : t = m
    · subst e
      rw [List.getElem?_append_right (by omega), hl, show startOf Gs t + i - startOf Gs t = i by omega, List.getElem?_map]
      obtain ⟨G, hG, hc⟩ := h
      rw [show Gs.getD t [] = G by simp [List.getD, hG], hc]; rfl
    · have h1 := h.start
      have h2 := startOf_mono Gs (i := t + 1) (j := m) (by omega)
      rw [List.getElem?_append_left (by omega)]
      exact spots_at h m (by omega) (by omega)
theorem spots_inv {Gs : List (List Cel)} {n t : Nat} {c : Cel} : ∀ m, m ≤ Gs.length → (spotsL Gs m)[n]? = some (t, c) → ∃ i, CellAt Gs t i c ∧ n = startOf Gs t + i
  | 0, _, h => by simp [spotsL] at h
  | m + 1, hm, h => by
    have hl := spotsL_len Gs m (by omega)
    rw [spotsL_succ] at h
    by_cases hn : n < (spotsL Gs m).length
    · rw [List.getElem?_append_left hn] at h
      exact spots_inv m (by omega) h
    · rw [List.getElem?_append_right (by omega), List.getElem?_map] at h
      obtain ⟨d, hd, e⟩ := Option.map_eq_some_iff.1 h
      cases e
      exact ⟨n - startOf Gs _, ⟨_, getD_some (by omega), by rw [← hl]; exact hd⟩, by omega⟩
theorem inB_near {k : Int} {c d : Cel} : inB k (c.1 - d.1) (c.2 - d.2) = true ↔ nearB k c d = true := by
  rw [near_iff]
  unfold inB
  simp only [Bool.and_eq_true, decide_eq_true_eq]
  omega
theorem lkJ_of {sp : List (Nat × Cel)} {p dx dy : Int} {j m t t' : Nat} {c c' : Cel} (h1 : sp[j]? = some (t, c)) (h2 : sp[m]? = some (t', c')) : lkJ sp p dx dy j m = lkB p dx dy (t : Int) c.1 c.2 (t' : Int) c'.1 c'.2 := by unfold lkJ; rw [h1, h2]
theorem lkJ_some {sp : List (Nat × Cel)} {p dx dy : Int} {j m : Nat} (h : lkJ sp p dx dy j m = true) : ∃ t c t' c', sp[j]? = some (t, c) ∧ sp[m]? = some (t', c') := by
  unfold lkJ at h
  cases h1 : sp[j]? with
  | none => rw [h1] at h; cases h
  | some x =>
    cases h2 : sp[m]? with
    | none => rw [h1, h2] at h; cases h
    | some y => exact ⟨x.1, x.2, y.1, y.2, rfl, rfl⟩
theorem back_at {f g : Nat → Bool} {Gs : List (List Cel)} {d1 d2 : Int} (R : Ring f g Gs d1 d2) {i : Nat} {d : Cel} (h : CellAt Gs (Gs.length - 1) i d) : ∃ c, CellAt Gs 0 i c ∧ d = sh d1 d2 c := by
  have h2 := R.two
  obtain ⟨G, hG, hd⟩ := h
  have hg : Gs.getD (Gs.length - 1) [] = G := by simp [List.getD, hG]
  rw [← hg, R.back, List.getElem?_map] at hd
  obtain ⟨c, hc, rfl⟩ := Option.map_eq_some_iff.1 hd
  exact ⟨c, ⟨_, getD_some (by omega), hc⟩, rfl⟩
theorem fwd_at {f g : Nat → Bool} {Gs : List (List Cel)} {d1 d2 : Int} (R : Ring f g Gs d1 d2) {i : Nat} {c : Cel} (h : CellAt Gs 0 i c) : CellAt Gs (Gs.length - 1) i (sh d1 d2 c) := by
  have h2 := R.two
  obtain ⟨G, hG, hc⟩ := h
  have hg : Gs.getD 0 [] = G := by simp [List.getD, hG]
  refine ⟨_, getD_some (by omega), ?_⟩
  rw [R.back, List.getElem?_map, hg, hc]; rfl
theorem cell_idx {Gs : List (List Cel)} {t i j : Nat} {c : Cel} (ha : Asc (Gs.getD t [])) (hi : CellAt Gs t i c) (hj : CellAt Gs t j c) : i = j := by
  obtain ⟨G, hG, h1⟩ := hi
  obtain ⟨G', hG', h2⟩ := hj
  rw [hG] at hG'; cases hG'
  rw [show Gs.getD t [] = G by simp [List.getD, hG]] at ha
  exact asc_idx ha h1 h2
/-- What the reference links is of one group. -/
theorem lk_same {f g : Nat → Bool} {Gs : List (List Cel)} {d1 d2 : Int} (R : Ring f g Gs d1 d2) {j m : Nat} (h : lkJ (spotsL Gs Gs.length) ((Gs.length - 1 : Nat) : Int) d1 d2 j m = true) : grp Gs j = grp Gs m := by
  have h2 := R.two
  obtain ⟨t, c, t', c', e1, e2⟩ := lkJ_some h
  rw [lkJ_of e1 e2] at h
  obtain ⟨i, hi, rfl⟩ := spots_inv _ (Nat.le_refl _) e1
  obtain ⟨i', hi', rfl⟩ := spots_inv _ (Nat.le_refl _) e2
  have ident : ∀ {a b : Nat} {x y : Cel}, CellAt Gs 0 a x → CellAt Gs (Gs.length - 1) b y → x.1 + d1 = y.1 → x.2 + d2 = y.2 → grp Gs (startOf Gs 0 + a) = grp Gs (startOf Gs (Gs.length - 1) + b) := fun {a b x y} hx hy q1 q2 => by
    have hf := fwd_at R hx
    have : sh d1 d2 x = y := Prod.ext q1 q2
    rw [this] at hf
    have := cell_idx (R.asc _ (by omega)) hf hy
    subst this
    rw [show startOf Gs 0 + a = a from Nat.zero_add a]
    exact link_back (by omega) hy
  unfold lkB at h
  split at h
  · rename_i e
    obtain rfl : t = t' := by omega
    exact link_now (by omega) hi hi' (inB_near.1 h)
  split at h
  · rename_i e
    obtain ⟨e, hn⟩ := e
    rw [inB_near] at hn
    rcases e with e | e
    · obtain rfl : t = t' + 1 := by omega
      exact (link_turn (by omega) hi' hi (by rw [near_iff] at hn ⊢; omega)).symm
    · obtain rfl : t' = t + 1 := by omega
      exact link_turn (by omega) hi hi' hn
  split at h
  · rename_i e
    obtain rfl : t = 0 := by omega
    obtain rfl : t' = Gs.length - 1 := by omega
    simp only [Bool.and_eq_true, decide_eq_true_eq] at h
    exact ident hi hi' h.1 h.2
  split at h
  · rename_i e
    obtain rfl : t' = 0 := by omega
    obtain rfl : t = Gs.length - 1 := by omega
    simp only [Bool.and_eq_true, decide_eq_true_eq] at h
    exact (ident hi' hi h.1 h.2).symm
  · cases h
/-- And what is linked here is linked there. -/
theorem lk_pair {f g : Nat → Bool} {Gs : List (List Cel)} {d1 d2 : Int} (R : Ring f g Gs d1 d2) {a b : Nat} (h : (a, b) ∈ allLinks Gs) : lkJ (spotsL Gs Gs.length) ((Gs.length - 1 : Nat) : Int) d1 d2 a b = true ∧ lkJ (spotsL Gs Gs.length) ((Gs.length - 1 : Nat) : Int) d1 d2 b a = true := by
  have h2 := R.two
  rcases (mem_allLinks (by omega)).1 h with ⟨t, i, j, c, d, hc, hd, hn, rfl, rfl⟩ | ⟨t, i, j, c, d, hc, hd, hn, rfl, rfl⟩ | ⟨i, d, hd, rfl, rfl⟩
  · have s1 := spots_at hc _ hc.lt (Nat.le_refl _)
    have s2 := spots_at hd _ hd.lt (Nat.le_refl _)
    rw [lkJ_of s1 s2, lkJ_of s2 s1]
    unfold lkB
    rw [if_pos rfl, if_pos rfl, inB_near, inB_near]
    exact ⟨hn, by rw [near_iff] at hn ⊢; omega⟩
  · have s1 := spots_at hc _ hc.lt (Nat.le_refl _)
    have s2 := spots_at hd _ hd.lt (Nat.le_refl _)
    rw [lkJ_of s1 s2, lkJ_of s2 s1]
    unfold lkB
    have hn' : nearB 1 d c = true := by rw [near_iff] at hn ⊢; omega
    rw [if_neg (by omega), if_pos ⟨.inr (by omega), inB_near.2 hn⟩, if_neg (by omega), if_pos ⟨.inl (by omega), inB_near.2 hn'⟩]
    exact ⟨rfl, rfl⟩
  · obtain ⟨c, hc, rfl⟩ := back_at R hd
    have s1 := spots_at hc _ hc.lt (Nat.le_refl _)
    rw [show startOf Gs 0 + a = a from Nat.zero_add a] at s1
    have s2 := spots_at hd _ hd.lt (Nat.le_refl _)
    rw [lkJ_of s1 s2, lkJ_of s2 s1]
    unfold lkB
    simp only [sh]
    refine ⟨?_, ?_⟩
    · rw [if_neg (by omega)]
      split
      · rfl
      · simp
    · rw [if_neg (by omega)]
      split
      · rfl
      · rw [if_neg (show ¬ (((Gs.length - 1 : Nat) : Int) = 0 ∧ ((0 : Nat) : Int) = ((Gs.length - 1 : Nat) : Int)) by omega)]; simp
/-- The spots of the layers, and their groups. -/
theorem spotty {f g : Nat → Bool} {Gs : List (List Cel)} {d1 d2 : Int} (R : Ring f g Gs d1 d2) (hl : startOf Gs Gs.length ≤ 1000000) (hn : Gs.length ≤ 1000) (h1 : -1000 ≤ d1 ∧ d1 ≤ 1000) (h2 : -1000 ≤ d2 ∧ d2 ≤ 1000) (hb : ∀ G ∈ Gs, ∀ c ∈ G, (-4000000000000000000 ≤ c.1 ∧ c.1 ≤ 4000000000000000000) ∧ (-4000000000000000000 ≤ c.2 ∧ c.2 ≤ 4000000000000000000)) : Spotty (spotsL Gs Gs.length) ((Gs.length - 1 : Nat) : Int) d1 d2 (grp Gs) := by
  have two := R.two
  refine ⟨by rw [spotsL_len Gs _ (Nat.le_refl _)]; exact hl, by omega, ⟨h1, h2⟩, fun t c hc => ?_, fun j m h => lk_same R h, fun i A hA hcl m hm hκm hκi => ?_⟩
  · obtain ⟨n, hn'⟩ := List.mem_iff_getElem?.1 hc
    obtain ⟨i, hi, _⟩ := spots_inv _ (Nat.le_refl _) hn'
    have ht := hi.lt
    obtain ⟨G, hG, hcG⟩ := hi
    exact ⟨by omega, hb G (List.mem_of_getElem? hG) c (List.mem_of_getElem? hcG)⟩
  · have key := links_color (ps := allLinks Gs) (fun n => A n) (fun p hp => by
      obtain ⟨a, b⟩ := p
      obtain ⟨l1, l2⟩ := lk_pair R hp
      exact propext ⟨fun h => hcl a b l1 h, fun h => hcl b a l2 h⟩) (k := m) (l := i) (hκm.trans hκi.symm)
    exact key.mpr hA

end Go.Proofs.YtiohpcnnpmnjhaaGreatDoor
