import Derived.Test.YtiohpcnnpmnjhaaGreatDoorLnkM
import Derived.Test.YtiohpcnnpmnjhaaGreatDoorTrnM
namespace Go.Proofs.YtiohpcnnpmnjhaaGreatDoor
open Go.RowKit Go.Shelf
set_option linter.unusedVariables false

/-- The parts, of the first m cells. -/
def partsTo (ρ : Nat → Nat) (C : List Cel) (m : Nat) : List (List Cel) := (List.range m).filterMap fun i => if ρ i = i then some (ledTo ρ C i C.length) else none
theorem partsTo_succ (ρ : Nat → Nat) (C : List Cel) (m : Nat) : partsTo ρ C (m + 1) = partsTo ρ C m ++ if ρ m = m then [ledTo ρ C m C.length] else [] := by
  unfold partsTo
  rw [List.range_succ, List.filterMap_append]
  congr 1
  by_cases e : ρ m = m <;> simp [e]
theorem partsTo_len (ρ : Nat → Nat) (C : List Cel) (m : Nat) : (partsTo ρ C m).length ≤ m := by
  unfold partsTo
  refine Nat.le_trans (List.length_filterMap_le _ _) ?_
  simp
/-- The generations from s on. -/
def gensL (f g : Nat → Bool) (C : List Cel) (s p : Nat) : List (List Cel) := (List.range (p + 1)).map fun i => gen f g C (s + i)
theorem gensL_len (f g : Nat → Bool) (C : List Cel) (s p : Nat) : (gensL f g C s p).length = p + 1 := by simp [gensL]
theorem gensL_at {f g : Nat → Bool} {C : List Cel} {s p i : Nat} {D : List Cel} (h : (gensL f g C s p)[i]? = some D) : i ≤ p ∧ D = gen f g C (s + i) := by
  have hl := (List.getElem?_eq_some_iff.1 h).1
  rw [gensL_len] at hl
  simp [gensL, hl] at h
  exact ⟨by omega, h.symm⟩
theorem gensL_get {f g : Nat → Bool} {C : List Cel} {s p i : Nat} (h : i ≤ p) : (gensL f g C s p)[i]? = some (gen f g C (s + i)) := by simp [gensL, show i < p + 1 by omega]
theorem startOf_le {Gs : List (List Cel)} {b : Nat} (h : ∀ C ∈ Gs, C.length ≤ b) : ∀ i, i ≤ Gs.length → startOf Gs i ≤ i * b
  | 0, _ => by simp [startOf]
  | i + 1, hi => by
    obtain ⟨C, hC⟩ : ∃ C, Gs[i]? = some C := ⟨Gs[i]'(by omega), by simp [show i < Gs.length by omega]⟩
    rw [startOf_succ hC]
    have := startOf_le h i (by omega)
    have := h C (List.mem_of_getElem? hC)
    rw [Nat.add_mul]
    omega
/-- The parts of a story. -/
def storyParts (f g : Nat → Bool) (C : List Cel) (s p : Nat) : List (List Cel) := partsTo (joins id (allLinks (gensL f g C s p))) (gen f g C s) (gen f g C s).length

end Go.Proofs.YtiohpcnnpmnjhaaGreatDoor

namespace Go.Proofs.YtiohpcnnpmnjhaaGreatDoor
open Go.RowKit Go.Shelf
set_option linter.unusedVariables false
attribute [local go_sem] Oper.semAt_some

theorem rowKeepT {W W' : World} {B G N n m : Nat} {e : TypeId} {ρ : Nat → Nat} {v : Value} {xs : List Value} (h : W.ownsRow B e m v n xs) (he : 3 ≠ e) (hg : W.grownBy W' (some G)) (hG : GrpAt W G N ρ) : W'.ownsRow B e m v n xs := by
  obtain ⟨g, hg0, _⟩ := hG
  refine ⟨h.1, h.2.imp id ?_⟩
  rintro ⟨b, cap, cur, h1, h2, h3, h4⟩
  exact ⟨b, cap, cur, h1, h2, (hg.block b (blk_lt h3) (fun e' => by have e' := Option.some.inj e'; subst e'; unfold GroupsAt at hg0; rw [hg0] at h3; cases h3; exact he rfl)).trans h3, h4⟩
theorem rowOther {W W' : World} {B1 B2 n m : Nat} {u vp : Value} {xs us : List Value} (h : W.ownsRow B1 113 2 u n xs) (own : W.ownsRow B2 71 1 vp m us) (hg : W.grownBy W' vp.ownBlock) : W'.ownsRow B1 113 2 u n xs := by
  refine ⟨h.1, h.2.imp id ?_⟩
  rintro ⟨b, cap, cur, h1, h2, h3, h4⟩
  exact ⟨b, cap, cur, h1, h2, other_kept own hg h3 (by decide), h4⟩
theorem GrpAt.other {W W' : World} {B G N m : Nat} {ρ : Nat → Nat} {vp : Value} {us : List Value} (h : GrpAt W G N ρ) (own : W.ownsRow B 71 1 vp m us) (hg : W.grownBy W' vp.ownBlock) : GrpAt W' G N ρ := by
  obtain ⟨g, hg0, h2⟩ := h
  exact ⟨g, other_kept own hg hg0 (by decide), h2⟩
/-- Patterns in memory, one behind the other. -/
structure PatsAt (w : World) (B : Nat) (v : Value) (Ps : List (List Cel)) (us : List Value) : Prop where
  own : w.ownsRow B 71 1 v us.length us
  len : us.length = Ps.length
  row : ∀ (i : Nat) u P, us[i]? = some u → Ps[i]? = some P → w.ownsRow 0 113 2 u P.length (flatC P)
theorem PatsAt.nil (w : World) (B : Nat) : PatsAt w B (.slice none 0 0) [] [] := ⟨World.ownsRow_nil _ _ _ _, rfl, fun i u P h => by simp at h⟩
theorem PatsAt.keepG {W W' : World} {B G N : Nat} {ρ : Nat → Nat} {v : Value} {Ps : List (List Cel)} {us : List Value} (h : PatsAt W B v Ps us) (hg : W.grownBy W' (some G)) (hG : GrpAt W G N ρ) : PatsAt W' B v Ps us :=
  ⟨rowKeepT h.own (by decide) hg hG, h.len, fun i u P hu hP => rowKeepB (h.row i u P hu hP) hg hG⟩
theorem PatsAt.below {W W' : World} {B : Nat} {v : Value} {Ps : List (List Cel)} {us : List Value} (h : PatsAt W B v Ps us) (hb : Below W.heap.size W W') : PatsAt W' B v Ps us :=
  ⟨rowBelow h.own hb, h.len, fun i u P hu hP => rowBelow (h.row i u P hu hP) hb⟩
theorem PatsAt.snoc {W W' : World} {B : Nat} {v v' u : Value} {Ps : List (List Cel)} {us : List Value} {P : List Cel} (h : PatsAt W B v Ps us) (hu : W.ownsRow 0 113 2 u P.length (flatC P)) (hg : W.grownBy W' v.ownBlock) (own' : W'.ownsRow B 71 1 v' (us.length + 1) (us ++ [u])) : PatsAt W' B v' (Ps ++ [P]) (us ++ [u]) := by
  refine ⟨by simpa using own', by simp [h.len], fun i u' P' hu' hP' => ?_⟩
  by_cases hi : i < us.length
  · rw [List.getElem?_append_left hi] at hu'
    rw [List.getElem?_append_left (by rw [← h.len]; exact hi)] at hP'
    exact rowOther (h.row i u' P' hu' hP') h.own hg
  · have hl := (List.getElem?_eq_some_iff.1 hu').1
    simp at hl
    obtain rfl : i = us.length := by omega
    rw [List.getElem?_append_right (Nat.le_refl _)] at hu'
    rw [List.getElem?_append_right (by rw [h.len]; exact Nat.le_refl _)] at hP'
    simp at hu'
    rw [h.len] at hP'
    simp at hP'
    subst hu' hP'
    exact rowOther hu h.own hg
set_option maxRecDepth 100000 in
set_option maxHeartbeats 1600000 in
theorem parts_in (hsrch : SearchDoes) (hcmp : CompareDoes) (f g : Nat → Bool) (C : List Cel) (s p : Nat) (d1 d2 : Int) (gg cg : Nat) (vs : List Value) (w : World) (hp : 1 ≤ p) (hsp : s + p ≤ 200) (hvl : vs.length = s + p + 1) (hgg : gg < w.heap.size) (hget : ∀ (i : Nat) v, vs[i]? = some v → w.cell? ⟨gg, i, none⟩ = some v)
    (hall : ∀ (i : Nat) v, vs[i]? = some v → w.ownsRow 0 113 2 v (gen f g C i).length (flatC (gen f g C i))) (hcap : s + p + 1 ≤ cg) (hcod : ∀ i, i ≤ s + p → Codable (gen f g C i)) :
    Calls Tryz.prog 56 #[.agg #[.slice (some ⟨gg, 0, none⟩) (s + p + 1) cg, .int .i64 (s : Int), .int .i64 (p : Int), .int .i64 d1, .int .i64 d2]] w fun e w' =>
      if farL (gen f g C s) = true then e = .panicked (refusal 4 0) ∧ Below w.heap.size w w' else (∃ v us, e = .returned v ∧ PatsAt w' w.heap.size v (storyParts f g C s p) us) ∧ Below w.heap.size w w' := by
  obtain ⟨i0, hi, hz0, hz1, hz2⟩ := info_parts infoP
  obtain ⟨v0, hv0⟩ : ∃ v, vs[s]? = some v := ⟨vs[s]'(by omega), by simp [show s < vs.length by omega]⟩
  have hrow := hall s v0 hv0
  obtain ⟨a0, cap0, rfl⟩ := row_slice hrow
  have hcs := hcod s (by omega)
  obtain ⟨Gs, hGs⟩ : ∃ Gs, gensL f g C s p = Gs := ⟨_, rfl⟩
  have hGl : Gs.length = p + 1 := by rw [← hGs]; exact gensL_len ..
  have hLk : Linkable Gs := fun D hD => by
    obtain ⟨i, hi'⟩ := List.mem_iff_getElem?.1 hD
    rw [← hGs] at hi'
    obtain ⟨h1, rfl⟩ := gensL_at hi'
    have h := hcod (s + i) (by omega)
    refine ⟨by have := h.len; omega, h.asc, fun c hc => ?_⟩
    have := h.turnable c hc
    omega
  have hsum : startOf Gs Gs.length ≤ 1000000 := by
    have := startOf_le (Gs := Gs) (b := 1000) (fun D hD => (hLk D hD).1) Gs.length (Nat.le_refl _)
    rw [hGl] at this ⊢
    omega
  have hC0 : (gen f g C s).length ≤ startOf Gs Gs.length := by
    have h1 := startOf_succ (Gs := Gs) (i := 0) (C := gen f g C s) (by rw [← hGs, gensL_get (by omega)]; rfl)
    have h2 := startOf_mono Gs (i := 0 + 1) (j := Gs.length) (by omega)
    omega
  have HP : Hid (storyParts f g C s p = partsTo (joins id (allLinks Gs)) (gen f g C s) (gen f g C s).length) := by show _ = _; rw [← hGs]; rfl
  have hGA : ∀ W : World, Below w.heap.size w W → GensAt W gg s (vs.drop s) Gs := fun W hb => by
    refine ⟨Nat.lt_of_lt_of_le hgg hb.size, by rw [hGl, List.length_drop]; omega, fun i v hv => ?_, fun i v D hv hD => ?_⟩
    · rw [List.getElem?_drop] at hv
      exact (World.cell?_of_block (hb.block _ hgg)).trans (hget _ _ hv)
    · rw [List.getElem?_drop] at hv
      rw [← hGs] at hD
      obtain ⟨h1, rfl⟩ := gensL_at hD
      exact rowBelow (hall _ _ hv) hb
  obtain ⟨D, hD⟩ : ∃ D, gen f g C s = D := ⟨_, rfl⟩
  obtain ⟨ρ, hρ⟩ : ∃ ρ, joins id (allLinks Gs) = ρ := ⟨_, rfl⟩
  rw [hD, hρ] at HP
  simp only [hD] at hrow hcs hC0 hget ⊢
  have hv0' := hget _ _ hv0
  simp only [hD] at hv0'
  have b1 : Below w.heap.size w (w.alloc (.cells #[.slice (some ⟨gg, 0, none⟩) (s + p + 1) cg, .int .i64 (s : Int), .int .i64 (p : Int), .int .i64 d1, .int .i64 d2] 90)) := (Below.refl _ w).alloc (Nat.le_refl _) _
  have q1 := blk_new w (.cells #[.slice (some ⟨gg, 0, none⟩) (s + p + 1) cg, .int .i64 (s : Int), .int .i64 (p : Int), .int .i64 d1, .int .i64 d2] 90)
  have c0 : (w.alloc (.cells #[.slice (some ⟨gg, 0, none⟩) (s + p + 1) cg, .int .i64 (s : Int), .int .i64 (p : Int), .int .i64 d1, .int .i64 d2] 90)).cell? ⟨gg, s, none⟩ = some (.slice a0 D.length cap0) := (World.cell?_of_block (b1.block _ hgg)).trans hv0'
  have hlc := fun W hb => callsIn_wide.1 (linkCells_any hsrch hcmp gg s (cg - s) (vs.drop s) Gs W (hGA W hb) (by omega) (by omega) hsum hLk)
  obtain ⟨N, hN⟩ : ∃ N, startOf Gs Gs.length = N := ⟨_, rfl⟩
  rw [hN] at hsum hC0
  simp only [hN, hρ] at hlc
  rw [hGl] at hlc
  have hlen : D.length ≤ 100 := hcs.len
  have hFar := fun W own => patFar_any 0 (.slice a0 D.length cap0) D W own (by omega) (fun c hc => by have := hcs.turnable c hc; omega)
  have hsi : (s : Int) < (s : Int) + (p : Int) + 1 := by omega
  have own1 := rowBelow hrow b1
  have HLC : Hid (∀ (W : World), Below w.heap.size w W → Calls Tryz.prog 81 #[.slice (some ⟨gg, s, none⟩) (p + 1) (cg - s)] W fun e w' => ∃ G, e = .returned (.slice (some ⟨G, 0, none⟩) N N) ∧ GrpAt w' G N ρ ∧ Below W.heap.size W w' ∧ W.heap.size ≤ G) := hlc
  clear hlc hGA hget hall hcod hLk hv0 hv0' hN hρ hD hGs hGl
  cases hfd : farL D with
  | true =>
    rw [hfd] at hFar
    go_enter Tryz.func56, Tryz.ntmps56
    go_wp2_with (first
      | (go_at_call 73; refine (hFar _ own1).mono ?_; rintro e w2 ⟨rfl, b2⟩)
      | (go_at_call 71; refine (giveUp_any 4 0 _).mono ?_; rintro e w' ⟨rfl, rfl⟩))
    exact ⟨rfl, rfl, b1.trans (b2.mono b1.size)⟩
  | false =>
    rw [hfd] at hFar
    go_enter Tryz.func56, Tryz.ntmps56
    go_wp2_with (first
      | (go_at_call 73; refine (hFar _ own1).mono ?_; rintro e w2 ⟨rfl, b2⟩; have q2 := (b2.block _ (blk_lt q1)).trans q1; have e0 := cell_of q2 0; have e1 := cell_of q2 1; have b12 := b1.trans (b2.mono b1.size))
      | (go_at_call 81; rw [show s + p + 1 - s = p + 1 by omega]; refine (HLC.out _ b12).mono ?_; rintro e w3 ⟨G, rfl, hG3, b3, hG3l⟩))
    have hGw3 := hG3.lt
    have b123 : Below w.heap.size w w3 := b12.trans (b3.mono b12.size)
    have hG3w : w.heap.size ≤ G := Nat.le_trans b12.size hG3l
    have own3 := rowBelow hrow b123
    go_loopw [5, 26] (fun vp vi wr => ∃ (k : Nat) (us : List Value), k ≤ D.length ∧ vi = .int .i64 (k : Int) ∧ PatsAt wr w3.heap.size vp (partsTo ρ D k) us ∧ GrpAt wr G N ρ ∧ w3.grownBy wr (some G)) (fun _ vi _ => D.length - (intOf vi).toNat)
    case atStart => exact ⟨0, [], Nat.zero_le _, rfl, PatsAt.nil _ _, hG3, World.grownBy.refl _ _⟩
    case round =>
      obtain ⟨k, us, hk, rfl, hPt, hGr, hgr⟩ := hrel
      have hsz := hgr.size
      by_cases hlt : k < D.length
      · have hki : (k : Int) < (D.length : Int) := by omega
        have ownD : wr.ownsRow 0 113 2 (.slice a0 D.length cap0) D.length (flatC D) := rowKeepB own3 hgr hG3
        have hld := leader_grp G N N k ρ wr hGr (by omega) hsum
        have hPl := partsTo_len ρ D k
        have hul := hPt.len
        have HF : Hid (partsTo ρ D (k + 1) = partsTo ρ D k ++ if ρ k = k then [ledTo ρ D k D.length] else []) := partsTo_succ ρ D k
        obtain ⟨Ps, hPs⟩ : ∃ Ps, partsTo ρ D k = Ps := ⟨_, rfl⟩
        rw [hPs] at hPt HF hPl hul
        clear hPs
        have hus : us.length ≤ 100 := by omega
        clear hul hPl
        by_cases he : ρ k = k
        · have hee : (ρ k : Int) = (k : Int) := by omega
          rw [if_pos he] at HF
          rw [hee] at hld
          clear hee he
          obtain ⟨Q, hQ⟩ : ∃ Q, ledTo ρ D k D.length = Q := ⟨_, rfl⟩
          rw [hQ] at HF
          go_wp2_with (first
            | (go_at_call 82; refine hld.mono ?_; rintro e w6 ⟨rfl, hG6, gr6⟩; have hP6 := hPt.keepG gr6 hGr; have ownD6 := rowKeepB ownD gr6 hGr; have hlb := ledBy_any G N N k ρ D a0 cap0 w6 hG6 hsum hC0 ownD6; rw [hQ] at hlb)
            | (go_at_call 83; refine hlb.mono ?_; rintro e w7 ⟨⟨u, rfl, ownU⟩, hG7, gr7⟩; obtain ⟨au, cu, rfl⟩ := row_slice ownU; have hP7 := hP6.keepG gr7 hG6; have s6 := gr6.size; have s7 := gr7.size)
            | (at_builtin; refine wpList_append_own _ rfl _ _ 88 rfl w3.heap.size 71 i0 (.slice none 0 0) 1 24 Tryz.underlying88 hi hz0 hz1 hz2 rfl (by decide) _ _ _ rfl (hP7.own.alloc _) ⟨w7.heap.size, 0, none⟩ 1 1 [.slice au Q.length cu] rfl rfl (cell_one_new _ _ _) (by simp [Value.oneCell']) (by unfold maxLen; omega) (by omega) (by simp; omega) ?_; intro v' w8 own8 hgr8 _))
          go_roundw
          case rel =>
            have bA : Below w7.heap.size w7 (w7.alloc (.cells #[.slice au Q.length cu] 71)) := (Below.refl _ _).alloc (Nat.le_refl _) _
            have hPA := hP7.below bA
            have hGA := hG7.keep (bA.block _ hG7.lt)
            refine ⟨k + 1, us ++ [.slice au Q.length cu], by omega, by go_num, ?_, hGA.other hPA.own hgr8, grown_own (grown_then (grown_over (grown_over hgr gr6) gr7) bA (by omega)) hgr8 (fun j hj => (hP7.own.lt j hj).1)⟩
            rw [HF.out]
            exact hPA.snoc (rowBelow (ownsRow_low ownU (Nat.zero_le _)) bA) hgr8 own8
          case measure => simp [intOf]; omega
        · have hee : ¬ (ρ k : Int) = (k : Int) := by omega
          have hee2 : ((ρ k : Int) == (k : Int)) = false := by simp; omega
          rw [if_neg he, List.append_nil] at HF
          go_wp2_with (first
            | (go_at_call 82; refine hld.mono ?_; rintro e w6 ⟨rfl, hG6, gr6⟩; have hP6 := hPt.keepG gr6 hGr))
          go_roundw
          case rel =>
            refine ⟨k + 1, us, by omega, by go_num, ?_, hG6, grown_over hgr gr6⟩
            rw [HF.out]
            exact hP6
          case measure => simp [intOf]; omega
      · obtain rfl : k = D.length := by omega
        go_wp2
        go_ret
        refine ⟨⟨_, rfl, us, ?_⟩, b123.trans (grown_belowN hgr b123.size hG3w)⟩
        rw [HP.out]
        exact ⟨ownsRow_low hPt.own b123.size, hPt.len, hPt.row⟩

end Go.Proofs.YtiohpcnnpmnjhaaGreatDoor

namespace Go.Proofs.YtiohpcnnpmnjhaaGreatDoor
set_option linter.unusedVariables false

/-- Numbers lead to lesser ones that lead to themselves. -/
def Root (ρ : Nat → Nat) : Prop := ∀ k, ρ k ≤ k ∧ ρ (ρ k) = ρ k
theorem root_id : Root id := fun k => ⟨Nat.le_refl _, rfl⟩
theorem join1_root {ρ : Nat → Nat} (h : Root ρ) (p : Nat × Nat) : Root (join1 ρ p) := fun k => by
  have hk := h k; have h1 := h p.1; have h2 := h p.2
  have hm : ρ (min (ρ p.1) (ρ p.2)) = min (ρ p.1) (ρ p.2) := by
    have : min (ρ p.1) (ρ p.2) = ρ p.1 ∨ min (ρ p.1) (ρ p.2) = ρ p.2 := by omega
    rcases this with e | e
    · rw [e]; exact h1.2
    · rw [e]; exact h2.2
  have h2m : min (ρ p.1) (ρ p.2) = ρ p.1 ∨ min (ρ p.1) (ρ p.2) = ρ p.2 := by omega
  unfold join1
  by_cases hc : ρ k = ρ p.1 ∨ ρ k = ρ p.2
  · simp only [if_pos hc]
    refine ⟨by omega, ?_⟩
    rw [hm, if_pos h2m]
  · simp only [if_neg hc]
    rw [hk.2, if_neg hc]
    exact ⟨hk.1, rfl⟩
theorem join1_keep {ρ : Nat → Nat} (p : Nat × Nat) {k l : Nat} (h : ρ k = ρ l) : join1 ρ p k = join1 ρ p l := by unfold join1; rw [h]
theorem join1_two (ρ : Nat → Nat) (p : Nat × Nat) : join1 ρ p p.1 = join1 ρ p p.2 := by unfold join1; simp
theorem join1_color {ρ : Nat → Nat} {α : Type} (κ : Nat → α) (hρ : ∀ k l, ρ k = ρ l → κ k = κ l) (p : Nat × Nat) (hp : κ p.1 = κ p.2) : ∀ k l, join1 ρ p k = join1 ρ p l → Root ρ → κ k = κ l := fun k l h hr => by
  have up : ∀ k, κ (join1 ρ p k) = κ k := fun k => by
    have rr : ∀ k, κ (ρ k) = κ k := fun k => hρ _ _ (hr k).2
    unfold join1
    split
    · rename_i hc
      have hm : min (ρ p.1) (ρ p.2) = ρ p.1 ∨ min (ρ p.1) (ρ p.2) = ρ p.2 := by omega
      have hm' : κ (min (ρ p.1) (ρ p.2)) = κ p.1 := by
        rcases hm with e | e
        · rw [e, rr]
        · rw [e, rr, hp]
      rw [hm']
      rcases hc with e | e
      · exact (hρ _ _ e).symm
      · rw [hp]; exact (hρ _ _ e).symm
    · exact rr k
  rw [← up k, h, up l]
theorem joins_root : ∀ (ps : List (Nat × Nat)) {ρ : Nat → Nat}, Root ρ → Root (joins ρ ps)
  | [], _, h => h
  | p :: ps, ρ, h => joins_root ps (ρ := join1 ρ p) (join1_root h p)
theorem joins_keep : ∀ (ps : List (Nat × Nat)) {ρ : Nat → Nat} {k l : Nat}, ρ k = ρ l → joins ρ ps k = joins ρ ps l
  | [], _, _, _, h => h
  | p :: ps, ρ, k, l, h => joins_keep ps (ρ := join1 ρ p) (join1_keep p h)
theorem joins_two : ∀ (ps : List (Nat × Nat)) {ρ : Nat → Nat} {i j : Nat}, (i, j) ∈ ps → joins ρ ps i = joins ρ ps j
  | p :: ps, ρ, i, j, h => by
    rcases List.mem_cons.1 h with rfl | h
    · exact joins_keep ps (ρ := join1 ρ (i, j)) (join1_two ρ (i, j))
    · exact joins_two ps (ρ := join1 ρ p) h
theorem joins_color {α : Type} (κ : Nat → α) : ∀ (ps : List (Nat × Nat)) {ρ : Nat → Nat}, Root ρ → (∀ k l, ρ k = ρ l → κ k = κ l) → (∀ p ∈ ps, κ p.1 = κ p.2) → ∀ k l, joins ρ ps k = joins ρ ps l → κ k = κ l
  | [], _, _, hρ, _ => hρ
  | p :: ps, ρ, hr, hρ, hp => joins_color κ ps (ρ := join1 ρ p) (join1_root hr p) (fun k l h => join1_color κ hρ p (hp p (by simp)) k l h hr) (fun q hq => hp q (by simp [hq]))
/-- What all linked pairs share, all of a group share. -/
theorem links_color {α : Type} (κ : Nat → α) {ps : List (Nat × Nat)} (hp : ∀ p ∈ ps, κ p.1 = κ p.2) {k l : Nat} (h : joins id ps k = joins id ps l) : κ k = κ l := joins_color κ ps root_id (fun k l h => by rw [show k = l from h]) hp k l h

/-- A cell of a layer. -/
def CellAt (Gs : List (List Cel)) (t i : Nat) (c : Cel) : Prop := ∃ G, Gs[t]? = some G ∧ G[i]? = some c
theorem CellAt.lt {Gs : List (List Cel)} {t i : Nat} {c : Cel} (h : CellAt Gs t i c) : t < Gs.length := by obtain ⟨G, h, _⟩ := h; exact (List.getElem?_eq_some_iff.1 h).1
theorem CellAt.start {Gs : List (List Cel)} {t i : Nat} {c : Cel} (h : CellAt Gs t i c) : startOf Gs t + i < startOf Gs (t + 1) := by
  obtain ⟨G, h, h2⟩ := h
  have := (List.getElem?_eq_some_iff.1 h2).1
  rw [startOf_succ h]; omega
theorem CellAt.uniq {Gs : List (List Cel)} {t i t' i' : Nat} {c c' : Cel} (h : CellAt Gs t i c) (h' : CellAt Gs t' i' c') (e : startOf Gs t + i = startOf Gs t' + i') : t = t' ∧ i = i' ∧ c = c' := by
  have h1 := h.start; have h1' := h'.start
  have ht : t = t' := by
    rcases Nat.lt_trichotomy t t' with k | k | k
    · have := startOf_mono Gs (i := t + 1) (j := t') (by omega); omega
    · exact k
    · have := startOf_mono Gs (i := t' + 1) (j := t) (by omega); omega
  subst ht
  have hi : i = i' := by omega
  subst hi
  obtain ⟨G, a, b⟩ := h
  obtain ⟨G', a', b'⟩ := h'
  rw [a] at a'; cases a'
  rw [b] at b'; cases b'
  exact ⟨rfl, rfl, rfl⟩
theorem mem_nearTo {C : List Cel} {c : Cel} {ap : Int} {m j : Nat} : j ∈ nearTo C c ap m ↔ j < m ∧ ∃ d, C[j]? = some d ∧ nearB ap c d = true := by
  unfold nearTo
  rw [List.mem_filter, List.mem_range]
  refine and_congr_right fun hj => ?_
  cases h : C[j]? with
  | none => simp
  | some d => simp
theorem mem_linksTo {A B : List Cel} {sa sb m : Nat} {ap : Int} {a b : Nat} (hm : m ≤ A.length) : (a, b) ∈ linksTo A sa B sb ap m ↔ ∃ i j c d, i < m ∧ A[i]? = some c ∧ B[j]? = some d ∧ nearB ap c d = true ∧ a = sa + i ∧ b = sb + j := by
  unfold linksTo
  simp only [List.mem_flatMap, List.mem_range, List.mem_map, Prod.mk.injEq, mem_nearTo]
  constructor
  · rintro ⟨i, hi, j, ⟨hj, d, hd, hn⟩, rfl, rfl⟩
    have hc : A[i]? = some (A.getD i (0, 0)) := by simp [List.getD, show i < A.length by omega]
    exact ⟨i, j, _, d, hi, hc, hd, hn, rfl, rfl⟩
  · rintro ⟨i, j, c, d, hi, hc, hd, hn, rfl, rfl⟩
    have : A.getD i (0, 0) = c := by simp [List.getD, hc]
    exact ⟨i, hi, j, ⟨(List.getElem?_eq_some_iff.1 hd).1, d, hd, by rw [this]; exact hn⟩, rfl, rfl⟩
theorem getD_some {Gs : List (List Cel)} {t : Nat} (h : t < Gs.length) : Gs[t]? = some (Gs.getD t []) := by simp [List.getD, h]
/-- Two linked numbers. -/
theorem mem_allLinks {Gs : List (List Cel)} (hn : 1 ≤ Gs.length) {a b : Nat} : (a, b) ∈ allLinks Gs ↔
    (∃ t i j c d, CellAt Gs t i c ∧ CellAt Gs t j d ∧ nearB 2 c d = true ∧ a = startOf Gs t + i ∧ b = startOf Gs t + j)
    ∨ (∃ t i j c d, CellAt Gs t i c ∧ CellAt Gs (t + 1) j d ∧ nearB 1 c d = true ∧ a = startOf Gs t + i ∧ b = startOf Gs (t + 1) + j)
    ∨ (∃ i d, CellAt Gs (Gs.length - 1) i d ∧ a = i ∧ b = startOf Gs (Gs.length - 1) + i) := by
  unfold allLinks
  rw [List.mem_append]
  constructor
  · rintro (h | h)
    · unfold linkTo at h
      obtain ⟨k, hk, h⟩ := List.mem_flatMap.1 h
      rw [List.mem_range] at hk
      unfold linkAt at h
      rcases List.mem_append.1 h with h | h
      · obtain ⟨i, j, c, d, hi, hc, hd, hnr, rfl, rfl⟩ := (mem_linksTo (Nat.le_refl _)).1 h
        exact .inl ⟨k, i, j, c, d, ⟨_, getD_some hk, hc⟩, ⟨_, getD_some hk, hd⟩, hnr, rfl, rfl⟩
      · split at h
        · rename_i h0
          obtain ⟨t, rfl⟩ : ∃ t, k = t + 1 := ⟨k - 1, by omega⟩
          simp only [Nat.add_sub_cancel] at h
          obtain ⟨i, j, c, d, hi, hc, hd, hnr, rfl, rfl⟩ := (mem_linksTo (Nat.le_refl _)).1 h
          exact .inr (.inl ⟨t, i, j, c, d, ⟨_, getD_some (by omega), hc⟩, ⟨_, getD_some hk, hd⟩, hnr, rfl, rfl⟩)
        · cases h
    · unfold sameTo at h
      obtain ⟨i, hi, e⟩ := List.mem_map.1 h
      rw [List.mem_range] at hi
      cases e
      exact .inr (.inr ⟨_, _, ⟨_, getD_some (by omega), List.getElem?_eq_getElem hi⟩, rfl, rfl⟩)
  · rintro (⟨t, i, j, c, d, hc, hd, hnr, rfl, rfl⟩ | ⟨t, i, j, c, d, hc, hd, hnr, rfl, rfl⟩ | ⟨i, d, hd, rfl, rfl⟩)
    · left
      obtain ⟨G, hG, hc⟩ := hc
      obtain ⟨G', hG', hd⟩ := hd
      rw [hG] at hG'; cases hG'
      have hg : Gs.getD t [] = G := by simp [List.getD, hG]
      refine List.mem_flatMap.2 ⟨t, List.mem_range.2 (List.getElem?_eq_some_iff.1 hG).1, ?_⟩
      unfold linkAt
      rw [hg]
      exact List.mem_append_left _ ((mem_linksTo (Nat.le_refl _)).2 ⟨i, j, c, d, (List.getElem?_eq_some_iff.1 hc).1, hc, hd, hnr, rfl, rfl⟩)
    · left
      obtain ⟨G, hG, hc⟩ := hc
      obtain ⟨G', hG', hd⟩ := hd
      have hg : Gs.getD t [] = G := by simp [List.getD, hG]
      have hg' : Gs.getD (t + 1) [] = G' := by simp [List.getD, hG']
      refine List.mem_flatMap.2 ⟨t + 1, List.mem_range.2 (List.getElem?_eq_some_iff.1 hG').1, ?_⟩
      unfold linkAt
      rw [if_pos (by omega), Nat.add_sub_cancel, hg, hg']
      exact List.mem_append_right _ ((mem_linksTo (Nat.le_refl _)).2 ⟨i, j, c, d, (List.getElem?_eq_some_iff.1 hc).1, hc, hd, hnr, rfl, rfl⟩)
    · right
      obtain ⟨G, hG, hd⟩ := hd
      have hg : Gs.getD (Gs.length - 1) [] = G := by simp [List.getD, hG]
      rw [hg]
      unfold sameTo
      exact List.mem_map.2 ⟨_, List.mem_range.2 (List.getElem?_eq_some_iff.1 hd).1, rfl⟩

end Go.Proofs.YtiohpcnnpmnjhaaGreatDoor

namespace Go.Proofs.YtiohpcnnpmnjhaaGreatDoor
set_option linter.unusedVariables false

theorem near_iff {ap : Int} {c d : Cel} : nearB ap c d = true ↔ (c.1 - ap ≤ d.1 ∧ d.1 ≤ c.1 + ap) ∧ (c.2 - ap ≤ d.2 ∧ d.2 ≤ c.2 + ap) := by
  unfold nearB; simp only [Bool.and_eq_true, decide_eq_true_eq]; omega
theorem mem_ledTo {ρ : Nat → Nat} {C : List Cel} {l m : Nat} {c : Cel} : c ∈ ledTo ρ C l m ↔ ∃ i, i < m ∧ C[i]? = some c ∧ ρ i = l := by
  unfold ledTo
  simp only [List.mem_filterMap, List.mem_range]
  constructor
  · rintro ⟨i, hi, h⟩
    split at h
    · exact ⟨i, hi, h, by assumption⟩
    · cases h
  · rintro ⟨i, hi, h, e⟩
    exact ⟨i, hi, by rw [if_pos e]; exact h⟩
theorem ledTo_take (ρ : Nat → Nat) (C : List Cel) (l : Nat) : ∀ m, m ≤ C.length → (ledTo ρ C l m).Sublist (C.take m)
  | 0, _ => by simp [ledTo]
  | m + 1, h => by
    have hc : C[m]? = some C[m] := by simp [show m < C.length by omega]
    rw [ledTo_succ ρ C l m hc, List.take_add_one, hc]
    refine (ledTo_take ρ C l m (by omega)).append ?_
    split
    · exact List.Sublist.refl _
    · simp
theorem ledTo_sub (ρ : Nat → Nat) (C : List Cel) (l : Nat) : (ledTo ρ C l C.length).Sublist C := by
  have := ledTo_take ρ C l C.length (Nat.le_refl _)
  rwa [List.take_length] at this
theorem ledTo_asc {ρ : Nat → Nat} {C : List Cel} {l : Nat} (h : Asc C) : Asc (ledTo ρ C l C.length) := List.Pairwise.sublist (ledTo_sub ρ C l) h
theorem ledTo_map (ρ : Nat → Nat) (C : List Cel) (φ : Cel → Cel) (l m : Nat) : ledTo ρ (C.map φ) l m = (ledTo ρ C l m).map φ := by
  unfold ledTo
  rw [List.map_filterMap]
  refine congrArg (fun F => List.filterMap F (List.range m)) (funext fun i => ?_)
  by_cases e : ρ i = l
  · rw [if_pos e, if_pos e, List.getElem?_map]
  · rw [if_neg e, if_neg e]; rfl
theorem fm_congr {α β : Type} {F H : α → Option β} : ∀ (l : List α), (∀ x ∈ l, F x = H x) → l.filterMap F = l.filterMap H
  | [], _ => rfl
  | a :: l, h => by
    rw [List.filterMap_cons, List.filterMap_cons, h a (by simp), fm_congr l fun x hx => h x (by simp [hx])]
theorem ledTo_congr {ρ ρ' : Nat → Nat} {C : List Cel} {l m : Nat} (h : ∀ i, i < m → ρ i = ρ' i) : ledTo ρ C l m = ledTo ρ' C l m := by
  unfold ledTo
  refine fm_congr _ fun i hi => ?_
  rw [h i (List.mem_range.1 hi)]

/-- The group's cells in a layer. -/
def cls (ρ : Nat → Nat) (Gs : List (List Cel)) (l t : Nat) : List Cel := ledTo (fun i => ρ (startOf Gs t + i)) (Gs.getD t []) l (Gs.getD t []).length
/-- The groups of the layers. -/
def grp (Gs : List (List Cel)) : Nat → Nat := joins id (allLinks Gs)
theorem mem_cls {ρ : Nat → Nat} {Gs : List (List Cel)} {l t : Nat} {c : Cel} : c ∈ cls ρ Gs l t ↔ ∃ i, CellAt Gs t i c ∧ ρ (startOf Gs t + i) = l := by
  unfold cls
  rw [mem_ledTo]
  constructor
  · rintro ⟨i, hi, hc, e⟩
    refine ⟨i, ?_, e⟩
    by_cases ht : t < Gs.length
    · exact ⟨_, getD_some ht, hc⟩
    · simp [List.getD, List.getElem?_eq_none (l := Gs) (i := t) (by omega)] at hi
  · rintro ⟨i, ⟨G, hG, hc⟩, e⟩
    have hg : Gs.getD t [] = G := by simp [List.getD, hG]
    rw [hg]
    exact ⟨i, (List.getElem?_eq_some_iff.1 hc).1, hc, e⟩
theorem cls_asc {ρ : Nat → Nat} {Gs : List (List Cel)} {l t : Nat} (h : Asc (Gs.getD t [])) : Asc (cls ρ Gs l t) := ledTo_asc h

/-- Generations one behind the other, of which the last is the first moved. -/
structure Ring (f g : Nat → Bool) (Gs : List (List Cel)) (d1 d2 : Int) : Prop where
  two : 2 ≤ Gs.length
  asc : ∀ t, t < Gs.length → Asc (Gs.getD t [])
  next : ∀ t, t + 1 < Gs.length → Gs.getD (t + 1) [] = nextL f g (Gs.getD t [])
  back : Gs.getD (Gs.length - 1) [] = (Gs.getD 0 []).map (sh d1 d2)

theorem cell_mem {Gs : List (List Cel)} {t : Nat} {c : Cel} (ht : t < Gs.length) : c ∈ Gs.getD t [] ↔ ∃ i, CellAt Gs t i c := by
  rw [List.mem_iff_getElem?]
  constructor
  · rintro ⟨i, h⟩; exact ⟨i, _, getD_some ht, h⟩
  · rintro ⟨i, G, hG, h⟩
    have hg : Gs.getD t [] = G := by simp [List.getD, hG]
    rw [hg]; exact ⟨i, h⟩
theorem link_now {Gs : List (List Cel)} (hn : 1 ≤ Gs.length) {t i j : Nat} {c d : Cel} (hc : CellAt Gs t i c) (hd : CellAt Gs t j d) (h : nearB 2 c d = true) : grp Gs (startOf Gs t + i) = grp Gs (startOf Gs t + j) :=
  joins_two _ ((mem_allLinks hn).2 (.inl ⟨t, i, j, c, d, hc, hd, h, rfl, rfl⟩))
theorem link_turn {Gs : List (List Cel)} (hn : 1 ≤ Gs.length) {t i j : Nat} {c d : Cel} (hc : CellAt Gs t i c) (hd : CellAt Gs (t + 1) j d) (h : nearB 1 c d = true) : grp Gs (startOf Gs t + i) = grp Gs (startOf Gs (t + 1) + j) :=
  joins_two _ ((mem_allLinks hn).2 (.inr (.inl ⟨t, i, j, c, d, hc, hd, h, rfl, rfl⟩)))
theorem link_back {Gs : List (List Cel)} (hn : 1 ≤ Gs.length) {i : Nat} {d : Cel} (hd : CellAt Gs (Gs.length - 1) i d) : grp Gs i = grp Gs (startOf Gs (Gs.length - 1) + i) :=
  joins_two _ ((mem_allLinks hn).2 (.inr (.inr ⟨i, d, hd, rfl, rfl⟩)))

/-- What lies around a cell that is near one of the group is of the group. -/
theorem cls_around {f g : Nat → Bool} {Gs : List (List Cel)} {d1 d2 : Int} (R : Ring f g Gs d1 d2) {l t : Nat} (ht : t < Gs.length) {c d e : Cel} (hd : d ∈ cls (grp Gs) Gs l t) (hc : c ∈ around d) (he : e ∈ Gs.getD t []) (hec : e ∈ around c) : e ∈ cls (grp Gs) Gs l t := by
  obtain ⟨i, hi, hl⟩ := mem_cls.1 hd
  obtain ⟨j, hj⟩ := (cell_mem ht).1 he
  refine mem_cls.2 ⟨j, hj, ?_⟩
  rw [← hl]
  refine (link_now (by have := R.two; omega) hi hj (near_iff.2 ?_)).symm
  rw [mem_around] at hc hec
  omega
theorem cls_lives {f g : Nat → Bool} {Gs : List (List Cel)} {d1 d2 : Int} (R : Ring f g Gs d1 d2) {l t : Nat} (ht : t < Gs.length) {c d : Cel} (hd : d ∈ cls (grp Gs) Gs l t) (hc : c ∈ around d) : livesC f g (cls (grp Gs) Gs l t) c = livesC f g (Gs.getD t []) c := by
  have hsub : ∀ x, x ∈ cls (grp Gs) Gs l t → x ∈ Gs.getD t [] := fun x hx => (cell_mem ht).2 (by obtain ⟨i, hi, _⟩ := mem_cls.1 hx; exact ⟨i, hi⟩)
  have hnb : nbC (cls (grp Gs) Gs l t) c = nbC (Gs.getD t []) c := by
    unfold nbC
    rw [List.countP_eq_length_filter, List.countP_eq_length_filter]
    congr 1
    refine asc_unique (List.Pairwise.filter _ (cls_asc (R.asc t ht))) (List.Pairwise.filter _ (R.asc t ht)) fun x => ?_
    rw [List.mem_filter, List.mem_filter]
    refine ⟨fun h => ⟨hsub x h.1, h.2⟩, fun h => ⟨cls_around R ht hd hc h.1 (isNb_iff.1 h.2).1, h.2⟩⟩
  have hm : c ∈ cls (grp Gs) Gs l t ↔ c ∈ Gs.getD t [] := ⟨hsub c, fun h => cls_around R ht hd hc h (by rw [mem_around]; omega)⟩
  unfold livesC
  rw [hnb]
  by_cases h : c ∈ Gs.getD t []
  · rw [if_pos h, if_pos (hm.2 h)]
  · rw [if_neg h, if_neg (fun h' => h (hm.1 h'))]
theorem near_around {c d : Cel} (h : c ∈ around d) : nearB 1 d c = true := by rw [mem_around] at h; exact near_iff.2 (by omega)
/-- Each group lives as if it were alone. -/
theorem cls_next {f g : Nat → Bool} {Gs : List (List Cel)} {d1 d2 : Int} (R : Ring f g Gs d1 d2) {l t : Nat} (ht : t + 1 < Gs.length) : nextL f g (cls (grp Gs) Gs l t) = cls (grp Gs) Gs l (t + 1) := by
  have h2 := R.two
  have hsub : ∀ x, x ∈ cls (grp Gs) Gs l t → x ∈ Gs.getD t [] := fun x hx => (cell_mem (by omega)).2 (by obtain ⟨i, hi, _⟩ := mem_cls.1 hx; exact ⟨i, hi⟩)
  refine asc_unique (asc_nextL f g _) (cls_asc (R.asc _ ht)) fun c => ?_
  rw [mem_nextL]
  constructor
  · rintro ⟨⟨d, hd, hc⟩, hl⟩
    rw [cls_lives R (by omega) hd hc] at hl
    have hcn : c ∈ Gs.getD (t + 1) [] := by rw [R.next t ht]; exact mem_nextL.2 ⟨⟨d, hsub d hd, hc⟩, hl⟩
    obtain ⟨j, hj⟩ := (cell_mem ht).1 hcn
    obtain ⟨i, hi, e⟩ := mem_cls.1 hd
    exact mem_cls.2 ⟨j, hj, by rw [← e]; exact (link_turn (by omega) hi hj (near_around hc)).symm⟩
  · intro h
    obtain ⟨j, hj, e⟩ := mem_cls.1 h
    have hcn : c ∈ Gs.getD (t + 1) [] := (cell_mem ht).2 ⟨j, hj⟩
    rw [R.next t ht] at hcn
    obtain ⟨⟨d, hd, hc⟩, hl⟩ := mem_nextL.1 hcn
    obtain ⟨i, hi⟩ := (cell_mem (by omega)).1 hd
    have hdc : d ∈ cls (grp Gs) Gs l t := mem_cls.2 ⟨i, hi, by rw [← e]; exact link_turn (by omega) hi hj (near_around hc)⟩
    exact ⟨⟨d, hdc, hc⟩, by rw [cls_lives R (by omega) hdc hc]; exact hl⟩
theorem cls_gen {f g : Nat → Bool} {Gs : List (List Cel)} {d1 d2 : Int} (R : Ring f g Gs d1 d2) (l : Nat) : ∀ t, t < Gs.length → gen f g (cls (grp Gs) Gs l 0) t = cls (grp Gs) Gs l t
  | 0, _ => rfl
  | t + 1, h => by rw [gen, cls_gen R l t (by omega), cls_next R h]
/-- A group comes back as itself. -/
theorem cls_back {f g : Nat → Bool} {Gs : List (List Cel)} {d1 d2 : Int} (R : Ring f g Gs d1 d2) (l : Nat) : cls (grp Gs) Gs l (Gs.length - 1) = (cls (grp Gs) Gs l 0).map (sh d1 d2) := by
  have h2 := R.two
  unfold cls
  rw [R.back, ledTo_map, List.length_map]
  congr 1
  refine ledTo_congr fun i hi => ?_
  have hz : startOf Gs 0 = 0 := rfl
  rw [hz, Nat.zero_add]
  have hd : ∃ d, (Gs.getD (Gs.length - 1) [])[i]? = some d := by rw [R.back]; exact ⟨_, List.getElem?_eq_getElem (by simpa using hi)⟩
  obtain ⟨d, hd⟩ := hd
  exact (link_back (by omega) (d := d) ⟨_, getD_some (by omega), hd⟩).symm
/-- Every cell is linked with one of the first layer. -/
theorem anc_any {f g : Nat → Bool} {Gs : List (List Cel)} {d1 d2 : Int} (R : Ring f g Gs d1 d2) : ∀ (t i : Nat) (c : Cel), CellAt Gs t i c → ∃ j d, CellAt Gs 0 j d ∧ grp Gs (startOf Gs t + i) = grp Gs j
  | 0, i, c, h => ⟨i, c, h, by rw [show startOf Gs 0 = 0 from rfl, Nat.zero_add]⟩
  | t + 1, i, c, h => by
    have h2 := R.two
    have ht := h.lt
    have hcn : c ∈ Gs.getD (t + 1) [] := (cell_mem ht).2 ⟨i, h⟩
    rw [R.next t ht] at hcn
    obtain ⟨⟨d, hd, hc⟩, hl⟩ := mem_nextL.1 hcn
    obtain ⟨k, hk⟩ := (cell_mem (by omega)).1 hd
    obtain ⟨j, e, hj, hg⟩ := anc_any R t k d hk
    exact ⟨j, e, hj, by rw [← hg]; exact (link_turn (by omega) hk h (near_around hc)).symm⟩

end Go.Proofs.YtiohpcnnpmnjhaaGreatDoor

namespace Go.Proofs.YtiohpcnnpmnjhaaGreatDoor
set_option linter.unusedVariables false

theorem gensL_getD {f g : Nat → Bool} {C : List Cel} {s p t : Nat} (h : t ≤ p) : (gensL f g C s p).getD t [] = gen f g C (s + t) := by simp [List.getD, gensL_get h]
theorem gensL_ring {f g : Nat → Bool} {C : List Cel} {s p : Nat} {d1 d2 : Int} (hC : Asc C) (hp : 1 ≤ p) (hb : gen f g C (s + p) = (gen f g C s).map (sh d1 d2)) : Ring f g (gensL f g C s p) d1 d2 := by
  refine ⟨by rw [gensL_len]; omega, fun t ht => ?_, fun t ht => ?_, ?_⟩
  · rw [gensL_len] at ht
    rw [gensL_getD (by omega)]; exact gen_asc hC _
  · rw [gensL_len] at ht
    rw [gensL_getD (by omega), gensL_getD (by omega)]; rfl
  · rw [gensL_len, Nat.add_sub_cancel, gensL_getD (Nat.le_refl _), gensL_getD (by omega)]; exact hb
theorem mem_storyParts {f g : Nat → Bool} {C : List Cel} {s p : Nat} {P : List Cel} : P ∈ storyParts f g C s p ↔ ∃ l, l < (gen f g C s).length ∧ grp (gensL f g C s p) l = l ∧ P = cls (grp (gensL f g C s p)) (gensL f g C s p) l 0 := by
  unfold storyParts partsTo
  have e : ∀ l, ledTo (joins id (allLinks (gensL f g C s p))) (gen f g C s) l (gen f g C s).length = cls (grp (gensL f g C s p)) (gensL f g C s p) l 0 := fun l => by
    unfold cls
    rw [gensL_getD (Nat.zero_le _), Nat.add_zero]
    refine ledTo_congr fun i _ => ?_
    rw [show startOf (gensL f g C s p) 0 = 0 from rfl, Nat.zero_add]; rfl
  simp only [List.mem_filterMap, List.mem_range]
  constructor
  · rintro ⟨l, hl, h⟩
    split at h
    · rename_i hr
      cases h
      exact ⟨l, hl, hr, e l⟩
    · cases h
  · rintro ⟨l, hl, hr, rfl⟩
    exact ⟨l, hl, by rw [if_pos (show joins id (allLinks (gensL f g C s p)) l = l from hr), e l]⟩
theorem cell0 {f g : Nat → Bool} {C : List Cel} {s p t i : Nat} {c : Cel} : CellAt (gensL f g C s p) t i c ↔ t ≤ p ∧ (gen f g C (s + t))[i]? = some c := by
  constructor
  · rintro ⟨G, hG, hc⟩
    obtain ⟨h1, rfl⟩ := gensL_at hG
    exact ⟨h1, hc⟩
  · rintro ⟨h, hc⟩
    exact ⟨_, gensL_get h, hc⟩
theorem grp_root (Gs : List (List Cel)) : Root (grp Gs) := joins_root _ root_id
/-- A part, n generations on. -/
theorem part_gen {f g : Nat → Bool} {C : List Cel} {s p : Nat} {d1 d2 : Int} (hC : Asc C) (hp : 1 ≤ p) (hb : gen f g C (s + p) = (gen f g C s).map (sh d1 d2)) (l n : Nat) :
    gen f g (cls (grp (gensL f g C s p)) (gensL f g C s p) l 0) n = (cls (grp (gensL f g C s p)) (gensL f g C s p) l (n % p)).map (sh (((n / p : Nat) : Int) * d1) (((n / p : Nat) : Int) * d2)) := by
  have R := gensL_ring hC hp hb
  have hlen := gensL_len f g C s p
  have h0 : gen f g (cls (grp (gensL f g C s p)) (gensL f g C s p) l 0) (0 + p) = (gen f g (cls (grp (gensL f g C s p)) (gensL f g C s p) l 0) 0).map (sh d1 d2) := by
    rw [Nat.zero_add, cls_gen R l p (by omega)]
    have := cls_back R l
    rwa [hlen, Nat.add_sub_cancel] at this
  have h1 := gen_cycle h0 (n % p) (n / p)
  have h2 := Nat.mod_lt n (show 0 < p by omega)
  have h3 : 0 + n % p + n / p * p = n := by have := Nat.mod_add_div n p; rw [Nat.mul_comm] at this; omega
  rw [h3, Nat.zero_add, cls_gen R l (n % p) (by omega)] at h1
  exact h1
theorem whole_gen {f g : Nat → Bool} {C : List Cel} {s p : Nat} {d1 d2 : Int} (hp : 1 ≤ p) (hb : gen f g C (s + p) = (gen f g C s).map (sh d1 d2)) (n : Nat) :
    gen f g C (s + n) = (gen f g C (s + n % p)).map (sh (((n / p : Nat) : Int) * d1) (((n / p : Nat) : Int) * d2)) := by
  have h1 := gen_cycle hb (n % p) (n / p)
  have h3 : s + n % p + n / p * p = s + n := by have := Nat.mod_add_div n p; rw [Nat.mul_comm] at this; omega
  rwa [h3] at h1
/-- The whole is made of just its parts. -/
theorem parts_union {f g : Nat → Bool} {C : List Cel} {s p : Nat} {d1 d2 : Int} (hC : Asc C) (hp : 1 ≤ p) (hb : gen f g C (s + p) = (gen f g C s).map (sh d1 d2)) (n : Nat) (c : Cel) : c ∈ gen f g C (s + n) ↔ ∃ P ∈ storyParts f g C s p, c ∈ gen f g P n := by
  have R := gensL_ring hC hp hb
  have hm := Nat.mod_lt n (show 0 < p by omega)
  rw [whole_gen hp hb n, List.mem_map]
  constructor
  · rintro ⟨d, hd, rfl⟩
    obtain ⟨i, hi⟩ := List.mem_iff_getElem?.1 hd
    have hca : CellAt (gensL f g C s p) (n % p) i d := cell0.2 ⟨by omega, hi⟩
    obtain ⟨j, e, hj, hg⟩ := anc_any R _ _ _ hca
    obtain ⟨_, hj'⟩ := cell0.1 hj
    have hr := grp_root (gensL f g C s p) j
    have hjl := (List.getElem?_eq_some_iff.1 hj').1
    rw [Nat.add_zero] at hjl
    refine ⟨_, mem_storyParts.2 ⟨grp (gensL f g C s p) j, by omega, hr.2, rfl⟩, ?_⟩
    rw [part_gen hC hp hb]
    exact List.mem_map_of_mem (mem_cls.2 ⟨i, hca, hg⟩)
  · rintro ⟨P, hP, h⟩
    obtain ⟨l, hl, hr, rfl⟩ := mem_storyParts.1 hP
    rw [part_gen hC hp hb] at h
    obtain ⟨d, hd, rfl⟩ := List.mem_map.1 h
    obtain ⟨i, hi, _⟩ := mem_cls.1 hd
    exact ⟨d, List.mem_of_getElem? (cell0.1 hi).2, rfl⟩
theorem asc_idx {C : List Cel} (h : Asc C) {i j : Nat} {c : Cel} (hi : C[i]? = some c) (hj : C[j]? = some c) : i = j := by
  obtain ⟨a, ha⟩ := List.getElem?_eq_some_iff.1 hi
  obtain ⟨b, hb⟩ := List.getElem?_eq_some_iff.1 hj
  have hp := List.pairwise_iff_getElem.1 h
  rcases Nat.lt_trichotomy i j with k | k | k
  · have := hp i j a b k
    rw [ha, hb] at this
    exact absurd this (before_irr c)
  · exact k
  · have := hp j i b a k
    rw [ha, hb] at this
    exact absurd this (before_irr c)
/-- No cell is in two of them. -/
theorem parts_apart {f g : Nat → Bool} {C : List Cel} {s p : Nat} {d1 d2 : Int} (hC : Asc C) (hp : 1 ≤ p) (hb : gen f g C (s + p) = (gen f g C s).map (sh d1 d2)) (n : Nat) : (storyParts f g C s p).Pairwise fun P Q => ∀ c, c ∈ gen f g P n → ¬ c ∈ gen f g Q n := by
  have e : ∀ l, ledTo (joins id (allLinks (gensL f g C s p))) (gen f g C s) l (gen f g C s).length = cls (grp (gensL f g C s p)) (gensL f g C s p) l 0 := fun l => by
    unfold cls
    rw [gensL_getD (Nat.zero_le _), Nat.add_zero]
    refine ledTo_congr fun i _ => ?_
    rw [show startOf (gensL f g C s p) 0 = 0 from rfl, Nat.zero_add]; rfl
  unfold storyParts partsTo
  rw [List.pairwise_filterMap]
  refine List.pairwise_lt_range.imp fun {a b} hab P hP Q hQ c h1 h2 => ?_
  split at hP
  · split at hQ
    · simp only [Option.some.injEq] at hP hQ
      rw [e] at hP hQ
      subst hP hQ
      rw [part_gen hC hp hb] at h1 h2
      obtain ⟨x, hx, rfl⟩ := List.mem_map.1 h1
      obtain ⟨y, hy, ey⟩ := List.mem_map.1 h2
      have := sh_inj ey
      subst this
      obtain ⟨i, hi, ei⟩ := mem_cls.1 hx
      obtain ⟨j, hj, ej⟩ := mem_cls.1 hy
      have hij := asc_idx (gen_asc hC _) (cell0.1 hi).2 (cell0.1 hj).2
      subst hij
      omega
    · cases hQ
  · cases hP
theorem nextL_nil (f g : Nat → Bool) : nextL f g [] = [] := rfl
theorem gen_nil (f g : Nat → Bool) : ∀ n, gen f g [] n = []
  | 0 => rfl
  | n + 1 => by rw [gen, gen_nil f g n, nextL_nil]
theorem part_ne {f g : Nat → Bool} {C : List Cel} {s p : Nat} {d1 d2 : Int} (hC : Asc C) (hp : 1 ≤ p) (hb : gen f g C (s + p) = (gen f g C s).map (sh d1 d2)) {P : List Cel} (hP : P ∈ storyParts f g C s p) (n : Nat) : gen f g P n ≠ [] := by
  obtain ⟨l, hl, hr, rfl⟩ := mem_storyParts.1 hP
  intro h
  have h1 : ∀ m, gen f g (cls (grp (gensL f g C s p)) (gensL f g C s p) l 0) (n + m) = [] := fun m => by rw [gen_add, h, gen_nil]
  have hle : n ≤ n * p := Nat.le_mul_of_pos_right n (by omega)
  have h2 := h1 (n * p - n)
  rw [show n + (n * p - n) = n * p by omega, part_gen hC hp hb, Nat.mul_mod_left] at h2
  have h3 := List.map_eq_nil_iff.1 h2
  have hc : (gen f g C (s + 0))[l]? = some ((gen f g C s)[l]) := by rw [Nat.add_zero]; exact List.getElem?_eq_getElem hl
  have : (gen f g C s)[l] ∈ cls (grp (gensL f g C s p)) (gensL f g C s p) l 0 := mem_cls.2 ⟨l, cell0.2 ⟨Nat.zero_le _, hc⟩, by rw [show startOf (gensL f g C s p) 0 = 0 from rfl, Nat.zero_add]; exact hr⟩
  rw [h3] at this
  simp at this
theorem part_asc {f g : Nat → Bool} {C : List Cel} {s p : Nat} (hC : Asc C) {P : List Cel} (hP : P ∈ storyParts f g C s p) : Asc P := by
  obtain ⟨l, hl, hr, rfl⟩ := mem_storyParts.1 hP
  exact cls_asc (by rw [gensL_getD (Nat.zero_le _)]; exact gen_asc hC _)
theorem sub_len {A B : List Cel} (hA : Asc A) (h : ∀ c, c ∈ A → c ∈ B) : A.length ≤ B.length := nodup_le A B (asc_nodup hA) h
theorem part_sub {f g : Nat → Bool} {C : List Cel} {s p : Nat} {d1 d2 : Int} (hC : Asc C) (hp : 1 ≤ p) (hb : gen f g C (s + p) = (gen f g C s).map (sh d1 d2)) {P : List Cel} (hP : P ∈ storyParts f g C s p) (n : Nat) (c : Cel) (h : c ∈ gen f g P n) : c ∈ gen f g C (s + n) := (parts_union hC hp hb n c).2 ⟨P, hP, h⟩
/-- A pattern moved is one that comes back. -/
theorem way_of (A : List Cel) (a b : Int) : wayB A (A.map (sh a b)) = true := by
  cases A with
  | nil => exact way_nil.1
  | cons c r =>
    have hc := cornP_sh a b c r
    unfold wayB
    refine decide_eq_true ?_
    unfold wayD
    rw [hc]
    simp only
    rw [show (cornP (c :: r)).1 + a - (cornP (c :: r)).1 = a by omega, show (cornP (c :: r)).2 + b - (cornP (c :: r)).2 = b by omega]
theorem courseF_found {f g : Nat → Bool} {C : List Cel} : ∀ (k t0 t : Nat), t0 ≤ t → t < t0 + k → cameB f g C t ≠ none → (∀ r, r ≤ t → (gen f g C r).length ≤ 100) → ∃ x, courseF f g C k t0 = .inr x
  | 0, t0, t, h0, h1, _, _ => by omega
  | k + 1, t0, t, h0, h1, hc, hl => by
    rw [courseF, if_neg (by have := hl t0 h0; omega)]
    cases hcc : cameB f g C t0 with
    | some s0 => exact ⟨_, rfl⟩
    | none =>
      have : t0 ≠ t := by rintro rfl; exact hc hcc
      exact courseF_found k (t0 + 1) t (by omega) (by omega) hc hl
theorem came_of {f g : Nat → Bool} {C : List Cel} {t s : Nat} (hs : s < t) (hw : wayB (gen f g C s) (gen f g C t) = true) : cameB f g C t ≠ none := fun h => by
  have := cameB_no h hs
  rw [hw] at this; cases this
/-- A part comes back. -/
theorem part_course {f g : Nat → Bool} {C : List Cel} {s p : Nat} {d1 d2 : Int} (hC : Asc C) (hp : 1 ≤ p) (hp2 : p ≤ 200) (hb : gen f g C (s + p) = (gen f g C s).map (sh d1 d2)) (hl : ∀ n, (gen f g C n).length ≤ 100) {P : List Cel} (hP : P ∈ storyParts f g C s p) : ∃ t s', course f g P = .inr (t, s') := by
  have hA := part_asc hC hP
  have hlen : ∀ n, (gen f g P n).length ≤ 100 := fun n => Nat.le_trans (sub_len (gen_asc hA n) (part_sub hC hp hb hP n)) (hl _)
  have hw : wayB (gen f g P 0) (gen f g P p) = true := by
    obtain ⟨l, _, _, rfl⟩ := mem_storyParts.1 hP
    have R := gensL_ring hC hp hb
    have h1 := cls_back R l
    rw [gensL_len, Nat.add_sub_cancel] at h1
    rw [cls_gen R l p (by rw [gensL_len]; omega), h1]
    exact way_of _ _ _
  obtain ⟨⟨t, s'⟩, h⟩ := courseF_found 201 0 p (Nat.zero_le _) (by omega) (came_of (by omega) hw) (fun r _ => hlen r)
  exact ⟨t, s', h⟩

end Go.Proofs.YtiohpcnnpmnjhaaGreatDoor
