import Derived.Test.YtiohpcnnpmnjhaaGreatDoorBesideW
namespace Go.Proofs.YtiohpcnnpmnjhaaGreatDoor
open Go.RowKit Go.Shelf
set_option linter.unusedVariables false

theorem farL_sub {A B : List Cel} (h : ∀ c, c ∈ A → c ∈ B) (hB : farL B = false) : farL A = false := by
  unfold farL at hB ⊢
  rw [List.any_eq_false] at hB ⊢
  exact fun c hc => hB c (h c hc)
theorem fine_bd {D : List Cel} (h : farL D = false) : ∀ c ∈ D, (-3000000000000000000 ≤ c.1 ∧ c.1 ≤ 3000000000000000000) ∧ (-3000000000000000000 ≤ c.2 ∧ c.2 ≤ 3000000000000000000) := fun c hc => by
  have := farL_near h c hc
  omega
theorem plain_empty {D : List Cel} {X Y : Int} (hf : Fine D X Y) (hfar : farL D = false) : D = [] ↔ (⟨(plainB D).toArray⟩ : ByteArray).toList = [48, 32, 48, 32, 33] := by
  constructor
  · rintro rfl; decide +kernel
  · intro h
    have h1 : (⟨(plainB D).toArray⟩ : ByteArray) = ⟨#[48, 32, 48, 32, 33]⟩ := by
      rw [Lib.toList_data] at h
      simp only at h
      rw [show plainB D = [48, 32, 48, 32, 33] from by simpa using h]
    have h2 := patR_plain hf.asc hf.len hfar (by
      have := congrArg ByteArray.size h1
      have e : (⟨(plainB D).toArray⟩ : ByteArray).size = (plainB D).length := by show (plainB D).toArray.size = _; simp
      rw [e] at this
      rw [this]; decide)
    rw [h1, show patR ⟨#[48, 32, 48, 32, 33]⟩ = .inr [] by decide +kernel] at h2
    cases h2
    rfl

/-- The law Beside. -/
theorem beside_walk (rule text : ByteArray) (k : Int) (h1 : rule.size ≤ maxLen) (h2 : text.size ≤ maxLen) (w : World) (ht : Tab w.heap.size w) (hT : TurnTab w) :
    Calls Tryz.prog 8 #[.string rule, .string text, .int .i64 k] w fun e w' => e = .returned (.bool true) ∧ Below w.heap.size w w' := by
  have hPa := fun w ht => parts_any rule text w h1 h2 ht
  have hOr := fun w => orbit_any rule text w h1 h2
  obtain ⟨⟨⟨y1, y2, y3, y4⟩, ko, io⟩, hOA⟩ : ∃ A, orbitA rule text = A := ⟨_, rfl⟩
  simp only [hOA, cycC] at hOr
  have bad : ∀ (K I : Int), K ≠ 0 → partsA rule text = ([], K, I) → orbitA rule text = ((0, 0, 0, 0), K, I) → Calls Tryz.prog 8 #[.string rule, .string text, .int .i64 k] w fun e w' => e = .returned (.bool true) ∧ Below w.heap.size w w' := fun K I hk e1 e2 => by
    rw [hOA] at e2
    cases e2
    rw [e1] at hPa
    exact beside_bad rule text k 0 0 0 0 _ _ _ w ht hT hPa hOr hk
  cases hr : ruleR rule with
  | inl x =>
    obtain ⟨k', i⟩ := x
    have hk := ruleR_bad hr
    simp at hk
    exact bad k' i hk (by unfold partsA; rw [hr]) (by unfold orbitA; rw [hr])
  | inr x =>
    obtain ⟨f, g⟩ := x
    cases hp : patR text with
    | inl x =>
      obtain ⟨k', i⟩ := x
      have hk := patR_bad hp
      simp at hk
      exact bad k' i hk (by unfold partsA; rw [hr]; simp only [hp]) (by unfold orbitA; rw [hr]; simp only [hp])
    | inr C =>
      cases hc : course f g C with
      | inl e => exact bad e 0 (courseF_ne 201 0 hc) (by unfold partsA; rw [hr]; simp only [hp, hc]) (by unfold orbitA; rw [hr]; simp only [hp, hc])
      | inr x =>
        obtain ⟨t, s⟩ := x
        obtain ⟨X, Y, hf, hbx⟩ := patR_tight hp
        obtain ⟨ht200, hcame⟩ := courseF_s 201 0 hc
        have hst := cameB_lt hcame
        have hw := came_way hcame
        have hOA' : orbitA rule text = (cycOf f g C t, 0, 0) := by unfold orbitA; rw [hr]; simp only [hp, hc]
        rw [hOA'] at hOA
        simp only [Prod.mk.injEq] at hOA
        obtain ⟨hcy, rfl, rfl⟩ := hOA
        have hcyc : cycOf f g C t = ((s : Int), (t : Int) - (s : Int), (wayD (gen f g C s) (gen f g C t)).1, (wayD (gen f g C s) (gen f g C t)).2) := by unfold cycOf; rw [hcame]
        rw [hcyc] at hcy
        simp only [Prod.mk.injEq] at hcy
        obtain ⟨hy1, _, _, _⟩ := hcy
        obtain ⟨p, rfl⟩ : ∃ p, t = s + p := ⟨t - s, by omega⟩
        have hp1 : 1 ≤ p := by omega
        have hsmall := way_small (Nat.le_of_lt hst) hw
        have hback := way_eq hw
        obtain ⟨⟨d1, d2⟩, hd⟩ : ∃ d, wayD (gen f g C s) (gen f g C (s + p)) = d := ⟨_, rfl⟩
        rw [hd] at hsmall hback
        simp only at hsmall hback
        have hd1 : -200 ≤ d1 ∧ d1 ≤ 200 := by omega
        have hd2 : -200 ≤ d2 ∧ d2 ≤ 200 := by omega
        have hSA : ∀ n : Int, 0 ≤ n → n ≤ 1000000000000000000 → stepA rule text n = if farL (gen f g C n.toNat) = true then (⟨#[]⟩, 4, 0) else (⟨(plainB (gen f g C n.toNat)).toArray⟩, 0, 0) := fun n a b => by
          rw [stepA_of hr hp, afterR_course hc a b]
          by_cases h : farL (gen f g C n.toNat) = true
          · rw [if_pos h, if_pos h]
          · rw [if_neg h, if_neg h]
        have hPA : partsA rule text = if farL (gen f g C s) = true then ([], 4, 0) else (partsT (storyParts f g C s p), 0, 0) := by unfold partsA; rw [hr]; simp only [hp, hc]; rw [show s + p - s = p by omega]
        cases hfar : farL (gen f g C s) with
        | true =>
          rw [hfar, if_pos rfl] at hPA
          rw [hPA] at hPa
          have hSt := fun w ht => step_any rule text y1 w h1 h2 ht
          rw [hSA y1 (by omega) (by omega), show y1.toNat = s by omega, hfar, if_pos rfl] at hSt
          exact beside_far rule text _ k y1 y2 y3 y4 _ _ _ w ht hT hPa hOr hSt
        | false =>
          rw [hfar, if_neg (by decide)] at hPA
          rw [hPA] at hPa
          by_cases hin : cntB k = true ∧ k ≤ 500000000000000000
          rotate_left
          · refine beside_out rule text k y1 y2 y3 y4 0 0 _ w ht hT hPa hOr ?_
            cases hcb : cntB k with
            | false => exact .inl rfl
            | true => exact .inr ⟨rfl, by have : ¬ k ≤ 500000000000000000 := fun h => hin ⟨hcb, h⟩; omega⟩
          obtain ⟨hcb, hkl⟩ := hin
          have hk0 : 0 ≤ k := by
            unfold cntB at hcb
            simp only [Bool.and_eq_true, decide_eq_true_eq] at hcb
            exact hcb.1
          have hSt := fun w ht => step_any rule text (y1 + k) w h1 h2 ht
          obtain ⟨n, rfl⟩ : ∃ n : Nat, k = (n : Int) := ⟨k.toNat, by omega⟩
          have e0 : (y1 + (n : Int)).toNat = s + n := by omega
          rw [hSA (y1 + (n : Int)) (by omega) (by omega), e0] at hSt
          cases hfk : farL (gen f g C (s + n)) with
          | true =>
            rw [hfk, if_pos rfl] at hSt
            exact beside_let rule text _ (n : Int) y1 y2 y3 y4 _ _ _ _ w ht hT hPa hOr hSt hcb hkl (by omega) hk0
          | false =>
            rw [hfk, if_neg (by decide)] at hSt
            have hz : ∀ D : List Cel, (⟨(plainB D).toArray⟩ : ByteArray).size = (plainB D).length := fun D => by show (plainB D).toArray.size = _; simp
            have hglen := gen_len hc
            have hbackn : gen f g C (s + n + p) = (gen f g C (s + n)).map (sh d1 d2) := by
              have := gen_cycle hback n 1
              simpa using this
            have hD : afterR f g C (y1 + (n : Int)) = .inr (gen f g C (s + n)) := by
              rw [afterR_course hc (by omega) (by omega), e0, hfk]; rfl
            obtain ⟨X1, Y1, hfD⟩ := afterR_fine hf hbx hD
            have part : ∀ P ∈ storyParts f g C s p, patR ⟨(plainB P).toArray⟩ = .inr P ∧ (plainB P).length ≤ 1500 ∧ stepA rule ⟨(plainB P).toArray⟩ (n : Int) = (⟨(plainB (gen f g P n)).toArray⟩, 0, 0) ∧ patR ⟨(plainB (gen f g P n)).toArray⟩ = .inr (gen f g P n) ∧ (plainB (gen f g P n)).length ≤ 1500 := fun P hP => by
              have hA := part_asc hf.asc hP
              have hs0 : ∀ c, c ∈ P → c ∈ gen f g C s := fun c h => part_sub hf.asc hp1 hback hP 0 c h
              have hl0 : P.length ≤ 100 := Nat.le_trans (sub_len hA hs0) (hglen s)
              have ht0 := part_text hf.asc hp1 (by omega) hback hd1 hd2 (hglen s) (fine_bd hfar) hP
              have e1 := patR_plain hA hl0 (farL_sub hs0 hfar) ht0
              have hPn := part_later hf.asc hp1 hback hP n
              have hAn := gen_asc (f := f) (g := g) hA n
              have hsn : ∀ c, c ∈ gen f g P n → c ∈ gen f g C (s + n) := fun c h => part_sub hf.asc hp1 hback hP n c h
              have hln : (gen f g P n).length ≤ 100 := Nat.le_trans (sub_len hAn hsn) (hglen _)
              have htn := part_text hf.asc hp1 (by omega) hbackn hd1 hd2 (hglen _) (fine_bd hfk) hPn
              have hfn := farL_sub hsn hfk
              have e2 := patR_plain hAn hln hfn htn
              obtain ⟨t', s', hcP⟩ := part_course hf.asc hp1 (by omega) hback hglen hP
              refine ⟨e1, ht0, ?_, e2, htn⟩
              rw [stepA_of hr e1, afterR_course hcP hk0 (by omega), Int.toNat_natCast, hfn]
              rfl
            have hall := parts_all hf.asc hp1 hback n
            have hflat : ((storyParts f g C s p).map fun P => gen f g P n).flatten = allP f g (storyParts f g C s p) n := by unfold allP; rw [List.flatMap_def]
            have hPl : (storyParts f g C s p).length ≤ 100 := Nat.le_trans (partsTo_len _ _ _) (hglen s)
            have hmx : ∀ P ∈ storyParts f g C s p, (⟨(plainB P).toArray⟩ : ByteArray).size ≤ maxLen := fun P hP => by
              have := (part P hP).2.1
              rw [hz]; unfold maxLen; omega
            have hmy : ∀ P ∈ storyParts f g C s p, (⟨(plainB (gen f g P n)).toArray⟩ : ByteArray).size ≤ maxLen := fun P hP => by
              have := (part P hP).2.2.2.2
              rw [hz]; unfold maxLen; omega
            refine beside_told rule text ⟨(plainB (gen f g C (s + n))).toArray⟩ (n : Int) y1 y2 y3 y4 0 0 0 (partsT (storyParts f g C s p)) ((storyParts f g C s p).map fun P => ⟨(plainB (gen f g P n)).toArray⟩) ((storyParts f g C s p).map fun P => gen f g P n) (gen f g C (s + n)) w ht hT hPa hOr hSt hcb hkl (by omega) hk0 (by simp [partsT]) (by simp) (by simpa using hPl) ?_ ?_ ?_ ?_ (by rw [hflat]; exact hall.1) (by rw [hflat]; exact hall.2) (hglen _) ?_
            · rw [← plain_empty hfD hfk, ← parts_nil hf.asc hp1 hback n]
              unfold partsT
              simp
            · intro i T U hT0 hU w' ht'
              unfold partsT at hT0
              rw [List.getElem?_map] at hT0 hU
              obtain ⟨P, hP, rfl⟩ := Option.map_eq_some_iff.1 hT0
              rw [hP] at hU
              cases hU
              have hPm := List.mem_of_getElem? hP
              have := step_any rule ⟨(plainB P).toArray⟩ (n : Int) w' h1 (hmx P hPm) ht'
              rw [(part P hPm).2.2.1] at this
              exact this
            · intro i U E hU hE w'
              rw [List.getElem?_map] at hU hE
              obtain ⟨P, hP, rfl⟩ := Option.map_eq_some_iff.1 hU
              rw [hP] at hE
              cases hE
              have hPm := List.mem_of_getElem? hP
              refine (refRead_any _ w' (hmy P hPm)).mono fun e w'' h => ?_
              unfold RefPat at h
              rw [(part P hPm).2.2.2.1] at h
              obtain ⟨hb, v, he, own⟩ := h
              exact ⟨⟨v, he, RowAt.of_owns own⟩, hb⟩
            · intro E hE
              obtain ⟨P, hP, rfl⟩ := List.mem_map.1 hE
              exact part_ne hf.asc hp1 hback hP n
            · intro v w' own
              exact write_any X1 Y1 0 v _ w' own hfD

end Go.Proofs.YtiohpcnnpmnjhaaGreatDoor
