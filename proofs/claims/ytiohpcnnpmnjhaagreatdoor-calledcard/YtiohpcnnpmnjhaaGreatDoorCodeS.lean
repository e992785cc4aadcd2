import Derived.Test.YtiohpcnnpmnjhaaGreatDoorCodM
import Derived.Test.YtiohpcnnpmnjhaaGreatDoorOnwM
namespace Go.Proofs.YtiohpcnnpmnjhaaGreatDoor
set_option linter.unusedVariables false

theorem less_irr : ∀ x : List UInt8, Op.bytesLess x x = false
  | [] => rfl
  | a :: x => by rw [Op.bytesLess, less_irr x]; simp
theorem less_tri : ∀ x y : List UInt8, Op.bytesLess x y = false → Op.bytesLess y x = false → x = y
  | [], [], _, _ => rfl
  | [], b :: y, h, _ => by simp [Op.bytesLess] at h
  | a :: x, [], _, h => by simp [Op.bytesLess] at h
  | a :: x, b :: y, h, k => by
    rw [Op.bytesLess, Bool.or_eq_false_iff] at h k
    have h1 := of_decide_eq_false h.1
    have k1 := of_decide_eq_false k.1
    have e : a = b := by
      have h1' : ¬ a.toNat < b.toNat := h1
      have k1' : ¬ b.toNat < a.toNat := k1
      exact UInt8.toNat_inj.1 (by omega)
    subst e
    simp only [beq_self_eq_true, Bool.true_and] at h k
    rw [less_tri x y h.2 k.2]
theorem less_trans : ∀ x y z : List UInt8, Op.bytesLess x y = true → Op.bytesLess y z = true → Op.bytesLess x z = true
  | _, _, [], _, h => by simp [Op.bytesLess] at h
  | _, [], c :: z, h, _ => by simp [Op.bytesLess] at h
  | [], b :: y, c :: z, _, _ => rfl
  | a :: x, b :: y, c :: z, h, k => by
    rw [Op.bytesLess, Bool.or_eq_true, Bool.and_eq_true] at h k ⊢
    simp only [decide_eq_true_eq, beq_iff_eq] at h k ⊢
    rcases h with h | ⟨rfl, h⟩
    · rcases k with k | ⟨rfl, k⟩
      · exact .inl (UInt8.lt_trans h k)
      · exact .inl h
    · rcases k with k | ⟨rfl, k⟩
      · exact .inl k
      · exact .inr ⟨rfl, less_trans x y z h k⟩
/-- Is the text below the other one? -/
def lessT (x y : ByteArray) : Bool := Op.bytesLess x.toList y.toList
theorem lessT_tri {x y : ByteArray} (h : lessT x y = false) (k : lessT y x = false) : x = y := by
  have := less_tri _ _ h k
  rw [Lib.toList_data, Lib.toList_data] at this
  obtain ⟨⟨x⟩⟩ := x
  obtain ⟨⟨y⟩⟩ := y
  simp only at this
  rw [this]
theorem minT_def (b x : ByteArray) : minT b x = if b.toList = [] ∨ lessT x b = true then x else b := by
  unfold minT lessT
  simp only [Bool.or_eq_true, List.isEmpty_iff]
/-- The least of texts. -/
theorem fold_min : ∀ (L : List ByteArray) (b : ByteArray), (∀ x ∈ L, x.toList ≠ []) → (b.toList ≠ [] ∨ L ≠ []) → (L.foldl minT b ∈ L ∨ (L.foldl minT b = b ∧ b.toList ≠ [])) ∧ (∀ x ∈ L, lessT x (L.foldl minT b) = false) ∧ (b.toList ≠ [] → lessT b (L.foldl minT b) = false)
  | [], b, _, h => by
    have hb : b.toList ≠ [] := h.resolve_right (fun k => k rfl)
    exact ⟨.inr ⟨rfl, hb⟩, fun x hx => by simp at hx, fun _ => less_irr _⟩
  | x :: L, b, hL, h => by
    have hx := hL x (by simp)
    have hm : (minT b x).toList ≠ [] := by
      rw [minT_def]
      split
      · exact hx
      · rename_i hn
        exact fun e => hn (.inl e)
    obtain ⟨h1, h2, h3⟩ := fold_min L (minT b x) (fun y hy => hL y (by simp [hy])) (.inl hm)
    have h3 := h3 hm
    rw [List.foldl_cons]
    have hbx : lessT x (minT b x) = false ∧ (b.toList ≠ [] → lessT b (minT b x) = false) := by
      rw [minT_def]
      split
      · rename_i hc
        refine ⟨less_irr _, fun hb => ?_⟩
        rcases hc with hc | hc
        · exact absurd hc hb
        · cases hbx : lessT b x with
          | false => rfl
          | true =>
            have := less_trans _ _ _ hc hbx
            rw [less_irr] at this; cases this
      · rename_i hc
        refine ⟨?_, fun _ => less_irr _⟩
        cases hbx : lessT x b with
        | false => rfl
        | true => exact absurd (.inr hbx) hc
    have low : ∀ y, lessT y (minT b x) = false → lessT y (L.foldl minT (minT b x)) = false := fun y hy => by
      cases hh : lessT y (L.foldl minT (minT b x)) with
      | false => rfl
      | true =>
        -- the least is not above
        cases h5 : lessT (L.foldl minT (minT b x)) (minT b x) with
        | true =>
          have h6 : lessT y (minT b x) = true := less_trans _ _ _ hh h5
          rw [h6] at hy; cases hy
        | false =>
          have := lessT_tri h5 h3
          rw [this] at hh
          rw [hh] at hy; cases hy
    refine ⟨?_, fun y hy => ?_, fun hb => low b (hbx.2 hb)⟩
    · rcases h1 with h1 | ⟨h1, _⟩
      · exact .inl (by simp [h1])
      · rw [h1, minT_def]
        split
        · exact .inl (by simp)
        · rename_i hc
          exact .inr ⟨rfl, fun e => hc (.inl e)⟩
    · rcases List.mem_cons.1 hy with rfl | hy
      · exact low _ hbx.1
      · exact h2 y hy
theorem empty_list : (⟨#[]⟩ : ByteArray).toList = [] := by rw [Lib.toList_data]
theorem least_mem {L : List ByteArray} (hL : ∀ x ∈ L, x.toList ≠ []) (hne : L ≠ []) : L.foldl minT ⟨#[]⟩ ∈ L := by
  rcases (fold_min L ⟨#[]⟩ hL (.inr hne)).1 with h | ⟨_, h⟩
  · exact h
  · exact absurd empty_list h
theorem least_same {L M : List ByteArray} (hL : ∀ x ∈ L, x.toList ≠ []) (hne : L ≠ []) (h : ∀ x, x ∈ L ↔ x ∈ M) : L.foldl minT ⟨#[]⟩ = M.foldl minT ⟨#[]⟩ := by
  have hM : ∀ x ∈ M, x.toList ≠ [] := fun x hx => hL x ((h x).2 hx)
  have hMn : M ≠ [] := fun e => by
    cases L with
    | nil => exact hne rfl
    | cons a L => have := (h a).1 (by simp); rw [e] at this; simp at this
  have l1 := least_mem hL hne
  have m1 := least_mem hM hMn
  exact lessT_tri ((fold_min M ⟨#[]⟩ hM (.inr hMn)).2.1 _ ((h _).1 l1)) ((fold_min L ⟨#[]⟩ hL (.inr hne)).2.1 _ ((h _).2 m1))

/-- All texts of which the code is the least. -/
def textsL (f g : Nat → Bool) (C : List Cel) (s m : Nat) : List ByteArray := (List.range m).flatMap fun k => (List.range 8).map fun w => turnT w (gen f g C (s + k))
theorem codeT_fold (f g : Nat → Bool) (C : List Cel) (s : Nat) : ∀ m, codeT f g C s m = (textsL f g C s m).foldl minT ⟨#[]⟩
  | 0 => rfl
  | m + 1 => by
    rw [codeT_succ, codeT_fold f g C s m]
    unfold textsL
    rw [List.range_succ (n := m), List.flatMap_append, List.foldl_append]
    simp only [codeWays, List.foldl_map, List.flatMap_cons, List.flatMap_nil, List.append_nil]
theorem mem_textsL {f g : Nat → Bool} {C : List Cel} {s m : Nat} {x : ByteArray} : x ∈ textsL f g C s m ↔ ∃ k w, k < m ∧ w < 8 ∧ x = turnT w (gen f g C (s + k)) := by
  unfold textsL
  simp only [List.mem_flatMap, List.mem_map, List.mem_range]
  constructor
  · rintro ⟨k, hk, w, hw, rfl⟩; exact ⟨k, w, hk, hw, rfl⟩
  · rintro ⟨k, w, hk, hw, rfl⟩; exact ⟨k, hk, w, hw, rfl⟩
theorem turnT_ne (w : Nat) (C : List Cel) : (turnT w C).toList ≠ [] := by
  rw [Lib.toList_data]
  unfold turnT plainB
  simp
/-- At the origin all that is moved is the same. -/
theorem homeL_sh (a b : Int) (A : List Cel) : homeL (A.map (sh a b)) = homeL A := by
  cases A with
  | nil => rfl
  | cons c r =>
    unfold homeL
    rw [cornP_sh, map_sh_sh]
    congr 2 <;> simp only <;> omega
theorem turnT_sh (w : Nat) (a b : Int) {A : List Cel} (hA : Asc A) : turnT w (A.map (sh a b)) = turnT w A := by
  obtain ⟨a', b', e⟩ := img_moved (lin_turn w) hA a b
  unfold turnT
  rw [e, homeL_sh]
/-- Two ways, one behind the other. -/
def mulW (w k : Nat) : Nat := if k / 4 = 0 then (w % 2 + (if 4 ≤ w then k / 2 % 2 else k % 2)) % 2 + 2 * ((w / 2 % 2 + (if 4 ≤ w then k % 2 else k / 2 % 2)) % 2) + 4 * (w / 4)
  else (w % 2 + (if 4 ≤ w then k / 2 % 2 else k % 2)) % 2 + 2 * ((w / 2 % 2 + (if 4 ≤ w then k % 2 else k / 2 % 2)) % 2) + 4 * (1 - w / 4)
theorem eightW {k : Nat} (hk : k < 8) : k = 0 ∨ k = 1 ∨ k = 2 ∨ k = 3 ∨ k = 4 ∨ k = 5 ∨ k = 6 ∨ k = 7 := by omega
theorem mulW_ok {w k : Nat} (hw : w < 8) (hk : k < 8) : mulW w k < 8 ∧ ∀ c : Cel, turnC w (turnC k c) = turnC (mulW w k) c := by
  rcases eightW hw with rfl | rfl | rfl | rfl | rfl | rfl | rfl | rfl <;> rcases eightW hk with rfl | rfl | rfl | rfl | rfl | rfl | rfl | rfl <;> exact ⟨by decide, fun c => by simp [turnC, mulW, swapC, negX, negY]⟩
theorem mulW_onto {w k : Nat} (hw : w < 8) (hk : k < 8) : ∃ v, v < 8 ∧ mulW v k = w := by
  have : ∀ k : Fin 8, ∀ w : Fin 8, ∃ v : Fin 8, mulW v.1 k.1 = w.1 := by decide
  obtain ⟨v, hv⟩ := this ⟨k, hk⟩ ⟨w, hw⟩
  exact ⟨v.1, v.2, hv⟩
theorem turnT_tm {w k : Nat} (hw : w < 8) (hk : k < 8) (a b : Int) (A : List Cel) : turnT w (imgL (tmC k a b) A) = turnT (mulW w k) A := by
  obtain ⟨_, hm⟩ := mulW_ok hw hk
  obtain ⟨a', b', e⟩ := lin_turn w a b
  have : imgL (turnC w) (imgL (tmC k a b) A) = (imgL (turnC (mulW w k)) A).map (sh a' b') := by
    rw [imgL_imgL, ← imgL_sh a' b' (asc_imgL _ _), imgL_imgL]
    congr 1
    funext c
    show turnC w (sh a b (turnC k c)) = sh a' b' (turnC (mulW w k) c)
    rw [e, hm]
  unfold turnT
  rw [this, homeL_sh]

theorem way_symm {A B : List Cel} (h : wayB A B = true) : wayB B A = true := by
  obtain ⟨a, b, rfl⟩ := wayB_iff.1 h
  exact wayB_iff.2 ⟨-a, -b, by rw [map_sh_sh, show a + -a = 0 by omega, show b + -b = 0 by omega, map_sh_zero]⟩
theorem way_trans {A B D : List Cel} (h : wayB A B = true) (k : wayB B D = true) : wayB A D = true := by
  obtain ⟨a, b, rfl⟩ := wayB_iff.1 h
  obtain ⟨a', b', rfl⟩ := wayB_iff.1 k
  exact wayB_iff.2 ⟨_, _, map_sh_sh _ _ _ _ _⟩
theorem courseF_exact {f g : Nat → Bool} {C : List Cel} : ∀ (k t0 t s : Nat), t0 ≤ t → t < t0 + k → (∀ r, t0 ≤ r → r < t → cameB f g C r = none) → cameB f g C t = some s → (∀ r, t0 ≤ r → r ≤ t → (gen f g C r).length ≤ 100) → courseF f g C k t0 = .inr (t, s)
  | 0, t0, t, s, h0, h1, _, _, _ => by omega
  | k + 1, t0, t, s, h0, h1, hn, hc, hl => by
    rw [courseF, if_neg (by have := hl t0 (Nat.le_refl _) h0; omega)]
    by_cases e : t0 = t
    · subst e; rw [hc]; rfl
    · rw [hn t0 (Nat.le_refl _) (by omega)]
      exact courseF_exact k (t0 + 1) t s (by omega) (by omega) (fun r h => hn r (by omega)) hc (fun r h => hl r (by omega))
/-- The course of a later generation. -/
theorem course_tail {f g : Nat → Bool} {C : List Cel} {t s : Nat} (hc : course f g C = .inr (t, s)) (n : Nat) : s < t ∧ t ≤ 200 ∧ course f g (gen f g C n) = .inr (s - n + (t - s), s - n) := by
  obtain ⟨h1, h2⟩ := courseF_s 201 0 hc
  have hst := cameB_lt h2
  have hw := came_way h2
  obtain ⟨p, rfl⟩ : ∃ p, t = s + p := ⟨t - s, by omega⟩
  have hp : 1 ≤ p := by omega
  have hcy := way_eq hw
  have A : ∀ i j, i < j → j < s + p → wayB (gen f g C i) (gen f g C j) = false := fun i j hij hj => cameB_no (courseF_none 201 0 hc j (Nat.zero_le _) hj) hij
  have B : ∀ r, r < s → wayB (gen f g C r) (gen f g C (s + p)) = false := fun r hr => by
    unfold cameB at h2
    have := (List.find?_range_eq_some.1 h2).2.2 r hr
    simpa using this
  have N : ∀ m, s ≤ m → wayB (gen f g C (s + (m - s) % p)) (gen f g C m) = true := fun m hm => by
    have h := gen_cycle hcy ((m - s) % p) ((m - s) / p)
    have e : s + (m - s) % p + (m - s) / p * p = m := by have := Nat.mod_add_div (m - s) p; rw [Nat.mul_comm] at this; omega
    rw [e] at h
    exact wayB_iff.2 ⟨_, _, h⟩
  refine ⟨hst, by omega, ?_⟩
  rw [show s + p - s = p by omega]
  have G : ∀ i, gen f g (gen f g C n) i = gen f g C (n + i) := fun i => (gen_add f g C n i).symm
  have no : ∀ i j, i < j → j < s - n + p → wayB (gen f g C (n + i)) (gen f g C (n + j)) = false := fun i j hij hj => by
    by_cases hn : n ≤ s
    · exact A _ _ (by omega) (by omega)
    · cases hh : wayB (gen f g C (n + i)) (gen f g C (n + j)) with
      | false => rfl
      | true =>
        have hi := N (n + i) (by omega); have hj' := N (n + j) (by omega)
        have hab := way_trans (way_trans hi hh) (way_symm hj')
        have ma := Nat.mod_lt (n + i - s) (show 0 < p by omega)
        have mb := Nat.mod_lt (n + j - s) (show 0 < p by omega)
        rcases Nat.lt_trichotomy ((n + i - s) % p) ((n + j - s) % p) with k | k | k
        · rw [A _ _ (by omega) (by omega)] at hab; cases hab
        · exfalso
          have e : (n + j - s) = (n + i - s) + (j - i) := by omega
          rw [e] at k
          have h3 := Nat.sub_mod_eq_zero_of_mod_eq k.symm
          rw [Nat.add_sub_cancel_left, Nat.mod_eq_of_lt (by omega)] at h3
          omega
        · have := way_symm hab
          rw [A _ _ (by omega) (by omega)] at this; cases this
  refine courseF_exact 201 0 _ _ (Nat.zero_le _) (by omega) (fun r _ hr => cameB_none fun i hi => ?_) (cameB_go (by omega) (fun r hr => ?_) ?_) (fun r _ _ => ?_)
  · rw [G, G]; exact no i r hi hr
  · rw [G, G, show n + (s - n + p) = s + p by omega]; exact B _ (by omega)
  · rw [G, G]
    have hx := gen_cycle hcy (n + (s - n) - s) 1
    rw [show s + (n + (s - n) - s) + 1 * p = n + (s - n + p) by omega, show s + (n + (s - n) - s) = n + (s - n) by omega] at hx
    exact wayB_iff.2 ⟨_, _, hx⟩
  · rw [G]; exact gen_len hc _
/-- A pattern's code is that of each of its generations, moved and turned. -/
theorem codeT_same {f g : Nat → Bool} {C : List Cel} (hC : Asc C) {t s : Nat} (hc : course f g C = .inr (t, s)) (n : Nat) {k : Nat} (hk : k < 8) (a b : Int) : ∃ s', course f g (imgL (tmC k a b) (gen f g C n)) = .inr (s' + (t - s), s') ∧ codeT f g (imgL (tmC k a b) (gen f g C n)) s' (t - s) = codeT f g C s (t - s) := by
  obtain ⟨hst, ht, hct⟩ := course_tail hc n
  obtain ⟨ψ, hm, hl, hl'⟩ := tm_back k a b
  refine ⟨s - n, ?_, ?_⟩
  · rw [← hct]
    exact courseF_img hm hl hl' f g (gen_asc hC n) 201 0
  have hcy := way_eq (came_way (courseF_s 201 0 hc).2)
  obtain ⟨p, rfl⟩ : ∃ p, t = s + p := ⟨t - s, by omega⟩
  rw [show s + p - s = p by omega, codeT_fold, codeT_fold]
  have N : ∀ m, s ≤ m → ∃ x y, gen f g C m = (gen f g C (s + (m - s) % p)).map (sh x y) := fun m hm => by
    have h := gen_cycle hcy ((m - s) % p) ((m - s) / p)
    have e : s + (m - s) % p + (m - s) / p * p = m := by have := Nat.mod_add_div (m - s) p; rw [Nat.mul_comm] at this; omega
    rw [e] at h
    exact ⟨_, _, h⟩
  have hG : ∀ w j, w < 8 → turnT w (gen f g (imgL (tmC k a b) (gen f g C n)) (s - n + j)) = turnT (mulW w k) (gen f g C (s + (n + (s - n) + j - s) % p)) := fun w j hw => by
    rw [hm.gen f g (gen_asc hC n), ← gen_add, turnT_tm hw hk]
    obtain ⟨x, y, e⟩ := N (n + (s - n + j)) (by omega)
    rw [e, turnT_sh _ _ _ (gen_asc hC _), Nat.add_assoc]
  refine (least_same (fun x hx => ?_) (fun e => ?_) fun x => ?_)
  · obtain ⟨j, w, _, _, rfl⟩ := mem_textsL.1 hx
    exact turnT_ne _ _
  · have : turnT 0 (gen f g (imgL (tmC k a b) (gen f g C n)) (s - n + 0)) ∈ textsL f g (imgL (tmC k a b) (gen f g C n)) (s - n) p := mem_textsL.2 ⟨0, 0, by omega, by omega, rfl⟩
    rw [e] at this; simp at this
  · rw [mem_textsL, mem_textsL]
    constructor
    · rintro ⟨j, w, hj, hw, rfl⟩
      exact ⟨(n + (s - n) + j - s) % p, mulW w k, Nat.mod_lt _ (by omega), (mulW_ok hw hk).1, hG w j hw⟩
    · rintro ⟨j, w, hj, hw, rfl⟩
      obtain ⟨v, hv, rfl⟩ := mulW_onto hw hk
      -- the generation of the tail with the same place in the cycle
      refine ⟨(j + (p - (n + (s - n) - s) % p)) % p, v, Nat.mod_lt _ (by omega), hv, ?_⟩
      rw [hG v _ hv]
      congr 3
      have h1 := Nat.mod_lt (n + (s - n) - s) (show 0 < p by omega)
      rw [show n + (s - n) + (j + (p - (n + (s - n) - s) % p)) % p - s = (n + (s - n) - s) + (j + (p - (n + (s - n) - s) % p)) % p by omega]
      obtain ⟨q, hq⟩ : ∃ q, n + (s - n) - s = q := ⟨_, rfl⟩
      rw [hq] at h1 ⊢
      have h2 := Nat.mod_add_div q p
      rw [Nat.add_mod_mod, show q + (j + (p - q % p)) = j + p * (q / p + 1) by rw [Nat.mul_add, Nat.mul_one]; omega, Nat.add_mul_mod_self_left, Nat.mod_eq_of_lt hj]

end Go.Proofs.YtiohpcnnpmnjhaaGreatDoor
