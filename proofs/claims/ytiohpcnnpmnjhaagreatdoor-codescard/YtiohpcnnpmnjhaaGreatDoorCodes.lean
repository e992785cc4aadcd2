import Derived.Test.YtiohpcnnpmnjhaaGreatDoorCodeFace
import Derived.Test.YtiohpcnnpmnjhaaGreatDoorRefCode
import Derived.Test.YtiohpcnnpmnjhaaGreatDoorRefOrb
namespace Go.Proofs.YtiohpcnnpmnjhaaGreatDoor
open Go.RowKit Go.Shelf
set_option linter.unusedVariables false

set_option maxRecDepth 100000 in
set_option maxHeartbeats 800000 in
theorem codes_bad (rule text : ByteArray) (k i : Int) (w : World) (hk : k ≠ 0)
    (hP : Calls Tryz.prog 33 #[.string rule, .string text] w fun e w' => e = .returned (.tuple #[.string ⟨#[]⟩, .int .i64 k, .int .i64 i]) ∧ Below w.heap.size w w')
    (hR : ∀ w, Calls Tryz.prog 27 #[.string rule, .string text] w fun e w' => (∃ a n c, e = .returned (.tuple #[.slice a n c, .agg #[.int .i64 0, .int .i64 0, .int .i64 0, .int .i64 0], .int .i64 k, .int .i64 i])) ∧ Below w.heap.size w w') :
    Calls Tryz.prog 9 #[.string rule, .string text] w fun e w' => e = .returned (.bool true) ∧ Below w.heap.size w w' := by
  have hk0 : (k == 0) = false := by simpa using hk
  have hk1 : (k != 0) = true := by simp [hk]
  have hk2 : ¬ k = 0 := hk
  go_enter Tryz.func9, Tryz.ntmps9
  go_wp2_with (first
    | (go_at_call 33; refine hP.mono ?_; rintro e w1 ⟨rfl, b1⟩; clear hP)
    | (go_at_call 27; refine (hR _).mono ?_; rintro e w2 ⟨⟨a, n, c, rfl⟩, b2⟩)
    | (go_at_call 14; refine (num_any k _).mono ?_; rintro e w3 ⟨rfl, rfl⟩))
  go_ret
  exact ⟨rfl, (b1.trans (b2.mono b1.size)).alloc (Nat.le_trans b1.size b2.size) _⟩

set_option maxRecDepth 100000 in
set_option maxHeartbeats 1600000 in
theorem codes_good (rule text T : ByteArray) (f g : Nat → Bool) (C : List Cel) (s p : Nat) (d1 d2 : Int) (w : World) (hp : 1 ≤ p) (hsp : s + p ≤ 200) (hcod : ∀ i, i ≤ s + p → Codable (gen f g C i)) (hTT : codeT f g C s p = T)
    (hP : Calls Tryz.prog 33 #[.string rule, .string text] w fun e w' => e = .returned (.tuple #[.string T, .int .i64 0, .int .i64 0]) ∧ Below w.heap.size w w')
    (hR : ∀ w, Calls Tryz.prog 27 #[.string rule, .string text] w fun e w' => (∃ va vs, e = .returned (.tuple #[va, .agg #[.int .i64 (s : Int), .int .i64 (p : Int), .int .i64 d1, .int .i64 d2], .int .i64 0, .int .i64 0]) ∧ w'.ownsRow 0 25 1 va (s + p + 1) vs ∧ vs.length = s + p + 1 ∧ ∀ (j : Nat) v, vs[j]? = some v → RowOwn w' v (gen f g C j)) ∧ Below w.heap.size w w') :
    Calls Tryz.prog 9 #[.string rule, .string text] w fun e w' => e = .returned (.bool true) ∧ Below w.heap.size w w' := by
  have HC : Hid (∀ (gb cg : Nat) (vs : List Value) (w : World), vs.length = s + p + 1 → gb < w.heap.size → (∀ (i : Nat) v, vs[i]? = some v → w.cell? ⟨gb, i, none⟩ = some v) → (∀ (i : Nat) v, vs[i]? = some v → RowOwn w v (gen f g C i)) → Calls Tryz.prog 34 #[.slice (some ⟨gb, 0, none⟩) (s + p + 1) cg, .agg #[.int .i64 (s : Int), .int .i64 (p : Int), .int .i64 d1, .int .i64 d2]] w fun e w' => e = .returned (.string T) ∧ Below w.heap.size w w') := fun gb cg vs w a b c d => by
    have := refCode_any f g C s p d1 d2 gb cg vs w hp hsp a b c d hcod
    rw [hTT] at this
    exact this
  clear hTT hcod
  go_enter Tryz.func9, Tryz.ntmps9
  go_wp2_with (first
    | (go_at_call 33; refine hP.mono ?_; rintro e w1 ⟨rfl, b1⟩; clear hP)
    | (go_at_call 27; refine (hR _).mono ?_; rintro e w2 ⟨⟨va, vs, rfl, ov, hvl, hall⟩, b2⟩
       obtain ⟨gb, cg, hva, hgb, hget⟩ := all_get ov (by omega)
       subst hva
       have c2 : Below w2.heap.size w2 (w2.alloc (.cells #[.int .i64 (s : Int), .int .i64 (p : Int), .int .i64 d1, .int .i64 d2] 54)) := (Below.refl _ _).alloc (Nat.le_refl _) _
       have hcode := HC.out gb cg vs (w2.alloc (.cells #[.int .i64 (s : Int), .int .i64 (p : Int), .int .i64 d1, .int .i64 d2] 54)) hvl (by simp; omega) (fun i v hv => (World.cell?_of_block (c2.block _ hgb)).trans (hget i v hv)) (fun i v hv => rowOwn_on (hall i v hv) c2))
    | (go_at_call 14; refine (num_any 0 _).mono ?_; rintro e w3 ⟨rfl, rfl⟩)
    | (go_at_call 34; refine hcode.mono ?_; rintro e w4 ⟨rfl, b4⟩))
  go_ret
  have b3 := (b1.trans (b2.mono b1.size)).trans (c2.mono (Nat.le_trans b1.size b2.size))
  exact ⟨rfl, b3.trans (b4.mono b3.size)⟩

/-- The law Codes. -/
theorem codes_walk (rule text : ByteArray) (h1 : rule.size ≤ maxLen) (h2 : text.size ≤ maxLen) (w : World) (ht : Tab w.heap.size w) (hT : TurnTab w) :
    Calls Tryz.prog 9 #[.string rule, .string text] w fun e w' => e = .returned (.bool true) ∧ Below w.heap.size w w' := by
  have hP := code_any rule text w h1 h2 ht hT
  have hRo := fun w => refOrbit_any rule text w h1 h2
  have hG := fun w => given_any rule text w h1 h2
  have bad : ∀ (k i : Int), k ≠ 0 → codeA rule text = (⟨#[]⟩, k, i) → orbitA rule text = ((0, 0, 0, 0), k, i) → Calls Tryz.prog 9 #[.string rule, .string text] w fun e w' => e = .returned (.bool true) ∧ Below w.heap.size w w' := fun k i hk hc ho => by
    rw [hc] at hP
    refine codes_bad rule text k i w hk hP fun w => ?_
    have := hRo w
    rw [ho] at this
    exact this
  cases hr : ruleR rule with
  | inl x =>
    obtain ⟨k, i⟩ := x
    exact bad k i (by have := ruleR_bad hr; simpa using this) (by unfold codeA; rw [hr]) (by unfold orbitA; rw [hr])
  | inr x =>
    obtain ⟨f, g⟩ := x
    cases hp : patR text with
    | inl x =>
      obtain ⟨k, i⟩ := x
      exact bad k i (by have := patR_bad hp; simpa using this) (by unfold codeA; rw [hr]; simp only [hp]) (by unfold orbitA; rw [hr]; simp only [hp])
    | inr C =>
      cases hco : course f g C with
      | inl k => exact bad k 0 (courseF_ne 201 0 hco) (by unfold codeA; rw [hr]; simp only [hp, hco]) (by unfold orbitA; rw [hr]; simp only [hp, hco])
      | inr x =>
        obtain ⟨t, s⟩ := x
        obtain ⟨X, Y, hf, hbx⟩ := patR_tight hp
        obtain ⟨ht2, hcm⟩ := courseF_s 201 0 hco
        have hst := cameB_lt hcm
        have hA : codeA rule text = (codeT f g C s (t - s), 0, 0) := by unfold codeA; rw [hr]; simp only [hp, hco]
        rw [hA] at hP
        have hR := fun w => refOrbit_rows rule text w f g C X Y t s hf hco fun w => (hG w).mono fun e w' h => by
          unfold GivenOut at h; rw [hr] at h; simp only [hp] at h; obtain ⟨hb, v, he, own⟩ := h; exact ⟨v, he, hb, own⟩
        unfold RefOrbRows at hR
        simp only [cycC] at hR
        obtain ⟨p, rfl⟩ : ∃ p, t = s + p := ⟨t - s, by omega⟩
        rw [show s + p - s = p by omega] at hP
        simp only [show ((s + p : Nat) : Int) - (s : Int) = (p : Int) by omega] at hR
        exact codes_good rule text _ f g C s p _ _ w (by omega) (by omega) (fun i hi => gen_codable hf hbx hco (by omega)) rfl hP hR

end Go.Proofs.YtiohpcnnpmnjhaaGreatDoor
