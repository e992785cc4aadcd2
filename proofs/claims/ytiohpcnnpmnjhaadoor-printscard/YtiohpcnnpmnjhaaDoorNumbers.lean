import Derived.Test.YtiohpcnnpmnjhaaDoorTokens
namespace Go.Proofs.YtiohpcnnpmnjhaaDoor
open Go.RowKit
set_option linter.unusedVariables false

/-- How far out a cell may live. -/
abbrev MC : Int := 2000000000000000000

/-- A number brought to the next one beyond the limit. -/
def capP (z : Int) : Int := if MC + 1 < z then MC + 1 else if z < -(MC + 1) then -(MC + 1) else z

theorem digits_t {s : ByteArray} {i : Nat} (hi : i ≤ s.size) : (s.extract i (dg s i)).size = dg s i - i ∧ (∀ k, k < (s.extract i (dg s i)).size → isDg (pk (s.extract i (dg s i)) k) = true) ∧ dv (s.extract i (dg s i)) 0 (s.extract i (dg s i)).size = dv s i (dg s i - i) := by
  have h := dg_le s i hi
  have hz : (s.extract i (dg s i)).size = dg s i - i := by rw [ByteArray.size_extract]; omega
  refine ⟨hz, fun k hk => ?_, ?_⟩
  · rw [hz] at hk
    rw [pk_extract (by omega) h.2]
    exact skip_all hi (by omega) (by show i + k < dg s i; omega)
  · rw [hz, dv_extract h.2 _ (by omega)]

set_option maxHeartbeats 800000 in
theorem readNumber_pos (b : Nat) (s : ByteArray) (k : Int) (i : Nat) (w : World) (h : At w b s k i) (hi : i ≤ s.size) (hs : s.size ≤ 1500) (hn : (pk s i == 45) = false) (h1 : 0 < dg s i - i) (h2 : dg s i - i ≤ 19) :
    Calls Tryd.prog 37 #[.pointer (some ⟨b, 0, none⟩)] w fun e w' => e = .returned (.int .i64 (capP ((dv s i (dg s i - i) : Nat) : Int))) ∧ At w' b s k (dg s i) ∧ Near b w w' := by
  have ⟨c0, c1, c2, fz⟩ := h
  have hT := fun w1 (a1 : At w1 b s k i) => takeDigits_any b s k i w1 a1 hi hs
  obtain ⟨t1, t2, t3⟩ := digits_t hi
  obtain ⟨t, ht⟩ : ∃ t, s.extract i (dg s i) = t := ⟨_, rfl⟩
  rw [ht] at t1 t2 t3
  simp only [ht] at hT
  have hV := value_any t (by omega) t2
  rw [t3] at hV
  have hlt := dv_lt s i (dg s i - i) (fun j hj => skip_all hi (by omega) (by show i + j < dg s i; omega))
  have hpw : 10 ^ (dg s i - i) ≤ 10000000000000000000 := Nat.pow_le_pow_right (n := 10) (by omega) h2
  obtain ⟨d, hd⟩ : ∃ d : Nat, dv s i (dg s i - i) = d := ⟨_, rfl⟩
  obtain ⟨j, hj⟩ : ∃ j, dg s i = j := ⟨_, rfl⟩
  rw [hd] at hV hlt ⊢
  rw [hj] at h1 h2 hlt hpw t1 ⊢
  simp only [hj] at hT
  clear hd hj t2 t3 ht
  have z0 : ¬ (t.size : Int) = 0 := by omega
  have z1 : ((t.size : Int) == 0) = false := by simpa using z0
  have z2 : (t.size : Int) ≤ 19 := by omega
  clear t1 z0
  go_enter Tryd.func37, Tryd.ntmps37
  go_wp2_with (first
    | (go_at_call 46; refine (take_miss b s k i 45 _ h hi hs hn).mono ?_; rintro e w1 ⟨rfl, n1, rfl⟩)
    | (go_at_call 47; refine (hT _ (h.drewN _)).mono ?_; rintro e w2 ⟨rfl, ha, hb⟩)
    | (go_at_call 48; refine (hV _).mono ?_; rintro e w3 ⟨rfl, rfl⟩))
  all_goals
    go_ret
    exact ⟨ret_int (by unfold capP MC; split <;> (try split) <;> omega), ha, ((Near.refl b w).drewN n1).trans hb⟩

set_option maxHeartbeats 800000 in
theorem readNumber_neg (b : Nat) (s : ByteArray) (k : Int) (i : Nat) (w : World) (h : At w b s k i) (hi : i ≤ s.size) (hs : s.size ≤ 1500) (hn : pk s i = 45) (h1 : 0 < dg s (i + 1) - (i + 1)) (h2 : dg s (i + 1) - (i + 1) ≤ 19) :
    Calls Tryd.prog 37 #[.pointer (some ⟨b, 0, none⟩)] w fun e w' => e = .returned (.int .i64 (capP (-((dv s (i + 1) (dg s (i + 1) - (i + 1)) : Nat) : Int)))) ∧ At w' b s k (dg s (i + 1)) ∧ Near b w w' := by
  have ⟨c0, c1, c2, fz⟩ := h
  have hi' := hi
  have hi : i + 1 ≤ s.size := lt_of_pk (by omega)
  have hT := fun w1 (a1 : At w1 b s k (i + 1)) => takeDigits_any b s k (i + 1) w1 a1 hi hs
  obtain ⟨t1, t2, t3⟩ := digits_t hi
  obtain ⟨t, ht⟩ : ∃ t, s.extract (i + 1) (dg s (i + 1)) = t := ⟨_, rfl⟩
  rw [ht] at t1 t2 t3
  simp only [ht] at hT
  have hV := value_any t (by omega) t2
  rw [t3] at hV
  have hlt := dv_lt s (i + 1) (dg s (i + 1) - (i + 1)) (fun j hj => skip_all hi (by omega) (by show i + 1 + j < dg s (i + 1); omega))
  have hpw : 10 ^ (dg s (i + 1) - (i + 1)) ≤ 10000000000000000000 := Nat.pow_le_pow_right (n := 10) (by omega) h2
  obtain ⟨d, hd⟩ : ∃ d : Nat, dv s (i + 1) (dg s (i + 1) - (i + 1)) = d := ⟨_, rfl⟩
  obtain ⟨j, hj⟩ : ∃ j, dg s (i + 1) = j := ⟨_, rfl⟩
  rw [hd] at hV hlt ⊢
  rw [hj] at h1 h2 hlt hpw t1 ⊢
  simp only [hj] at hT
  clear hd hj t2 t3 ht
  have z0 : ¬ (t.size : Int) = 0 := by omega
  have z1 : ((t.size : Int) == 0) = false := by simpa using z0
  have z2 : (t.size : Int) ≤ 19 := by omega
  clear t1 z0
  go_enter Tryd.func37, Tryd.ntmps37
  go_wp2_with (first
    | (go_at_call 46; refine (take_hit b s k i 45 _ h hi' hs hn).mono ?_; rintro e w1 ⟨rfl, a1, n1⟩)
    | (go_at_call 47; refine (hT _ a1).mono ?_; rintro e w2 ⟨rfl, ha, hb⟩)
    | (go_at_call 48; refine (hV _).mono ?_; rintro e w3 ⟨rfl, rfl⟩))
  all_goals
    go_ret
    exact ⟨ret_int (by unfold capP MC; split <;> (try split) <;> omega), ha, n1.trans hb⟩

set_option maxHeartbeats 800000 in
theorem readNumber_badPosNone (b : Nat) (s : ByteArray) (k : Int) (i : Nat) (w : World) (h : At w b s k i) (hi : i ≤ s.size) (hs : s.size ≤ 1500) (hn : (pk s i == 45) = false) (h1 : dg s i = i) :
    Calls Tryd.prog 37 #[.pointer (some ⟨b, 0, none⟩)] w fun e w' => e = .panicked (refusal k i) ∧ Near b w w' := by
  have ⟨c0, c1, c2, fz⟩ := h
  have hT := fun w1 (a1 : At w1 b s k i) => takeDigits_any b s k i w1 a1 hi hs
  obtain ⟨t1, t2, t3⟩ := digits_t hi
  obtain ⟨t, ht⟩ : ∃ t, s.extract i (dg s i) = t := ⟨_, rfl⟩
  rw [ht] at t1 t2 t3
  simp only [ht] at hT
  obtain ⟨j, hj⟩ : ∃ j, dg s i = j := ⟨_, rfl⟩
  rw [hj] at h1 t1
  simp only [hj] at hT
  clear hj t2 t3 ht
  have z1 : t.size = 0 := by omega
  clear t1
  go_enter Tryd.func37, Tryd.ntmps37
  go_wp2_with (first
    | (go_at_call 46; refine (take_miss b s k i 45 _ h hi hs hn).mono ?_; rintro e w1 ⟨rfl, n1, rfl⟩)
    | (go_at_call 47; refine (hT _ (h.drewN _)).mono ?_; rintro e w2 ⟨rfl, ha, hb⟩; have e2 := ha.c2)
    | (go_at_call 23; refine (giveUp_any _ _ _).mono ?_; rintro e w3 ⟨rfl, rfl⟩))
  exact ⟨rfl, rfl, ((Near.refl b w).drewN n1).trans hb⟩

set_option maxHeartbeats 800000 in
theorem readNumber_badPosMany (b : Nat) (s : ByteArray) (k : Int) (i : Nat) (w : World) (h : At w b s k i) (hi : i ≤ s.size) (hs : s.size ≤ 1500) (hn : (pk s i == 45) = false) (h1 : 19 < dg s i - i) :
    Calls Tryd.prog 37 #[.pointer (some ⟨b, 0, none⟩)] w fun e w' => e = .panicked (refusal k i) ∧ Near b w w' := by
  have ⟨c0, c1, c2, fz⟩ := h
  have hT := fun w1 (a1 : At w1 b s k i) => takeDigits_any b s k i w1 a1 hi hs
  obtain ⟨t1, t2, t3⟩ := digits_t hi
  obtain ⟨t, ht⟩ : ∃ t, s.extract i (dg s i) = t := ⟨_, rfl⟩
  rw [ht] at t1 t2 t3
  simp only [ht] at hT
  obtain ⟨j, hj⟩ : ∃ j, dg s i = j := ⟨_, rfl⟩
  rw [hj] at h1 t1
  simp only [hj] at hT
  clear hj t2 t3 ht
  have z0 : ¬ (t.size : Int) = 0 := by omega
  have z1 : ((t.size : Int) == 0) = false := by simpa using z0
  have z2 : 19 < (t.size : Int) := by omega
  clear t1 z0
  go_enter Tryd.func37, Tryd.ntmps37
  go_wp2_with (first
    | (go_at_call 46; refine (take_miss b s k i 45 _ h hi hs hn).mono ?_; rintro e w1 ⟨rfl, n1, rfl⟩)
    | (go_at_call 47; refine (hT _ (h.drewN _)).mono ?_; rintro e w2 ⟨rfl, ha, hb⟩; have e2 := ha.c2)
    | (go_at_call 23; refine (giveUp_any _ _ _).mono ?_; rintro e w3 ⟨rfl, rfl⟩))
  exact ⟨rfl, rfl, ((Near.refl b w).drewN n1).trans hb⟩

set_option maxHeartbeats 800000 in
theorem readNumber_badNegNone (b : Nat) (s : ByteArray) (k : Int) (i : Nat) (w : World) (h : At w b s k i) (hi : i ≤ s.size) (hs : s.size ≤ 1500) (hn : pk s i = 45) (h1 : dg s (i + 1) = i + 1) :
    Calls Tryd.prog 37 #[.pointer (some ⟨b, 0, none⟩)] w fun e w' => e = .panicked (refusal k i) ∧ Near b w w' := by
  have ⟨c0, c1, c2, fz⟩ := h
  have hi' := hi
  have hi : i + 1 ≤ s.size := lt_of_pk (by omega)
  have hT := fun w1 (a1 : At w1 b s k (i + 1)) => takeDigits_any b s k (i + 1) w1 a1 hi hs
  obtain ⟨t1, t2, t3⟩ := digits_t hi
  obtain ⟨t, ht⟩ : ∃ t, s.extract (i + 1) (dg s (i + 1)) = t := ⟨_, rfl⟩
  rw [ht] at t1 t2 t3
  simp only [ht] at hT
  obtain ⟨j, hj⟩ : ∃ j, dg s (i + 1) = j := ⟨_, rfl⟩
  rw [hj] at h1 t1
  simp only [hj] at hT
  clear hj t2 t3 ht
  have z1 : t.size = 0 := by omega
  clear t1
  go_enter Tryd.func37, Tryd.ntmps37
  go_wp2_with (first
    | (go_at_call 46; refine (take_hit b s k i 45 _ h hi' hs hn).mono ?_; rintro e w1 ⟨rfl, a1, n1⟩)
    | (go_at_call 47; refine (hT _ a1).mono ?_; rintro e w2 ⟨rfl, ha, hb⟩; have e2 := ha.c2)
    | (go_at_call 23; refine (giveUp_any _ _ _).mono ?_; rintro e w3 ⟨rfl, rfl⟩))
  exact ⟨rfl, rfl, n1.trans hb⟩

set_option maxHeartbeats 800000 in
theorem readNumber_badNegMany (b : Nat) (s : ByteArray) (k : Int) (i : Nat) (w : World) (h : At w b s k i) (hi : i ≤ s.size) (hs : s.size ≤ 1500) (hn : pk s i = 45) (h1 : 19 < dg s (i + 1) - (i + 1)) :
    Calls Tryd.prog 37 #[.pointer (some ⟨b, 0, none⟩)] w fun e w' => e = .panicked (refusal k i) ∧ Near b w w' := by
  have ⟨c0, c1, c2, fz⟩ := h
  have hi' := hi
  have hi : i + 1 ≤ s.size := lt_of_pk (by omega)
  have hT := fun w1 (a1 : At w1 b s k (i + 1)) => takeDigits_any b s k (i + 1) w1 a1 hi hs
  obtain ⟨t1, t2, t3⟩ := digits_t hi
  obtain ⟨t, ht⟩ : ∃ t, s.extract (i + 1) (dg s (i + 1)) = t := ⟨_, rfl⟩
  rw [ht] at t1 t2 t3
  simp only [ht] at hT
  obtain ⟨j, hj⟩ : ∃ j, dg s (i + 1) = j := ⟨_, rfl⟩
  rw [hj] at h1 t1
  simp only [hj] at hT
  clear hj t2 t3 ht
  have z0 : ¬ (t.size : Int) = 0 := by omega
  have z1 : ((t.size : Int) == 0) = false := by simpa using z0
  have z2 : 19 < (t.size : Int) := by omega
  clear t1 z0
  go_enter Tryd.func37, Tryd.ntmps37
  go_wp2_with (first
    | (go_at_call 46; refine (take_hit b s k i 45 _ h hi' hs hn).mono ?_; rintro e w1 ⟨rfl, a1, n1⟩)
    | (go_at_call 47; refine (hT _ a1).mono ?_; rintro e w2 ⟨rfl, ha, hb⟩; have e2 := ha.c2)
    | (go_at_call 23; refine (giveUp_any _ _ _).mono ?_; rintro e w3 ⟨rfl, rfl⟩))
  exact ⟨rfl, rfl, n1.trans hb⟩

/-- A number is read: its value, brought to the limit; or it is refused at its first byte. -/
theorem readNumber_some (b : Nat) (s : ByteArray) (k : Int) (i : Nat) (w : World) (h : At w b s k i) (hi : i ≤ s.size) (hs : s.size ≤ 1500) (z : Int) (j : Nat) (hz : numTok s i = some (z, j)) :
    Calls Tryd.prog 37 #[.pointer (some ⟨b, 0, none⟩)] w fun e w' => e = .returned (.int .i64 (capP z)) ∧ At w' b s k j ∧ Near b w w' := by
  unfold numTok at hz
  split at hz
  · rename_i hn
    split at hz
    · cases hz
    · rename_i hc
      simp only [Option.some.injEq, Prod.mk.injEq] at hz
      obtain ⟨rfl, rfl⟩ := hz
      have hl := dg_ge s (i + 1)
      exact readNumber_neg b s k i w h hi hs hn (by omega) (by omega)
  · rename_i hn
    split at hz
    · cases hz
    · rename_i hc
      simp only [Option.some.injEq, Prod.mk.injEq] at hz
      obtain ⟨rfl, rfl⟩ := hz
      have hl := dg_ge s i
      exact readNumber_pos b s k i w h hi hs (by simpa using hn) (by omega) (by omega)

theorem readNumber_none (b : Nat) (s : ByteArray) (k : Int) (i : Nat) (w : World) (h : At w b s k i) (hi : i ≤ s.size) (hs : s.size ≤ 1500) (hz : numTok s i = none) :
    Calls Tryd.prog 37 #[.pointer (some ⟨b, 0, none⟩)] w fun e w' => e = .panicked (refusal k i) ∧ Near b w w' := by
  unfold numTok at hz
  split at hz
  · rename_i hn
    split at hz
    · rename_i hc
      rcases hc with hc | hc
      · exact readNumber_badNegNone b s k i w h hi hs hn hc
      · exact readNumber_badNegMany b s k i w h hi hs hn hc
    · cases hz
  · rename_i hn
    split at hz
    · rename_i hc
      rcases hc with hc | hc
      · exact readNumber_badPosNone b s k i w h hi hs (by simpa using hn) hc
      · exact readNumber_badPosMany b s k i w h hi hs (by simpa using hn) hc
    · cases hz

end Go.Proofs.YtiohpcnnpmnjhaaDoor
