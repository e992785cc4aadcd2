import Derived.Test.YtiohpcnnpmnjhaaGreatDoorOnwM
namespace Go.Proofs.YtiohpcnnpmnjhaaGreatDoor
open Go.RowKit Go.Shelf
set_option linter.unusedVariables false

theorem loop_len (s : ByteArray) : ∀ (n i : Nat) (r : List UInt8), s.size - i = n → (ByteArray.toList.loop s i r).length = r.length + (s.size - i)
  | 0, i, r, h => by
    rw [ByteArray.toList.loop, if_neg (by omega)]
    simp; omega
  | n + 1, i, r, h => by
    rw [ByteArray.toList.loop, if_pos (by omega), loop_len s n (i + 1) _ (by omega)]
    simp; omega
theorem toList_len (s : ByteArray) : s.toList.length = s.size := by
  unfold ByteArray.toList
  rw [loop_len s _ 0 [] rfl]
  simp
theorem toList_ne {s : ByteArray} (h : s ≠ ⟨#[]⟩) : ¬ s.toList = [] := fun e => h (by
  have := toList_len s
  rw [e] at this
  apply ByteArray.ext
  exact Array.eq_empty_of_size_eq_zero (show s.size = 0 from this.symm))

/-- Step's answer, taken apart. -/
theorem stepA_ok {rule text : ByteArray} {n : Int} (h : (stepA rule text n).2.1 = 0) : ∃ f g C D, ruleR rule = .inr (f, g) ∧ patR text = .inr C ∧ afterR f g C n = .inr D ∧ stepA rule text n = (⟨(plainB D).toArray⟩, 0, 0) := by
  unfold stepA at h ⊢
  cases hr : ruleR rule with
  | inl x =>
    obtain ⟨k, i⟩ := x
    rw [hr] at h
    have := ruleR_bad hr
    simp at this
    exact absurd h this
  | inr x =>
    obtain ⟨f, g⟩ := x
    rw [hr] at h
    simp only at h
    cases hp : patR text with
    | inl x =>
      obtain ⟨k, i⟩ := x
      rw [hp] at h
      have := patR_bad hp
      simp at this
      exact absurd h this
    | inr C =>
      rw [hp] at h
      simp only at h
      cases ha : afterR f g C n with
      | inl k => rw [ha] at h; exact absurd h (afterR_ne ha)
      | inr D => exact ⟨f, g, C, D, rfl, rfl, ha, by simp only [ha]⟩
theorem stepA_bad {rule text : ByteArray} {n : Int} (h : (stepA rule text n).2.1 ≠ 0) : (stepA rule text n).1 = ⟨#[]⟩ := by
  unfold stepA at h ⊢
  cases hr : ruleR rule with
  | inl x => rfl
  | inr x =>
    obtain ⟨f, g⟩ := x
    rw [hr] at h
    simp only at h ⊢
    cases hp : patR text with
    | inl x => rfl
    | inr C =>
      rw [hp] at h
      simp only at h ⊢
      cases ha : afterR f g C n with
      | inl k => rfl
      | inr D => rw [ha] at h; exact absurd rfl h
theorem stepA_of {rule text : ByteArray} {n : Int} {f g : Nat → Bool} {C : List Cel} (hr : ruleR rule = .inr (f, g)) (hp : patR text = .inr C) : stepA rule text n = match afterR f g C n with | .inl k => (⟨#[]⟩, k, 0) | .inr D => (⟨(plainB D).toArray⟩, 0, 0) := by
  unfold stepA
  rw [hr]
  simp only [hp]
  cases afterR f g C n <;> rfl
theorem plain_ne (D : List Cel) : plainB D ≠ [] := by unfold plainB; simp
theorem plain_ne' (D : List Cel) : (⟨(plainB D).toArray⟩ : ByteArray) ≠ ⟨#[]⟩ := fun h => plain_ne D (by have := congrArg (fun b : ByteArray => b.data.toList) h; simpa using this)
theorem segOk_list {X0 Y0 cx cy : Int} (hc : inWin X0 Y0 (cx, cy)) : ∀ (l : List Span) (k : Nat) (st : (Int × Int) × List UInt8), (∀ s ∈ l, okSeg X0 Y0 s) → segOk X0 Y0 k st → segOk X0 Y0 (k + l.length) (l.foldl (segGo cx) st)
  | [], k, st, _, h => h
  | s :: l, k, st, hl, h => by
    have := segOk_list hc l (k + 1) (segGo cx st s) (fun s h => hl s (by simp [h])) (segOk_step hc h (hl s (by simp)))
    rw [List.length_cons, show k + (l.length + 1) = k + 1 + l.length by omega]
    exact this
/-- A plain text is not too long for the machine. -/
theorem plain_small {D : List Cel} {X Y : Int} (hf : Fine D X Y) : (plainB D).length ≤ 100000000000 := by
  rcases hf.corn with hc | rfl
  rotate_left
  · decide +kernel
  have hx1 := hf.x1; have hx2 := hf.x2; have hy1 := hf.y1; have hy2 := hf.y2
  have hok : ∀ s ∈ segs D, okSeg X Y s := fun s hs => by
    have hp := segs_pos D s hs
    have hl := segs_le D s hs
    have := hf.len
    refine ⟨hf.win _ ?_, hp, by omega⟩
    rw [← cells_segs D]
    refine List.mem_flatMap.2 ⟨s, hs, ?_⟩
    unfold spanCells runCells
    exact List.mem_map.2 ⟨0, List.mem_range.2 (by omega), by simp⟩
  obtain ⟨⟨cx, cy⟩, hco⟩ : ∃ c, cornP D = c := ⟨_, rfl⟩
  rw [hco] at hc
  have hc' := hc
  unfold inWin at hc'
  simp only at hc'
  have h1 := segOk_list hc (segs D) 0 ((cx, cy), []) hok ⟨hc'.1, (show cx ≤ X + 20000100 by omega), hc'.2.2.1, hc'.2.2.2, by simp⟩
  have h2 := h1.2.2.2.2
  have hsl := segs_len D
  have := hf.len
  have i1 := Lib.itoa_length_le cx (by omega) (by omega)
  have i2 := Lib.itoa_length_le cy (by omega) (by omega)
  unfold plainB headB segRun
  rw [hco]
  simp only [List.length_append, List.length_cons, List.length_nil]
  omega

set_option maxRecDepth 100000 in
set_option maxHeartbeats 800000 in
theorem onward_none (rule text : ByteArray) (a b k i : Int) (w : World) (hk : k ≠ 0) (ht : Tab w.heap.size w) (h1 : rule.size ≤ maxLen) (h2 : text.size ≤ maxLen)
    (hP : ∀ w, Tab w.heap.size w → Calls Tryz.prog 12 #[.string rule, .string text, .int .i64 a] w fun e w' => e = .returned (.tuple #[.string ⟨#[]⟩, .int .i64 k, .int .i64 i]) ∧ Below w.heap.size w w') :
    Calls Tryz.prog 4 #[.string rule, .string text, .int .i64 a, .int .i64 b] w fun e w' => e = .returned (.bool true) ∧ Below w.heap.size w w' := by
  have hk0 : (k == 0) = false := by simpa using hk
  have hA := alive_any w ht
  have hR := fun w => right_any rule text w h1 h2
  have hK := fun w => known_any k w
  rw [hk0] at hK
  obtain ⟨rb, hrb⟩ : ∃ rb, rightB rule text = rb := ⟨_, rfl⟩
  simp only [hrb] at hR
  clear hrb
  go_enter Tryz.func4, Tryz.ntmps4
  go_wp2_with (first
    | (go_at_call 16; refine hA.mono ?_; rintro e w0 ⟨rfl, b0⟩; have t0 : Tab w0.heap.size w0 := tab_up ht b0 b0.size)
    | (go_at_call 12; refine (hP _ t0).mono ?_; rintro e w1 ⟨rfl, b1⟩)
    | (go_at_call 17; refine (hR _).mono ?_; rintro e w2 ⟨rfl, b2⟩)
    | (go_at_call 18; refine (hK _).mono ?_; rintro e w3 ⟨rfl, rfl⟩))
  go_ret
  exact ⟨rfl, (b0.trans (b1.mono b0.size)).trans (b2.mono (Nat.le_trans b0.size b1.size))⟩

set_option maxRecDepth 100000 in
set_option maxHeartbeats 800000 in
/-- Where the second number is none, or too many together. -/
theorem onward_out (rule text s : ByteArray) (a b : Int) (w : World) (hs : s ≠ ⟨#[]⟩) (ht : Tab w.heap.size w) (h1 : rule.size ≤ maxLen) (h2 : text.size ≤ maxLen) (hr : rightB rule text = true) (ha : cntB a = true) (hb : cntB b = true → 1000000000000000000 < a + b)
    (hP : ∀ w, Tab w.heap.size w → Calls Tryz.prog 12 #[.string rule, .string text, .int .i64 a] w fun e w' => e = .returned (.tuple #[.string s, .int .i64 0, .int .i64 0]) ∧ Below w.heap.size w w') :
    Calls Tryz.prog 4 #[.string rule, .string text, .int .i64 a, .int .i64 b] w fun e w' => e = .returned (.bool true) ∧ Below w.heap.size w w' := by
  have hs3 : ¬ s.toList = [] := toList_ne hs
  have hs4 : s.toList.isEmpty = false := by simpa using hs3
  have hA := alive_any w ht
  have hR := fun w => right_any rule text w h1 h2
  rw [hr] at hR
  have hK := fun w => known_any 0 w
  have hca := fun w => counted_any a w
  rw [ha] at hca
  have hcb := fun w => counted_any b w
  have har := ha
  unfold cntB at har
  simp at har
  cases hbc : cntB b with
  | false =>
    rw [hbc] at hcb
    go_enter Tryz.func4, Tryz.ntmps4
    go_wp2_with (first
      | (go_at_call 16; refine hA.mono ?_; rintro e w0 ⟨rfl, b0⟩; have t0 : Tab w0.heap.size w0 := tab_up ht b0 b0.size)
      | (go_at_call 12; refine (hP _ t0).mono ?_; rintro e w1 ⟨rfl, b1⟩)
      | (go_at_call 17; refine (hR _).mono ?_; rintro e w2 ⟨rfl, b2⟩)
      | (go_at_call 18; refine (hK _).mono ?_; rintro e w3 ⟨rfl, rfl⟩)
      | (go_at_call 19; first | (with_reducible refine (hca _).mono ?_; rintro e w3 ⟨rfl, rfl⟩) | (with_reducible refine (hcb _).mono ?_; rintro e w3 ⟨rfl, rfl⟩)))
    go_ret
    exact ⟨rfl, (b0.trans (b1.mono b0.size)).trans (b2.mono (Nat.le_trans b0.size b1.size))⟩
  | true =>
    rw [hbc] at hcb
    have hbr := hbc
    unfold cntB at hbr
    simp at hbr
    have hab := hb hbc
    have hw : IntKind.i64.wrap (a + b) = a + b := IntWalk.i64_in _ ⟨by omega, by omega⟩
    have hd : decide ((1000000000000000000 : Int) < a + b) = true := decide_eq_true hab
    go_enter Tryz.func4, Tryz.ntmps4
    go_wp2_with (first
      | (go_at_call 16; refine hA.mono ?_; rintro e w0 ⟨rfl, b0⟩; have t0 : Tab w0.heap.size w0 := tab_up ht b0 b0.size)
      | (go_at_call 12; refine (hP _ t0).mono ?_; rintro e w1 ⟨rfl, b1⟩)
      | (go_at_call 17; refine (hR _).mono ?_; rintro e w2 ⟨rfl, b2⟩)
      | (go_at_call 18; refine (hK _).mono ?_; rintro e w3 ⟨rfl, rfl⟩)
      | (go_at_call 19; first | (with_reducible refine (hca _).mono ?_; rintro e w3 ⟨rfl, rfl⟩) | (with_reducible refine (hcb _).mono ?_; rintro e w3 ⟨rfl, rfl⟩)))
    go_ret
    exact ⟨rfl, (b0.trans (b1.mono b0.size)).trans (b2.mono (Nat.le_trans b0.size b1.size))⟩

set_option maxRecDepth 100000 in
set_option maxHeartbeats 1600000 in
/-- Where all three are asked. -/
theorem onward_tail (rule text s t u : ByteArray) (a b kf kg jf jg : Int) (w : World) (hs : s ≠ ⟨#[]⟩) (ht : Tab w.heap.size w) (h1 : rule.size ≤ maxLen) (h2 : text.size ≤ maxLen) (hr : rightB rule text = true) (ha : cntB a = true) (hb : cntB b = true) (hab : a + b ≤ 1000000000000000000)
    (hP : ∀ w, Tab w.heap.size w → Calls Tryz.prog 12 #[.string rule, .string text, .int .i64 a] w fun e w' => e = .returned (.tuple #[.string s, .int .i64 0, .int .i64 0]) ∧ Below w.heap.size w w')
    (hP2 : ∀ w, Tab w.heap.size w → Calls Tryz.prog 12 #[.string rule, .string s, .int .i64 b] w fun e w' => e = .returned (.tuple #[.string t, .int .i64 kf, .int .i64 jf]) ∧ Below w.heap.size w w')
    (hP3 : ∀ w, Tab w.heap.size w → Calls Tryz.prog 12 #[.string rule, .string text, .int .i64 (a + b)] w fun e w' => e = .returned (.tuple #[.string u, .int .i64 kg, .int .i64 jg]) ∧ Below w.heap.size w w')
    (hq : (kf = 0 ∧ kg = 0 ∧ t = u) ∨ (¬ (kf = 0 ∧ kg = 0) ∧ ((1500 < s.size ∧ kf = 1) ∨ (s.size ≤ 1500 ∧ (a + b ≤ 200 → kf = kg))))) :
    Calls Tryz.prog 4 #[.string rule, .string text, .int .i64 a, .int .i64 b] w fun e w' => e = .returned (.bool true) ∧ Below w.heap.size w w' := by
  have hs3 : ¬ s.toList = [] := toList_ne hs
  have hs4 : s.toList.isEmpty = false := by simpa using hs3
  have hA := alive_any w ht
  have hR := fun w => right_any rule text w h1 h2
  rw [hr] at hR
  have hK := fun w => known_any 0 w
  have hKf := fun w => known_any kf w
  have hKg := fun w => known_any kg w
  have hca := fun w => counted_any a w
  rw [ha] at hca
  have hcb := fun w => counted_any b w
  rw [hb] at hcb
  have har := ha
  unfold cntB at har
  simp at har
  have hbr := hb
  unfold cntB at hbr
  simp at hbr
  have hw : IntKind.i64.wrap (a + b) = a + b := IntWalk.i64_in _ ⟨by omega, by omega⟩
  have hd : decide ((1000000000000000000 : Int) < a + b) = false := decide_eq_false (by omega)
  rcases hq with ⟨rfl, rfl, rfl⟩ | ⟨hno, ⟨hlong, rfl⟩ | ⟨hshort, h200⟩⟩
  · have hKf := hK
    go_enter Tryz.func4, Tryz.ntmps4
    go_wp2_with (first
      | (go_at_call 16; refine hA.mono ?_; rintro e w0 ⟨rfl, b0⟩)
      | (go_at_call 12; first
          | (with_reducible refine (hP _ (tab_up ht b0 b0.size)).mono ?_; rintro e w1 ⟨rfl, c1⟩; have b1 := b0.trans (c1.mono b0.size))
          | (with_reducible refine (hP2 _ (tab_up ht b2 b2.size)).mono ?_; rintro e w5 ⟨rfl, c5⟩; have b5 := b2.trans (c5.mono b2.size))
          | (with_reducible refine (hP3 _ (tab_up ht b5 b5.size)).mono ?_; rintro e w6 ⟨rfl, c6⟩; have b6 := b5.trans (c6.mono b5.size)))
      | (go_at_call 17; refine (hR _).mono ?_; rintro e w2 ⟨rfl, c2⟩; have b2 := b1.trans (c2.mono b1.size))
      | (go_at_call 14; first | (with_reducible refine (num_any kf _).mono ?_; rintro e w3 ⟨rfl, rfl⟩) | (with_reducible refine (num_any kg _).mono ?_; rintro e w3 ⟨rfl, rfl⟩))
      | (go_at_call 18; first | (with_reducible refine (hK _).mono ?_; rintro e w3 ⟨rfl, rfl⟩) | (with_reducible refine (hKf _).mono ?_; rintro e w3 ⟨rfl, rfl⟩) | (with_reducible refine (hKg _).mono ?_; rintro e w3 ⟨rfl, rfl⟩))
      | (go_at_call 19; first | (with_reducible refine (hca _).mono ?_; rintro e w3 ⟨rfl, rfl⟩) | (with_reducible refine (hcb _).mono ?_; rintro e w3 ⟨rfl, rfl⟩)))
    go_ret
    exact ⟨rfl, b6⟩
  · have hl : decide ((1500 : Int) < (s.size : Int)) = true := decide_eq_true (by omega)
    have hKf : ∀ w, Calls Tryz.prog 18 #[.int .i64 1] w fun e w' => e = .returned (.bool false) ∧ w' = w := fun w => known_any 1 w
    go_enter Tryz.func4, Tryz.ntmps4
    go_wp2_with (first
      | (go_at_call 16; refine hA.mono ?_; rintro e w0 ⟨rfl, b0⟩)
      | (go_at_call 12; first
          | (with_reducible refine (hP _ (tab_up ht b0 b0.size)).mono ?_; rintro e w1 ⟨rfl, c1⟩; have b1 := b0.trans (c1.mono b0.size))
          | (with_reducible refine (hP2 _ (tab_up ht b2 b2.size)).mono ?_; rintro e w5 ⟨rfl, c5⟩; have b5 := b2.trans (c5.mono b2.size))
          | (with_reducible refine (hP3 _ (tab_up ht b5 b5.size)).mono ?_; rintro e w6 ⟨rfl, c6⟩; have b6 := b5.trans (c6.mono b5.size)))
      | (go_at_call 17; refine (hR _).mono ?_; rintro e w2 ⟨rfl, c2⟩; have b2 := b1.trans (c2.mono b1.size))
      | (go_at_call 14; first | (with_reducible refine (num_any 1 _).mono ?_; rintro e w3 ⟨rfl, rfl⟩) | (with_reducible refine (num_any kg _).mono ?_; rintro e w3 ⟨rfl, rfl⟩))
      | (go_at_call 18; first | (with_reducible refine (hK _).mono ?_; rintro e w3 ⟨rfl, rfl⟩) | (with_reducible refine (hKf _).mono ?_; rintro e w3 ⟨rfl, rfl⟩) | (with_reducible refine (hKg _).mono ?_; rintro e w3 ⟨rfl, rfl⟩))
      | (go_at_call 19; first | (with_reducible refine (hca _).mono ?_; rintro e w3 ⟨rfl, rfl⟩) | (with_reducible refine (hcb _).mono ?_; rintro e w3 ⟨rfl, rfl⟩)))
    go_ret
    exact ⟨rfl, b6⟩
  · have hl : decide ((1500 : Int) < (s.size : Int)) = false := decide_eq_false (by omega)
    by_cases hf0 : kf = 0
    · subst hf0
      have hg0 : ¬ kg = 0 := fun h => hno ⟨rfl, h⟩
      have hgb : (kg == 0) = false := by simpa using hg0
      have h2n : ¬ a + b ≤ 200 := fun h => hg0 (h200 h).symm
      have hd2 : decide (a + b ≤ 200) = false := decide_eq_false h2n
      rw [hgb] at hKg
      go_enter Tryz.func4, Tryz.ntmps4
      go_wp2_with (first
        | (go_at_call 16; refine hA.mono ?_; rintro e w0 ⟨rfl, b0⟩)
        | (go_at_call 12; first
            | (with_reducible refine (hP _ (tab_up ht b0 b0.size)).mono ?_; rintro e w1 ⟨rfl, c1⟩; have b1 := b0.trans (c1.mono b0.size))
            | (with_reducible refine (hP2 _ (tab_up ht b2 b2.size)).mono ?_; rintro e w5 ⟨rfl, c5⟩; have b5 := b2.trans (c5.mono b2.size))
            | (with_reducible refine (hP3 _ (tab_up ht b5 b5.size)).mono ?_; rintro e w6 ⟨rfl, c6⟩; have b6 := b5.trans (c6.mono b5.size)))
        | (go_at_call 17; refine (hR _).mono ?_; rintro e w2 ⟨rfl, c2⟩; have b2 := b1.trans (c2.mono b1.size))
        | (go_at_call 14; first | (with_reducible refine (num_any kf _).mono ?_; rintro e w3 ⟨rfl, rfl⟩) | (with_reducible refine (num_any kg _).mono ?_; rintro e w3 ⟨rfl, rfl⟩))
        | (go_at_call 18; first | (with_reducible refine (hK _).mono ?_; rintro e w3 ⟨rfl, rfl⟩) | (with_reducible refine (hKf _).mono ?_; rintro e w3 ⟨rfl, rfl⟩) | (with_reducible refine (hKg _).mono ?_; rintro e w3 ⟨rfl, rfl⟩))
        | (go_at_call 19; first | (with_reducible refine (hca _).mono ?_; rintro e w3 ⟨rfl, rfl⟩) | (with_reducible refine (hcb _).mono ?_; rintro e w3 ⟨rfl, rfl⟩)))
      go_ret
      exact ⟨rfl, b6⟩
    · have hfb : (kf == 0) = false := by simpa using hf0
      rw [hfb] at hKf
      by_cases h2n : a + b ≤ 200
      · have hd2 : decide (a + b ≤ 200) = true := decide_eq_true h2n
        obtain rfl := h200 h2n
        rw [hfb] at hKg
        go_enter Tryz.func4, Tryz.ntmps4
        go_wp2_with (first
          | (go_at_call 16; refine hA.mono ?_; rintro e w0 ⟨rfl, b0⟩)
          | (go_at_call 12; first
              | (with_reducible refine (hP _ (tab_up ht b0 b0.size)).mono ?_; rintro e w1 ⟨rfl, c1⟩; have b1 := b0.trans (c1.mono b0.size))
              | (with_reducible refine (hP2 _ (tab_up ht b2 b2.size)).mono ?_; rintro e w5 ⟨rfl, c5⟩; have b5 := b2.trans (c5.mono b2.size))
              | (with_reducible refine (hP3 _ (tab_up ht b5 b5.size)).mono ?_; rintro e w6 ⟨rfl, c6⟩; have b6 := b5.trans (c6.mono b5.size)))
          | (go_at_call 17; refine (hR _).mono ?_; rintro e w2 ⟨rfl, c2⟩; have b2 := b1.trans (c2.mono b1.size))
          | (go_at_call 14; first | (with_reducible refine (num_any kf _).mono ?_; rintro e w3 ⟨rfl, rfl⟩) | (with_reducible refine (num_any kg _).mono ?_; rintro e w3 ⟨rfl, rfl⟩))
          | (go_at_call 18; first | (with_reducible refine (hK _).mono ?_; rintro e w3 ⟨rfl, rfl⟩) | (with_reducible refine (hKf _).mono ?_; rintro e w3 ⟨rfl, rfl⟩) | (with_reducible refine (hKg _).mono ?_; rintro e w3 ⟨rfl, rfl⟩))
          | (go_at_call 19; first | (with_reducible refine (hca _).mono ?_; rintro e w3 ⟨rfl, rfl⟩) | (with_reducible refine (hcb _).mono ?_; rintro e w3 ⟨rfl, rfl⟩)))
        go_ret
        exact ⟨rfl, b6⟩
      · have hd2 : decide (a + b ≤ 200) = false := decide_eq_false h2n
        go_enter Tryz.func4, Tryz.ntmps4
        go_wp2_with (first
          | (go_at_call 16; refine hA.mono ?_; rintro e w0 ⟨rfl, b0⟩)
          | (go_at_call 12; first
              | (with_reducible refine (hP _ (tab_up ht b0 b0.size)).mono ?_; rintro e w1 ⟨rfl, c1⟩; have b1 := b0.trans (c1.mono b0.size))
              | (with_reducible refine (hP2 _ (tab_up ht b2 b2.size)).mono ?_; rintro e w5 ⟨rfl, c5⟩; have b5 := b2.trans (c5.mono b2.size))
              | (with_reducible refine (hP3 _ (tab_up ht b5 b5.size)).mono ?_; rintro e w6 ⟨rfl, c6⟩; have b6 := b5.trans (c6.mono b5.size)))
          | (go_at_call 17; refine (hR _).mono ?_; rintro e w2 ⟨rfl, c2⟩; have b2 := b1.trans (c2.mono b1.size))
          | (go_at_call 14; first | (with_reducible refine (num_any kf _).mono ?_; rintro e w3 ⟨rfl, rfl⟩) | (with_reducible refine (num_any kg _).mono ?_; rintro e w3 ⟨rfl, rfl⟩))
          | (go_at_call 18; first | (with_reducible refine (hK _).mono ?_; rintro e w3 ⟨rfl, rfl⟩) | (with_reducible refine (hKf _).mono ?_; rintro e w3 ⟨rfl, rfl⟩) | (with_reducible refine (hKg _).mono ?_; rintro e w3 ⟨rfl, rfl⟩))
          | (go_at_call 19; first | (with_reducible refine (hca _).mono ?_; rintro e w3 ⟨rfl, rfl⟩) | (with_reducible refine (hcb _).mono ?_; rintro e w3 ⟨rfl, rfl⟩)))
        go_ret
        exact ⟨rfl, b6⟩

/-- The law Onward. -/
theorem onward_walk (rule text : ByteArray) (a b : Int) (h1 : rule.size ≤ maxLen) (h2 : text.size ≤ maxLen) (w : World) (ht : Tab w.heap.size w) :
    Calls Tryz.prog 4 #[.string rule, .string text, .int .i64 a, .int .i64 b] w fun e w' => e = .returned (.bool true) ∧ Below w.heap.size w w' := by
  have hP := fun w ht => step_any rule text a w h1 h2 ht
  by_cases hk : (stepA rule text a).2.1 = 0
  rotate_left
  · rw [stepA_bad hk] at hP
    exact onward_none rule text a b _ _ w hk ht h1 h2 hP
  obtain ⟨f, g, C, D, hr, hp, hD, hA⟩ := stepA_ok hk
  rw [hA] at hP
  obtain ⟨X, Y, hf, hbx⟩ := patR_tight hp
  obtain ⟨X', Y', hf'⟩ := afterR_fine hf hbx hD
  obtain ⟨hre, hfar, ha0, ha1⟩ := afterR_reach hD
  have hrb : rightB rule text = true := by unfold rightB; rw [hr]; simp only [hp]
  have hca : cntB a = true := by unfold cntB; simp; omega
  by_cases hb : cntB b = true ∧ a + b ≤ 1000000000000000000
  rotate_left
  · refine onward_out rule text ⟨(plainB D).toArray⟩ a b w (plain_ne' D) ht h1 h2 hrb hca (fun h => ?_) hP
    apply Decidable.byContradiction
    intro hn
    exact hb ⟨h, by omega⟩
  obtain ⟨hcb, hab⟩ := hb
  have hcr := hcb
  unfold cntB at hcr
  simp at hcr
  have hsm := plain_small hf'
  have h3 : (⟨(plainB D).toArray⟩ : ByteArray).size ≤ maxLen := by
    show (plainB D).toArray.size ≤ maxLen
    unfold maxLen
    simp
    omega
  refine onward_tail rule text ⟨(plainB D).toArray⟩ _ _ a b _ _ _ _ w (plain_ne' D) ht h1 h2 hrb hca hcb hab hP (fun w ht => step_any rule ⟨(plainB D).toArray⟩ b w h1 h3 ht) (fun w ht => step_any rule text (a + b) w h1 h2 ht) ?_
  by_cases hl : (plainB D).length ≤ 1500
  rotate_left
  · have hpl := patR_long hl
    have e : stepA rule ⟨(plainB D).toArray⟩ b = (⟨#[]⟩, 1, 0) := by unfold stepA; rw [hr]; simp only [hpl]; rfl
    rw [e]
    refine .inr ⟨fun h => by simp at h, .inl ⟨?_, rfl⟩⟩
    show 1500 < (plainB D).toArray.size
    simp
    omega
  have hpl := patR_plain hf'.asc hf'.len hfar hl
  rw [stepA_of hr hpl, stepA_of hr hp]
  have hsz : (⟨(plainB D).toArray⟩ : ByteArray).size ≤ 1500 := by
    show (plainB D).toArray.size ≤ 1500
    simp
    omega
  by_cases h200 : a + b ≤ 200
  · rw [afterR_add hD hcr.1 h200]
    cases hx : afterR f g C (a + b) with
    | inl k => exact .inr ⟨fun h => afterR_ne hx h.1, .inr ⟨hsz, fun _ => rfl⟩⟩
    | inr E => exact .inl ⟨rfl, rfl, rfl⟩
  · cases hx : afterR f g D b with
    | inl k => exact .inr ⟨fun h => afterR_ne hx h.1, .inr ⟨hsz, fun h => absurd h h200⟩⟩
    | inr E =>
      cases hy : afterR f g C (a + b) with
      | inl k => exact .inr ⟨fun h => afterR_ne hy h.2, .inr ⟨hsz, fun h => absurd h h200⟩⟩
      | inr E' =>
        refine .inl ⟨rfl, rfl, ?_⟩
        have e1 := afterR_gen hx
        have e2 := afterR_gen hy
        have e3 := afterR_gen hD
        have : E = E' := by rw [e1, e2, e3, ← gen_add, show a.toNat + b.toNat = (a + b).toNat by omega]
        rw [this]

end Go.Proofs.YtiohpcnnpmnjhaaGreatDoor
