import Derived.Test.YtiohpcnnpmnjhaaRuleRead
namespace Go.Proofs.Ytiohpcnnpmnjhaa
open Go.RowKit
set_option linter.unusedVariables false

/-- What readRule does. -/
def LawOut (s : ByteArray) (w : World) (e : Ending) (w' : World) : Prop :=
  Below w.heap.size w w' ∧ match ruleR s with
    | .inl (k, i) => e = .panicked (refusal k i)
    | .inr (f, g) => e = .returned (.agg (twoN f g))
theorem lawOut_bad {s : ByteArray} {w w' : World} {k : Int} {i : Nat} (h : ruleR s = .inl (k, i)) (hb : Below w.heap.size w w') : LawOut s w (.panicked (refusal k i)) w' := by
  unfold LawOut; rw [h]; exact ⟨hb, rfl⟩
theorem lawOut_ok {s : ByteArray} {w w' : World} {f g : Nat → Bool} (h : ruleR s = .inr (f, g)) (hb : Below w.heap.size w w') : LawOut s w (.returned (.agg (twoN f g))) w' := by
  unfold LawOut; rw [h]; exact ⟨hb, rfl⟩

abbrev noD : Nat → Bool := fun _ => false
abbrev Z18 : Array Value := #[.bool false, .bool false, .bool false, .bool false, .bool false, .bool false, .bool false, .bool false, .bool false, .bool false, .bool false, .bool false, .bool false, .bool false, .bool false, .bool false, .bool false, .bool false]
theorem info18 : (Try.prog.info? 44).map (·.size) = some 18 := by kernel_rfl

/-- The three blocks that readRule lays: the result's place, the law, the reader. -/
structure LInv (w : World) (s : ByteArray) (i : Nat) (f g : Nat → Bool) (W : World) : Prop where
  r0 : W.heap[w.heap.size]? = some (.cells (twoN noD noD) 44 (0, 0))
  r1 : W.heap[w.heap.size + 1]? = some (.cells (twoN f g) 44 (0, 0))
  at_ : At W (w.heap.size + 2) s 3 i
  be : Below w.heap.size w W
theorem LInv.new (w : World) (s : ByteArray) : LInv w s 0 noD noD (((w.alloc (.cells Z18 44)).alloc (.cells Z18 44)).alloc (.cells #[.string s, .int .i64 0, .int .i64 3] 61)) := by
  have h3 := blk_new ((w.alloc (.cells Z18 44)).alloc (.cells Z18 44)) (.cells #[.string s, .int .i64 0, .int .i64 3] 61)
  simp only [World.size_alloc, Nat.add_assoc, Nat.reduceAdd] at h3
  have h2 := blk_old (blk_new (w.alloc (.cells Z18 44)) (.cells Z18 44)) (.cells #[.string s, .int .i64 0, .int .i64 3] 61)
  rw [World.size_alloc] at h2
  exact ⟨blk_old (blk_old (blk_new w _) _) _, h2, ⟨cell_of h3 0, cell_of h3 1, cell_of h3 2, frz_of h3 1⟩, (((Below.refl _ _).alloc (Nat.le_refl _) _).alloc (by simp) _).alloc (by simp; omega) _⟩
theorem LInv.near {w W W' : World} {s : ByteArray} {i j : Nat} {f g : Nat → Bool} (h : LInv w s i f g W) (ha : At W' (w.heap.size + 2) s 3 j) (hn : Near (w.heap.size + 2) W W') : LInv w s j f g W' :=
  ⟨(hn.block _ (by omega)).trans h.r0, (hn.block _ (by omega)).trans h.r1, ha, h.be.trans (hn.below (by omega))⟩
theorem LInv.drewN {w W : World} {s : ByteArray} {i : Nat} {f g : Nat → Bool} (h : LInv w s i f g W) (n : Nat) : LInv w s i f g (W.drewN n) := ⟨h.r0, h.r1, h.at_.drewN n, below_drewN h.be n⟩
theorem LInv.rise {w W W' : World} {s : ByteArray} {i j : Nat} {f g : Nat → Bool} (h : LInv w s i f g W) (ha : At W' (w.heap.size + 2) s 3 j) (hb : Below (w.heap.size + 2) W W') : LInv w s j f g W' :=
  ⟨(hb.block _ (by omega)).trans h.r0, (hb.block _ (by omega)).trans h.r1, ha, h.be.trans (hb.mono (by omega))⟩
theorem below_cells {B b : Nat} {w W : World} (hb : Below B w W) (hB : B ≤ b) (o : Nat) (vs : List Value) : Below B w (W.setCells b o vs) := by
  obtain ⟨h1, h2, h3, h4⟩ := setCells_same (b := b) vs o W
  exact hb.trans ⟨h1, h2, h3, Nat.le_of_eq h4.symm, fun k hk => setCells_other (by omega) vs o W⟩
theorem below_row {B g : Nat} {w W : World} (hb : Below B w W) (hB : B ≤ g) (cs : Array Value) : Below B w (W.setRow g cs) := hb.trans ⟨rfl, rfl, rfl, by simp, fun k hk => setRow_other _ _ _ _ (by omega)⟩
theorem LInv.put1 {w W : World} {s : ByteArray} {i : Nat} {f g : Nat → Bool} (h : LInv w s i f g W) (x : Nat → Bool) : LInv w s i x g (W.setCells (w.heap.size + 1) 0 (nine x).toList) :=
  ⟨(setCells_other (by omega) _ _ _).trans h.r0, by rw [setCells_blk _ _ _ _ h.r1, put_first], h.at_.of_block (setCells_other (by omega) _ _ _), below_cells h.be (by omega) _ _⟩
theorem LInv.put2 {w W : World} {s : ByteArray} {i : Nat} {f g : Nat → Bool} (h : LInv w s i f g W) (x : Nat → Bool) : LInv w s i f x (W.setCells (w.heap.size + 1) 9 (nine x).toList) :=
  ⟨(setCells_other (by omega) _ _ _).trans h.r0, by rw [setCells_blk _ _ _ _ h.r1, put_second], h.at_.of_block (setCells_other (by omega) _ _ _), below_cells h.be (by omega) _ _⟩

set_option maxRecDepth 100000 in
set_option maxHeartbeats 1600000 in
theorem readRule_any (s : ByteArray) (w : World) (hm : s.size ≤ maxLen) : Calls Try.prog 13 #[.string s] w (LawOut s w) := by
  unfold maxLen at hm
  have I0 := LInv.new w s
  by_cases hs : 24 < s.size
  · go_enter Try.func13, Try.ntmps13
    go_wp2_with (go_at_call 20; refine (giveUp_any _ _ _).mono ?_; rintro e w' ⟨rfl, rfl⟩)
    exact ⟨rfl, lawOut_bad (i := 0) (by simp [ruleR, hs]) ((Below.refl _ _).alloc (Nat.le_refl _) _)⟩
  have hs' : s.size ≤ 24 := by omega
  by_cases hB : pk s 0 = 66
  rotate_left
  · have hB' : (pk s 0 == 66) = false := by simpa using hB
    go_enter Try.func13, Try.ntmps13
    go_wp2_with (go_at_call_of 21 (Value.int IntKind.u8 66); refine (expect_miss (w.heap.size + 2) s 3 0 66 _ I0.at_ (Nat.zero_le _) (by omega) hB').mono ?_; rintro e w' ⟨rfl, n1⟩)
    exact ⟨rfl, lawOut_bad (i := 0) (by simp [ruleR, hs, hB]) (I0.be.trans (n1.below (by omega)))⟩
  have hl0 := lt_of_pk (s := s) (i := 0) (by omega)
  have hr1 := riseEnd_le s 1 49 (by omega)
  obtain ⟨f1, hf1⟩ : ∃ f1, riseTab s 1 49 = f1 := ⟨_, rfl⟩
  obtain ⟨i1, hi1⟩ : ∃ i1, riseEnd s 1 49 = i1 := ⟨_, rfl⟩
  have hT1 : ∀ b W, At W b s 3 1 → Calls Try.prog 22 #[.pointer (some ⟨b, 0, none⟩), .int .u8 49] W fun e w' => e = .returned (.agg (nine f1)) ∧ At w' b s 3 i1 ∧ Below b W w' := fun b W h => by
    have := rising_any b s 3 1 49 W h (by omega) hs' (by omega) (by omega)
    rw [hf1, hi1] at this
    exact this.mono fun e w' ⟨h1, h2, h3, _⟩ => ⟨h1, h2, h3⟩
  rw [hi1] at hr1
  have HR : Hid (ruleR s = if pk s i1 = 47 then (if pk s (i1 + 1) = 83 then (if riseEnd s (i1 + 2) 48 < s.size then .inl (3, riseEnd s (i1 + 2) 48) else .inr (f1, riseTab s (i1 + 2) 48)) else .inl (3, i1 + 1)) else .inl (3, i1)) := by
    show _ = _
    rw [ruleR, if_neg hs, if_pos hB, hf1, hi1]
  clear hf1 hi1
  by_cases hS : pk s i1 = 47
  rotate_left
  · have hS' : (pk s i1 == 47) = false := by simpa using hS
    have HQ : Hid (ruleR s = .inl (3, i1)) := by show _ = _; rw [HR.out, if_neg hS]
    go_enter Try.func13, Try.ntmps13
    go_wp2_with (first
      | (go_at_call_of 21 (Value.int IntKind.u8 66); refine (expect_hit (w.heap.size + 2) s 3 0 66 _ I0.at_ (Nat.zero_le _) (by omega) hB).mono ?_; rintro e w1 ⟨rfl, h1, n1⟩; have I1 := I0.near h1 n1; clear I0 h1 n1)
      | (go_at_call_of 22 (Value.int IntKind.u8 49); refine (hT1 _ _ I1.at_).mono ?_; rintro e w2 ⟨rfl, h2, b2⟩; have I2 := I1.rise h2 b2; clear I1 h2 b2)
      | (refine wpList_store_mid rfl 25 (Operand.tmp 13) _ rfl (w.heap.size + 1) 0 (nine f1) rfl rfl (row_there I2.r1 (by simp [twoN, nine])) info9 (nine_one _) ?_; have I3 := I2.put1 f1; clear I2)
      | (go_at_call_of 21 (Value.int IntKind.u8 47); refine (expect_miss (w.heap.size + 2) s 3 _ 47 _ I3.at_ (by omega) (by omega) hS').mono ?_; rintro e w4 ⟨rfl, n4⟩))
    exact ⟨rfl, lawOut_bad HQ.out (I3.be.trans (n4.below (by omega)))⟩
  have hl1 := lt_of_pk (s := s) (i := i1) (by omega)
  by_cases hT : pk s (i1 + 1) = 83
  rotate_left
  · have hT' : (pk s (i1 + 1) == 83) = false := by simpa using hT
    have HQ : Hid (ruleR s = .inl (3, i1 + 1)) := by show _ = _; rw [HR.out, if_pos hS, if_neg hT]
    go_enter Try.func13, Try.ntmps13
    go_wp2_with (first
      | (go_at_call_of 21 (Value.int IntKind.u8 66); refine (expect_hit (w.heap.size + 2) s 3 0 66 _ I0.at_ (Nat.zero_le _) (by omega) hB).mono ?_; rintro e w1 ⟨rfl, h1, n1⟩; have I1 := I0.near h1 n1; clear I0 h1 n1)
      | (go_at_call_of 22 (Value.int IntKind.u8 49); refine (hT1 _ _ I1.at_).mono ?_; rintro e w2 ⟨rfl, h2, b2⟩; have I2 := I1.rise h2 b2; clear I1 h2 b2)
      | (refine wpList_store_mid rfl 25 (Operand.tmp 13) _ rfl (w.heap.size + 1) 0 (nine f1) rfl rfl (row_there I2.r1 (by simp [twoN, nine])) info9 (nine_one _) ?_; have I3 := I2.put1 f1; clear I2)
      | (go_at_call_of 21 (Value.int IntKind.u8 47); refine (expect_hit (w.heap.size + 2) s 3 _ 47 _ I3.at_ (by omega) (by omega) hS).mono ?_; rintro e w4 ⟨rfl, h4, n4⟩; have I4 := I3.near h4 n4; clear I3 h4 n4)
      | (go_at_call_of 21 (Value.int IntKind.u8 83); refine (expect_miss (w.heap.size + 2) s 3 _ 83 _ I4.at_ (by omega) (by omega) hT').mono ?_; rintro e w5 ⟨rfl, n5⟩))
    exact ⟨rfl, lawOut_bad HQ.out (I4.be.trans (n5.below (by omega)))⟩
  have hl2 := lt_of_pk (s := s) (i := i1 + 1) (by omega)
  have hr2 := riseEnd_le s (i1 + 2) 48 (by omega)
  obtain ⟨f2, hf2⟩ : ∃ f2, riseTab s (i1 + 2) 48 = f2 := ⟨_, rfl⟩
  obtain ⟨i2, hi2⟩ : ∃ i2, riseEnd s (i1 + 2) 48 = i2 := ⟨_, rfl⟩
  have hT2 : ∀ b W, At W b s 3 (i1 + 1 + 1) → Calls Try.prog 22 #[.pointer (some ⟨b, 0, none⟩), .int .u8 48] W fun e w' => e = .returned (.agg (nine f2)) ∧ At w' b s 3 i2 ∧ Below b W w' := fun b W h => by
    have := rising_any b s 3 (i1 + 2) 48 W h (by omega) hs' (by omega) (by omega)
    rw [hf2, hi2] at this
    exact this.mono fun e w' ⟨h1, h2, h3, _⟩ => ⟨h1, h2, h3⟩
  rw [hi2] at hr2
  rw [hf2, hi2, if_pos hS, if_pos hT] at HR
  clear hf2 hi2
  by_cases hE : i2 < s.size
  · have HQ : Hid (ruleR s = .inl (3, i2)) := by show _ = _; rw [HR.out, if_pos hE]
    go_enter Try.func13, Try.ntmps13
    go_wp2_with (first
      | (go_at_call_of 21 (Value.int IntKind.u8 66); refine (expect_hit (w.heap.size + 2) s 3 0 66 _ I0.at_ (Nat.zero_le _) (by omega) hB).mono ?_; rintro e w1 ⟨rfl, h1, n1⟩; have I1 := I0.near h1 n1; clear I0 h1 n1)
      | (go_at_call_of 22 (Value.int IntKind.u8 49); refine (hT1 _ _ I1.at_).mono ?_; rintro e w2 ⟨rfl, h2, b2⟩; have I2 := I1.rise h2 b2; clear I1 h2 b2)
      | (refine wpList_store_mid rfl 25 (Operand.tmp 13) _ rfl (w.heap.size + 1) 0 (nine f1) rfl rfl (row_there I2.r1 (by simp [twoN, nine])) info9 (nine_one _) ?_; have I3 := I2.put1 f1; clear I2)
      | (go_at_call_of 21 (Value.int IntKind.u8 47); refine (expect_hit (w.heap.size + 2) s 3 _ 47 _ I3.at_ (by omega) (by omega) hS).mono ?_; rintro e w4 ⟨rfl, h4, n4⟩; have I4 := I3.near h4 n4; clear I3 h4 n4)
      | (go_at_call_of 21 (Value.int IntKind.u8 83); refine (expect_hit (w.heap.size + 2) s 3 _ 83 _ I4.at_ (by omega) (by omega) hT).mono ?_; rintro e w5 ⟨rfl, h5, n5⟩; have I5 := I4.near h5 n5; clear I4 h5 n5)
      | (go_at_call_of 22 (Value.int IntKind.u8 48); refine (hT2 _ _ I5.at_).mono ?_; rintro e w6 ⟨rfl, h6, b6⟩; have I6 := I5.rise h6 b6; clear I5 h6 b6)
      | (refine wpList_store_mid rfl 25 (Operand.tmp 17) _ rfl (w.heap.size + 1) 9 (nine f2) rfl rfl (row_there I6.r1 (by simp [twoN, nine])) info9 (nine_one _) ?_; have I7 := I6.put2 f2; clear I6)
      | (go_at_call 23; refine (expectEnd_miss (w.heap.size + 2) s 3 i2 _ I7.at_ hE (by omega)).mono ?_; rintro e w8 ⟨rfl, n8, rfl⟩))
    exact ⟨rfl, lawOut_bad HQ.out (below_drewN I7.be _)⟩
  · have HQ : Hid (ruleR s = .inr (f1, f2)) := by show _ = _; rw [HR.out, if_neg hE]
    have hE' : i2 = s.size := by omega
    go_enter Try.func13, Try.ntmps13
    go_wp2_with (first
      | (go_at_call_of 21 (Value.int IntKind.u8 66); refine (expect_hit (w.heap.size + 2) s 3 0 66 _ I0.at_ (Nat.zero_le _) (by omega) hB).mono ?_; rintro e w1 ⟨rfl, h1, n1⟩; have I1 := I0.near h1 n1; clear I0 h1 n1)
      | (go_at_call_of 22 (Value.int IntKind.u8 49); refine (hT1 _ _ I1.at_).mono ?_; rintro e w2 ⟨rfl, h2, b2⟩; have I2 := I1.rise h2 b2; clear I1 h2 b2)
      | (refine wpList_store_mid rfl 25 (Operand.tmp 13) _ rfl (w.heap.size + 1) 0 (nine f1) rfl rfl (row_there I2.r1 (by simp [twoN, nine])) info9 (nine_one _) ?_; have I3 := I2.put1 f1; clear I2)
      | (go_at_call_of 21 (Value.int IntKind.u8 47); refine (expect_hit (w.heap.size + 2) s 3 _ 47 _ I3.at_ (by omega) (by omega) hS).mono ?_; rintro e w4 ⟨rfl, h4, n4⟩; have I4 := I3.near h4 n4; clear I3 h4 n4)
      | (go_at_call_of 21 (Value.int IntKind.u8 83); refine (expect_hit (w.heap.size + 2) s 3 _ 83 _ I4.at_ (by omega) (by omega) hT).mono ?_; rintro e w5 ⟨rfl, h5, n5⟩; have I5 := I4.near h5 n5; clear I4 h5 n5)
      | (go_at_call_of 22 (Value.int IntKind.u8 48); refine (hT2 _ _ I5.at_).mono ?_; rintro e w6 ⟨rfl, h6, b6⟩; have I6 := I5.rise h6 b6; clear I5 h6 b6)
      | (refine wpList_store_mid rfl 25 (Operand.tmp 17) _ rfl (w.heap.size + 1) 9 (nine f2) rfl rfl (row_there I6.r1 (by simp [twoN, nine])) info9 (nine_one _) ?_; have I7 := I6.put2 f2; clear I6)
      | (go_at_call 23; refine (expectEnd_hit (w.heap.size + 2) s 3 i2 _ I7.at_ hE' (by omega)).mono ?_; rintro e w8 ⟨rfl, n8, rfl⟩; have I8 := I7.drewN n8; have x0 := I8.r0; have x1 := I8.r1)
      | (refine wpList_load_row rfl 44 (Operand.tmp 3) rfl (w.heap.size + 1) rfl 44 (twoN f1 f2) (0, 0) _ x1 Try.underlying44 rfl info18 ?_)
      | (refine wpList_store_row rfl 44 (Operand.tmp 2) _ rfl w.heap.size (twoN f1 f2) rfl rfl 44 (twoN noD noD) x0 info18 rfl (twoN_one _ _) ?_))
    refine bodyPost_ret (v := .agg (twoN f1 f2)) (results_cell_row rfl _ _ w.heap.size _ (twoN f1 f2) (0, 0) _ rfl (setRow_heap _ _ _ _ _ _ x0) Try.underlying44 rfl info18) rfl (lawOut_ok HQ.out ?_)
    exact below_row I8.be (Nat.le_refl _) _
end Go.Proofs.Ytiohpcnnpmnjhaa
