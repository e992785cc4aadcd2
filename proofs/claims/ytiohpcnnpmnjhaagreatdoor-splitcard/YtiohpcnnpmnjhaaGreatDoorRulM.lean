import Derived.Test.YtiohpcnnpmnjhaaGreatDoorRuleRead
import Derived.Deep.Cut
namespace Go.Proofs.YtiohpcnnpmnjhaaGreatDoor
open Go.RowKit
set_option linter.unusedVariables false

/-- What readRule does. -/
def LawOut (s : ByteArray) (w : World) (e : Ending) (w' : World) : Prop :=
  Below w.heap.size w w' ∧ match ruleR s with
    | .inl (k, i) => e = .panicked (refusal k i)
    | .inr (f, g) => e = .returned (.agg (twoN f g))
theorem lawOut_bad {s : ByteArray} {w w' : World} {k : Int} {i : Nat} (h : ruleR s = .inl (k, i)) (hb : Below w.heap.size w w') : LawOut s w (.panicked (refusal k i)) w' := by
  unfold LawOut; rw [h]; exact ⟨hb, rfl⟩
theorem lawOut_ok {s : ByteArray} {w w' : World} {f g : Nat → Bool} (h : ruleR s = .inr (f, g)) (hb : Below w.heap.size w w') : LawOut s w (.returned (.agg (twoN f g))) w' := by
  unfold LawOut; rw [h]; exact ⟨hb, rfl⟩

abbrev noD : Nat → Bool := fun _ => false
abbrev Z18 : Array Value := #[.bool false, .bool false, .bool false, .bool false, .bool false, .bool false, .bool false, .bool false, .bool false, .bool false, .bool false, .bool false, .bool false, .bool false, .bool false, .bool false, .bool false, .bool false]
theorem info18 : (Tryz.prog.info? 69).map (·.size) = some 18 := by kernel_rfl

/-- The three blocks that readRule lays: the result's place, the law, the reader. -/
structure LInv (w : World) (s : ByteArray) (i : Nat) (f g : Nat → Bool) (W : World) : Prop where
  r0 : W.heap[w.heap.size]? = some (.cells (twoN noD noD) 69 (0, 0))
  r1 : W.heap[w.heap.size + 1]? = some (.cells (twoN f g) 69 (0, 0))
  at_ : At W (w.heap.size + 2) s 3 i
  be : Below w.heap.size w W
theorem LInv.new (w : World) (s : ByteArray) : LInv w s 0 noD noD (((w.alloc (.cells Z18 69)).alloc (.cells Z18 69)).alloc (.cells #[.string s, .int .i64 0, .int .i64 3] 140)) := by
  have h3 := blk_new ((w.alloc (.cells Z18 69)).alloc (.cells Z18 69)) (.cells #[.string s, .int .i64 0, .int .i64 3] 140)
  simp only [World.size_alloc, Nat.add_assoc, Nat.reduceAdd] at h3
  have h2 := blk_old (blk_new (w.alloc (.cells Z18 69)) (.cells Z18 69)) (.cells #[.string s, .int .i64 0, .int .i64 3] 140)
  rw [World.size_alloc] at h2
  exact ⟨blk_old (blk_old (blk_new w _) _) _, h2, ⟨cell_of h3 0, cell_of h3 1, cell_of h3 2, frz_of h3 1⟩, (((Below.refl _ _).alloc (Nat.le_refl _) _).alloc (by simp) _).alloc (by simp; omega) _⟩
theorem LInv.near {w W W' : World} {s : ByteArray} {i j : Nat} {f g : Nat → Bool} (h : LInv w s i f g W) (ha : At W' (w.heap.size + 2) s 3 j) (hn : Near (w.heap.size + 2) W W') : LInv w s j f g W' :=
  ⟨(hn.block _ (by omega)).trans h.r0, (hn.block _ (by omega)).trans h.r1, ha, h.be.trans (hn.below (by omega))⟩
theorem LInv.drewN {w W : World} {s : ByteArray} {i : Nat} {f g : Nat → Bool} (h : LInv w s i f g W) (n : Nat) : LInv w s i f g (W.drewN n) := ⟨h.r0, h.r1, h.at_.drewN n, below_drewN h.be n⟩
theorem LInv.rise {w W W' : World} {s : ByteArray} {i j : Nat} {f g : Nat → Bool} (h : LInv w s i f g W) (ha : At W' (w.heap.size + 2) s 3 j) (hb : Below (w.heap.size + 2) W W') : LInv w s j f g W' :=
  ⟨(hb.block _ (by omega)).trans h.r0, (hb.block _ (by omega)).trans h.r1, ha, h.be.trans (hb.mono (by omega))⟩
theorem below_cells {B b : Nat} {w W : World} (hb : Below B w W) (hB : B ≤ b) (o : Nat) (vs : List Value) : Below B w (W.setCells b o vs) := by
  obtain ⟨h1, h2, h3, h4⟩ := setCells_same (b := b) vs o W
  exact hb.trans ⟨h1, h2, h3, Nat.le_of_eq h4.symm, fun k hk => setCells_other (by omega) vs o W⟩
theorem below_row {B g : Nat} {w W : World} (hb : Below B w W) (hB : B ≤ g) (cs : Array Value) : Below B w (W.setRow g cs) := hb.trans ⟨rfl, rfl, rfl, by simp, fun k hk => setRow_other _ _ _ _ (by omega)⟩
theorem LInv.put1 {w W : World} {s : ByteArray} {i : Nat} {f g : Nat → Bool} (h : LInv w s i f g W) (x : Nat → Bool) : LInv w s i x g (W.setCells (w.heap.size + 1) 0 (nine x).toList) :=
  ⟨(setCells_other (by omega) _ _ _).trans h.r0, by rw [setCells_blk _ _ _ _ h.r1, put_first], h.at_.of_block (setCells_other (by omega) _ _ _), below_cells h.be (by omega) _ _⟩
theorem LInv.put2 {w W : World} {s : ByteArray} {i : Nat} {f g : Nat → Bool} (h : LInv w s i f g W) (x : Nat → Bool) : LInv w s i f x (W.setCells (w.heap.size + 1) 9 (nine x).toList) :=
  ⟨(setCells_other (by omega) _ _ _).trans h.r0, by rw [setCells_blk _ _ _ _ h.r1, put_second], h.at_.of_block (setCells_other (by omega) _ _ _), below_cells h.be (by omega) _ _⟩

set_option maxRecDepth 100000 in
set_option maxHeartbeats 1600000 in
theorem readRule_any (s : ByteArray) (w : World) (hm : s.size ≤ maxLen) : Calls Tryz.prog 62 #[.string s] w (LawOut s w) := by
  unfold maxLen at hm
  have I0 := LInv.new w s
  by_cases hs : 24 < s.size
  · go_enter Tryz.func62, Tryz.ntmps62
    go_wp2_with (go_at_call 71; refine (giveUp_any _ _ _).mono ?_; rintro e w' ⟨rfl, rfl⟩)
    exact ⟨rfl, lawOut_bad (i := 0) (by simp [ruleR, hs]) ((Below.refl _ _).alloc (Nat.le_refl _) _)⟩
  have hs' : s.size ≤ 24 := by omega
  by_cases hB : pk s 0 = 66
  rotate_left
  · have hB' : (pk s 0 == 66) = false := by simpa using hB
    go_enter Tryz.func62, Tryz.ntmps62
    go_wp2_with (go_at_call_of 87 (Value.int IntKind.u8 66); refine (expect_miss (w.heap.size + 2) s 3 0 66 _ I0.at_ (Nat.zero_le _) (by omega) hB').mono ?_; rintro e w' ⟨rfl, n1⟩)
    exact ⟨rfl, lawOut_bad (i := 0) (by simp [ruleR, hs, hB]) (I0.be.trans (n1.below (by omega)))⟩
  have hl0 := lt_of_pk (s := s) (i := 0) (by omega)
  have hr1 := riseEnd_le s 1 49 (by omega)
  obtain ⟨f1, hf1⟩ : ∃ f1, riseTab s 1 49 = f1 := ⟨_, rfl⟩
  obtain ⟨i1, hi1⟩ : ∃ i1, riseEnd s 1 49 = i1 := ⟨_, rfl⟩
  have hT1 : ∀ b W, At W b s 3 1 → Calls Tryz.prog 88 #[.pointer (some ⟨b, 0, none⟩), .int .u8 49] W fun e w' => e = .returned (.agg (nine f1)) ∧ At w' b s 3 i1 ∧ Below b W w' := fun b W h => by
    have := rising_any b s 3 1 49 W h (by omega) hs' (by omega) (by omega)
    rw [hf1, hi1] at this
    exact this.mono fun e w' ⟨h1, h2, h3, _⟩ => ⟨h1, h2, h3⟩
  rw [hi1] at hr1
  have HR : Hid (ruleR s = if pk s i1 = 47 then (if pk s (i1 + 1) = 83 then (if riseEnd s (i1 + 2) 48 < s.size then .inl (3, riseEnd s (i1 + 2) 48) else .inr (f1, riseTab s (i1 + 2) 48)) else .inl (3, i1 + 1)) else .inl (3, i1)) := by
    show _ = _
    rw [ruleR, if_neg hs, if_pos hB, hf1, hi1]
  clear hf1 hi1
  by_cases hS : pk s i1 = 47
  rotate_left
  · have hS' : (pk s i1 == 47) = false := by simpa using hS
    have HQ : Hid (ruleR s = .inl (3, i1)) := by show _ = _; rw [HR.out, if_neg hS]
    go_enter Tryz.func62, Tryz.ntmps62
    go_wp2_with (first
      | (go_at_call_of 87 (Value.int IntKind.u8 66); refine (expect_hit (w.heap.size + 2) s 3 0 66 _ I0.at_ (Nat.zero_le _) (by omega) hB).mono ?_; rintro e w1 ⟨rfl, h1, n1⟩; have I1 := I0.near h1 n1; clear I0 h1 n1)
      | (go_at_call_of 88 (Value.int IntKind.u8 49); refine (hT1 _ _ I1.at_).mono ?_; rintro e w2 ⟨rfl, h2, b2⟩; have I2 := I1.rise h2 b2; clear I1 h2 b2)
      | (refine wpList_store_mid rfl 67 (Operand.tmp 13) _ rfl (w.heap.size + 1) 0 (nine f1) rfl rfl (row_there I2.r1 (by simp [twoN, nine])) info9 (nine_one _) ?_; have I3 := I2.put1 f1; clear I2)
      | (go_at_call_of 87 (Value.int IntKind.u8 47); refine (expect_miss (w.heap.size + 2) s 3 _ 47 _ I3.at_ (by omega) (by omega) hS').mono ?_; rintro e w4 ⟨rfl, n4⟩))
    exact ⟨rfl, lawOut_bad HQ.out (I3.be.trans (n4.below (by omega)))⟩
  have hl1 := lt_of_pk (s := s) (i := i1) (by omega)
  by_cases hT : pk s (i1 + 1) = 83
  rotate_left
  · have hT' : (pk s (i1 + 1) == 83) = false := by simpa using hT
    have HQ : Hid (ruleR s = .inl (3, i1 + 1)) := by show _ = _; rw [HR.out, if_pos hS, if_neg hT]
    go_enter Tryz.func62, Tryz.ntmps62
    go_wp2_with (first
      | (go_at_call_of 87 (Value.int IntKind.u8 66); refine (expect_hit (w.heap.size + 2) s 3 0 66 _ I0.at_ (Nat.zero_le _) (by omega) hB).mono ?_; rintro e w1 ⟨rfl, h1, n1⟩; have I1 := I0.near h1 n1; clear I0 h1 n1)
      | (go_at_call_of 88 (Value.int IntKind.u8 49); refine (hT1 _ _ I1.at_).mono ?_; rintro e w2 ⟨rfl, h2, b2⟩; have I2 := I1.rise h2 b2; clear I1 h2 b2)
      | (refine wpList_store_mid rfl 67 (Operand.tmp 13) _ rfl (w.heap.size + 1) 0 (nine f1) rfl rfl (row_there I2.r1 (by simp [twoN, nine])) info9 (nine_one _) ?_; have I3 := I2.put1 f1; clear I2)
      | (go_at_call_of 87 (Value.int IntKind.u8 47); refine (expect_hit (w.heap.size + 2) s 3 _ 47 _ I3.at_ (by omega) (by omega) hS).mono ?_; rintro e w4 ⟨rfl, h4, n4⟩; have I4 := I3.near h4 n4; clear I3 h4 n4)
      | (go_at_call_of 87 (Value.int IntKind.u8 83); refine (expect_miss (w.heap.size + 2) s 3 _ 83 _ I4.at_ (by omega) (by omega) hT').mono ?_; rintro e w5 ⟨rfl, n5⟩))
    exact ⟨rfl, lawOut_bad HQ.out (I4.be.trans (n5.below (by omega)))⟩
  have hl2 := lt_of_pk (s := s) (i := i1 + 1) (by omega)
  have hr2 := riseEnd_le s (i1 + 2) 48 (by omega)
  obtain ⟨f2, hf2⟩ : ∃ f2, riseTab s (i1 + 2) 48 = f2 := ⟨_, rfl⟩
  obtain ⟨i2, hi2⟩ : ∃ i2, riseEnd s (i1 + 2) 48 = i2 := ⟨_, rfl⟩
  have hT2 : ∀ b W, At W b s 3 (i1 + 1 + 1) → Calls Tryz.prog 88 #[.pointer (some ⟨b, 0, none⟩), .int .u8 48] W fun e w' => e = .returned (.agg (nine f2)) ∧ At w' b s 3 i2 ∧ Below b W w' := fun b W h => by
    have := rising_any b s 3 (i1 + 2) 48 W h (by omega) hs' (by omega) (by omega)
    rw [hf2, hi2] at this
    exact this.mono fun e w' ⟨h1, h2, h3, _⟩ => ⟨h1, h2, h3⟩
  rw [hi2] at hr2
  rw [hf2, hi2, if_pos hS, if_pos hT] at HR
  clear hf2 hi2
  by_cases hE : i2 < s.size
  · have HQ : Hid (ruleR s = .inl (3, i2)) := by show _ = _; rw [HR.out, if_pos hE]
    go_enter Tryz.func62, Tryz.ntmps62
    go_wp2_with (first
      | (go_at_call_of 87 (Value.int IntKind.u8 66); refine (expect_hit (w.heap.size + 2) s 3 0 66 _ I0.at_ (Nat.zero_le _) (by omega) hB).mono ?_; rintro e w1 ⟨rfl, h1, n1⟩; have I1 := I0.near h1 n1; clear I0 h1 n1)
      | (go_at_call_of 88 (Value.int IntKind.u8 49); refine (hT1 _ _ I1.at_).mono ?_; rintro e w2 ⟨rfl, h2, b2⟩; have I2 := I1.rise h2 b2; clear I1 h2 b2)
      | (refine wpList_store_mid rfl 67 (Operand.tmp 13) _ rfl (w.heap.size + 1) 0 (nine f1) rfl rfl (row_there I2.r1 (by simp [twoN, nine])) info9 (nine_one _) ?_; have I3 := I2.put1 f1; clear I2)
      | (go_at_call_of 87 (Value.int IntKind.u8 47); refine (expect_hit (w.heap.size + 2) s 3 _ 47 _ I3.at_ (by omega) (by omega) hS).mono ?_; rintro e w4 ⟨rfl, h4, n4⟩; have I4 := I3.near h4 n4; clear I3 h4 n4)
      | (go_at_call_of 87 (Value.int IntKind.u8 83); refine (expect_hit (w.heap.size + 2) s 3 _ 83 _ I4.at_ (by omega) (by omega) hT).mono ?_; rintro e w5 ⟨rfl, h5, n5⟩; have I5 := I4.near h5 n5; clear I4 h5 n5)
      | (go_at_call_of 88 (Value.int IntKind.u8 48); refine (hT2 _ _ I5.at_).mono ?_; rintro e w6 ⟨rfl, h6, b6⟩; have I6 := I5.rise h6 b6; clear I5 h6 b6)
      | (refine wpList_store_mid rfl 67 (Operand.tmp 17) _ rfl (w.heap.size + 1) 9 (nine f2) rfl rfl (row_there I6.r1 (by simp [twoN, nine])) info9 (nine_one _) ?_; have I7 := I6.put2 f2; clear I6)
      | (go_at_call 89; refine (expectEnd_miss (w.heap.size + 2) s 3 i2 _ I7.at_ hE (by omega)).mono ?_; rintro e w8 ⟨rfl, n8, rfl⟩))
    exact ⟨rfl, lawOut_bad HQ.out (below_drewN I7.be _)⟩
  · have HQ : Hid (ruleR s = .inr (f1, f2)) := by show _ = _; rw [HR.out, if_neg hE]
    have hE' : i2 = s.size := by omega
    go_enter Tryz.func62, Tryz.ntmps62
    go_wp2_with (first
      | (go_at_call_of 87 (Value.int IntKind.u8 66); refine (expect_hit (w.heap.size + 2) s 3 0 66 _ I0.at_ (Nat.zero_le _) (by omega) hB).mono ?_; rintro e w1 ⟨rfl, h1, n1⟩; have I1 := I0.near h1 n1; clear I0 h1 n1)
      | (go_at_call_of 88 (Value.int IntKind.u8 49); refine (hT1 _ _ I1.at_).mono ?_; rintro e w2 ⟨rfl, h2, b2⟩; have I2 := I1.rise h2 b2; clear I1 h2 b2)
      | (refine wpList_store_mid rfl 67 (Operand.tmp 13) _ rfl (w.heap.size + 1) 0 (nine f1) rfl rfl (row_there I2.r1 (by simp [twoN, nine])) info9 (nine_one _) ?_; have I3 := I2.put1 f1; clear I2)
      | (go_at_call_of 87 (Value.int IntKind.u8 47); refine (expect_hit (w.heap.size + 2) s 3 _ 47 _ I3.at_ (by omega) (by omega) hS).mono ?_; rintro e w4 ⟨rfl, h4, n4⟩; have I4 := I3.near h4 n4; clear I3 h4 n4)
      | (go_at_call_of 87 (Value.int IntKind.u8 83); refine (expect_hit (w.heap.size + 2) s 3 _ 83 _ I4.at_ (by omega) (by omega) hT).mono ?_; rintro e w5 ⟨rfl, h5, n5⟩; have I5 := I4.near h5 n5; clear I4 h5 n5)
      | (go_at_call_of 88 (Value.int IntKind.u8 48); refine (hT2 _ _ I5.at_).mono ?_; rintro e w6 ⟨rfl, h6, b6⟩; have I6 := I5.rise h6 b6; clear I5 h6 b6)
      | (refine wpList_store_mid rfl 67 (Operand.tmp 17) _ rfl (w.heap.size + 1) 9 (nine f2) rfl rfl (row_there I6.r1 (by simp [twoN, nine])) info9 (nine_one _) ?_; have I7 := I6.put2 f2; clear I6)
      | (go_at_call 89; refine (expectEnd_hit (w.heap.size + 2) s 3 i2 _ I7.at_ hE' (by omega)).mono ?_; rintro e w8 ⟨rfl, n8, rfl⟩; have I8 := I7.drewN n8; have x0 := I8.r0; have x1 := I8.r1)
      | (refine wpList_load_row rfl 69 (Operand.tmp 3) rfl (w.heap.size + 1) rfl 69 (twoN f1 f2) (0, 0) _ x1 Tryz.underlying69 rfl info18 ?_)
      | (refine wpList_store_row rfl 69 (Operand.tmp 2) _ rfl w.heap.size (twoN f1 f2) rfl rfl 69 (twoN noD noD) x0 info18 rfl (twoN_one _ _) ?_))
    refine bodyPost_ret (v := .agg (twoN f1 f2)) (results_cell_row rfl _ _ w.heap.size _ (twoN f1 f2) (0, 0) _ rfl (setRow_heap _ _ _ _ _ _ x0) Tryz.underlying69 rfl info18) rfl (lawOut_ok HQ.out ?_)
    exact below_row I8.be (Nat.le_refl _) _
end Go.Proofs.YtiohpcnnpmnjhaaGreatDoor

namespace Go.Proofs.YtiohpcnnpmnjhaaGreatDoor
open Go.RowKit
set_option linter.unusedVariables false

set_option maxRecDepth 100000 in
set_option maxHeartbeats 800000 in
theorem digits_any (s : ByteArray) (i0 : Nat) (lo0 : Int) (w : World) (hi0 : i0 ≤ s.size) (hs : s.size ≤ 24) (hl0 : 48 ≤ lo0) (hl1 : lo0 ≤ 57) :
    Calls Tryz.prog 76 #[.string s, .int .i64 i0, .int .u8 lo0] w fun e w' => e = .returned (.tuple #[.agg (nine (riseTab s i0 lo0)), .int .i64 (riseEnd s i0 lo0)]) ∧ Below w.heap.size w w' := by
  go_enter Tryz.func76, Tryz.ntmps76
  go_wp2
  go_loopw [1, 2] (fun vi vlo wr => ∃ (i : Nat) (lo : Int) (f : Nat → Bool), vi = .int .i64 i ∧ vlo = .int .u8 lo ∧ i ≤ s.size ∧ 48 ≤ lo ∧ lo ≤ 57 ∧ Hid (riseEnd s i lo = riseEnd s i0 lo0) ∧ Hid (riseAt s i lo f = riseTab s i0 lo0) ∧ wr = (w.alloc (.cells (nine fun _ => false) 67)).alloc (.cells (nine f) 67)) (fun _ v _ => (57 - intOf v).toNat)
  case atStart => exact ⟨i0, lo0, fun _ => false, rfl, rfl, hi0, hl0, hl1, rfl, rfl, rfl⟩
  case round =>
    obtain ⟨i, lo, f, rfl, rfl, hi, hl, hl', hr, hf, rfl⟩ := hrel
    have hpb := pk_bd s i
    have stop : (i < s.size → ¬ (lo ≤ pk s i ∧ pk s i ≤ 56)) → Hid (i = riseEnd s i0 lo0) ∧ Hid (f = riseTab s i0 lo0) := fun hn =>
      ⟨(riseEnd_stop (s := s) (i := i) (lo := lo) hn).symm.trans hr.out, (riseAt_stop (s := s) (i := i) (lo := lo) (f := f) hn).symm.trans hf.out⟩
    by_cases hlt : i < s.size
    · have hpk : pk s i = (s[i].toNat : Int) := pk_in hlt
      by_cases h1 : lo ≤ pk s i
      · by_cases h2 : pk s i ≤ 56
        · have h1' : lo ≤ (s[i].toNat : Int) := by omega
          have h2' : (s[i].toNat : Int) ≤ 56 := by omega
          have hst := nine_set f (s[i].toNat - 48) (by omega)
          have hgt := nine_get f (s[i].toNat - 48) (by omega)
          have HR : Hid (riseEnd s (i + 1) ((s[i].toNat : Int) + 1) = riseEnd s i0 lo0) := by
            have := (riseEnd_go hlt h1 h2).symm.trans hr.out
            rw [hpk] at this; exact this
          have HF : Hid (riseAt s (i + 1) ((s[i].toNat : Int) + 1) (fun j => if j = s[i].toNat - 48 then true else f j) = riseTab s i0 lo0) := by
            have := (riseAt_go (f := f) hlt h1 h2).symm.trans hf.out
            rw [hpk, show ((s[i].toNat : Int) - 48).toNat = s[i].toNat - 48 by omega] at this; exact this
          obtain ⟨F2, hF2⟩ : ∃ F2, (fun j => if j = s[i].toNat - 48 then true else f j) = F2 := ⟨_, rfl⟩
          rw [hF2] at hst HF
          clear hpk h1 h2 hpb stop hr hf hF2
          go_wp2
          go_roundw
          case rel => exact ⟨i + 1, (s[i].toNat : Int) + 1, F2, by go_num, rfl, by omega, by omega, by omega, HR, HF, rfl⟩
          case measure => simp [intOf]; omega
        · have h1' : lo ≤ (s[i].toNat : Int) := by omega
          have h2' : ¬ (s[i].toNat : Int) ≤ 56 := by omega
          obtain ⟨HE, HT⟩ := stop (fun _ => by omega)
          clear hpk h1 h2 hpb stop hr hf
          simp only [nine]
          go_wp2
          exact bodyPost_ret (v := .tuple #[.agg (nine f), .int .i64 i]) (by simp [results, Tryz.results76, go_sem, nine]) rfl ⟨by rw [← HE.out, ← HT.out], ((Below.refl _ _).alloc (Nat.le_refl _) _).alloc (by simp) _⟩
      · have h1' : ¬ lo ≤ (s[i].toNat : Int) := by omega
        obtain ⟨HE, HT⟩ := stop (fun _ => by omega)
        clear hpk h1 hpb stop hr hf
        simp only [nine]
        go_wp2
        exact bodyPost_ret (v := .tuple #[.agg (nine f), .int .i64 i]) (by simp [results, Tryz.results76, go_sem, nine]) rfl ⟨by rw [← HE.out, ← HT.out], ((Below.refl _ _).alloc (Nat.le_refl _) _).alloc (by simp) _⟩
    · obtain ⟨HE, HT⟩ := stop (fun h => absurd h hlt)
      clear hpb stop hr hf
      simp only [nine]
      go_wp2
      exact bodyPost_ret (v := .tuple #[.agg (nine f), .int .i64 i]) (by simp [results, Tryz.results76, go_sem, nine]) rfl ⟨by rw [← HE.out, ← HT.out], ((Below.refl _ _).alloc (Nat.le_refl _) _).alloc (by simp) _⟩

end Go.Proofs.YtiohpcnnpmnjhaaGreatDoor

namespace Go.Proofs.YtiohpcnnpmnjhaaGreatDoor
open Go.RowKit
set_option linter.unusedVariables false

theorem info27 : (Tryz.prog.info? 77).map (·.size) = some 18 := by kernel_rfl

/-- What the reference's Rule does. -/
def RefLaw (s : ByteArray) (w : World) (e : Ending) (w' : World) : Prop :=
  Below w.heap.size w w' ∧ match ruleR s with
    | .inl (k, i) => e = .returned (.tuple #[.agg (twoN noD noD), .int .i64 k, .int .i64 (i : Int)])
    | .inr (f, g) => e = .returned (.tuple #[.agg (twoN f g), .int .i64 0, .int .i64 0])
theorem refLaw_bad {s : ByteArray} {w w' : World} {k : Int} {i : Nat} (h : ruleR s = .inl (k, i)) (hb : Below w.heap.size w w') : RefLaw s w (.returned (.tuple #[.agg (twoN noD noD), .int .i64 k, .int .i64 (i : Int)])) w' := by
  unfold RefLaw; rw [h]; exact ⟨hb, rfl⟩
theorem refLaw_ok {s : ByteArray} {w w' : World} {f g : Nat → Bool} (h : ruleR s = .inr (f, g)) (hb : Below w.heap.size w w') : RefLaw s w (.returned (.tuple #[.agg (twoN f g), .int .i64 0, .int .i64 0])) w' := by
  unfold RefLaw; rw [h]; exact ⟨hb, rfl⟩

theorem law_ret {w W : World} {fn : Func} {cs : Array Value} {k i : Int} {s : ByteArray} {a : Act} (hf : fn = Tryz.f49) (hd : a.defers = []) (h2 : a.tmps.getD 2 undef = .pointer (some ⟨w.heap.size, 0, none⟩)) (h3 : a.tmps.getD 3 undef = .int .i64 k) (h4 : a.tmps.getD 4 undef = .int .i64 i)
    (hr : W.heap[w.heap.size]? = some (.cells cs 77 (0, 0))) (hn : cs.size = 18) (ho : RefLaw s w (.returned (.tuple #[.agg cs, .int .i64 k, .int .i64 i])) W) : bodyPost Tryz.prog fn (RefLaw s w) Exit.ret a W := by
  subst hf
  refine ⟨hd, .tuple #[.agg cs, .int .i64 k, .int .i64 i], ?_, ho⟩
  have hl := run_loadVar_row (P := Tryz.prog) W w.heap.size 77 77 cs (0, 0) _ hr Tryz.underlying77 rfl (by rw [hn]; exact info27)
  have h2' : a.tmps[2]?.getD undef = .pointer (some ⟨w.heap.size, 0, none⟩) := by simpa using h2
  have h3' : a.tmps[3]?.getD undef = .int .i64 k := by simpa using h3
  have h4' : a.tmps[4]?.getD undef = .int .i64 i := by simpa using h4
  simp [results, Tryz.results49, h2', h3', h4', asAddr, hl]

/-- The result's place and the life being made. -/
structure XInv (w : World) (c f g : Nat → Bool) (d : Nat → Bool) (W : World) : Prop where
  r0 : W.heap[w.heap.size]? = some (.cells (twoN c d) 77 (0, 0))
  r1 : W.heap[w.heap.size + 1]? = some (.cells (twoN f g) 77 (0, 0))
  be : Below w.heap.size w W
theorem x_two (w : World) : XInv w noD noD noD noD ((w.alloc (.cells Z18 77)).alloc (.cells Z18 77)) := by
  have h2 := blk_new (w.alloc (.cells Z18 77)) (.cells Z18 77)
  rw [World.size_alloc] at h2
  exact ⟨blk_old (blk_new w _) _, h2, ((Below.refl _ _).alloc (Nat.le_refl _) _).alloc (by simp) _⟩
theorem XInv.lt {w W : World} {c f g d : Nat → Bool} (h : XInv w c f g d W) : w.heap.size + 1 < W.heap.size := blk_lt h.r1
theorem XInv.row1 {w W : World} {c f g d : Nat → Bool} (h : XInv w c f g d W) (x y : Nat → Bool) : XInv w c x y d (W.setRow (w.heap.size + 1) (twoN x y)) :=
  ⟨(setRow_other _ _ _ _ (by omega)).trans h.r0, setRow_heap _ _ _ _ _ _ h.r1, below_row h.be (by omega) _⟩
theorem XInv.row0 {w W : World} {c f g d : Nat → Bool} (h : XInv w c f g d W) (x y : Nat → Bool) : XInv w x f g y (W.setRow w.heap.size (twoN x y)) :=
  ⟨setRow_heap _ _ _ _ _ _ h.r0, (setRow_other _ _ _ _ (by omega)).trans h.r1, below_row h.be (Nat.le_refl _) _⟩
theorem XInv.below {w W W' : World} {c f g d : Nat → Bool} (h : XInv w c f g d W) (hb : Below W.heap.size W W') : XInv w c f g d W' :=
  ⟨(hb.block _ (blk_lt h.r0)).trans h.r0, (hb.block _ (blk_lt h.r1)).trans h.r1, h.be.trans (hb.mono h.be.size)⟩
theorem XInv.alloc {w W : World} {c f g d : Nat → Bool} (h : XInv w c f g d W) (o : Obj) : XInv w c f g d (W.alloc o) := h.below ((Below.refl _ _).alloc (Nat.le_refl _) _)
theorem XInv.other {w W : World} {c f g d : Nat → Bool} (h : XInv w c f g d W) {k : Nat} (hk : w.heap.size + 1 < k) (cs : Array Value) : XInv w c f g d (W.setRow k cs) :=
  ⟨(setRow_other _ _ _ _ (by omega)).trans h.r0, (setRow_other _ _ _ _ (by omega)).trans h.r1, below_row h.be (by omega) _⟩
theorem XInv.put1 {w W : World} {c f g d : Nat → Bool} (h : XInv w c f g d W) (x : Nat → Bool) : XInv w c x g d (W.setCells (w.heap.size + 1) 0 (nine x).toList) :=
  ⟨(setCells_other (by omega) _ _ _).trans h.r0, by rw [setCells_blk _ _ _ _ h.r1, put_first], below_cells h.be (by omega) _ _⟩
theorem XInv.put2 {w W : World} {c f g d : Nat → Bool} (h : XInv w c f g d W) (x : Nat → Bool) : XInv w c f x d (W.setCells (w.heap.size + 1) 9 (nine x).toList) :=
  ⟨(setCells_other (by omega) _ _ _).trans h.r0, by rw [setCells_blk _ _ _ _ h.r1, put_second], below_cells h.be (by omega) _ _⟩
theorem z9_new (w : World) : (w.alloc (.cells Z9 67)).heap[w.heap.size]? = some (.cells (nine noD) 67 (0, 0)) := blk_new w _

set_option maxRecDepth 100000 in
set_option maxHeartbeats 1600000 in
theorem refRule_long (s : ByteArray) (w : World) (hm : s.size ≤ 9223372036854775807) (hs : 24 < s.size) (hq : Hid (ruleR s = .inl (1, 0))) :
    Calls Tryz.prog 49 #[.string s] w (RefLaw s w) := by
  have I0 := x_two w
  go_enter Tryz.func49, Tryz.ntmps49
  go_wp2_with (first
    | (refine wpList_store_row rfl 77 (Operand.tmp 5) (Operand.tmp 10) rfl (w.heap.size + 1) (twoN noD noD) rfl rfl 77 (twoN noD noD) I0.r1 info27 rfl (twoN_one _ _) ?_; have I1 := I0.row1 noD noD; clear I0)
    | (refine wpList_load_row rfl 77 (Operand.tmp 5) rfl (w.heap.size + 1) rfl 77 _ (0, 0) _ I1.r1 Tryz.underlying77 rfl info27 ?_)
    | (refine wpList_store_row rfl 77 (Operand.tmp 2) _ rfl w.heap.size (twoN noD noD) rfl rfl 77 (twoN noD noD) I1.r0 info27 rfl (twoN_one _ _) ?_; have IZ := I1.row0 noD noD))
  exact law_ret (cs := twoN noD noD) rfl rfl rfl rfl rfl IZ.r0 rfl (refLaw_bad (i := 0) hq.out IZ.be)

set_option maxRecDepth 100000 in
set_option maxHeartbeats 1600000 in
theorem refRule_none (s : ByteArray) (w : World) (hs : s.size ≤ 24) (h0 : s.size = 0) (hq : Hid (ruleR s = .inl (3, 0))) :
    Calls Tryz.prog 49 #[.string s] w (RefLaw s w) := by
  have I0 := x_two w
  go_enter Tryz.func49, Tryz.ntmps49
  go_wp2_with (first
    | (refine wpList_store_row rfl 77 (Operand.tmp 5) (Operand.tmp 10) rfl (w.heap.size + 1) (twoN noD noD) rfl rfl 77 (twoN noD noD) I0.r1 info27 rfl (twoN_one _ _) ?_; have I1 := I0.row1 noD noD; clear I0)
    | (refine wpList_load_row rfl 77 (Operand.tmp 5) rfl (w.heap.size + 1) rfl 77 _ (0, 0) _ I1.r1 Tryz.underlying77 rfl info27 ?_)
    | (refine wpList_store_row rfl 77 (Operand.tmp 2) _ rfl w.heap.size (twoN noD noD) rfl rfl 77 (twoN noD noD) I1.r0 info27 rfl (twoN_one _ _) ?_; have IZ := I1.row0 noD noD))
  exact law_ret (cs := twoN noD noD) rfl rfl rfl rfl rfl IZ.r0 rfl (refLaw_bad (i := 0) hq.out IZ.be)

set_option maxRecDepth 100000 in
set_option maxHeartbeats 1600000 in
theorem refRule_B (s : ByteArray) (w : World) (hs : s.size ≤ 24) (h0 : 0 < s.size) (hz : ((s.size : Int) == 0) = false) (hB : ((s[0].toNat : Int) != 66) = true) (hq : Hid (ruleR s = .inl (3, 0))) :
    Calls Tryz.prog 49 #[.string s] w (RefLaw s w) := by
  have I0 := x_two w
  go_enter Tryz.func49, Tryz.ntmps49
  go_wp2_with (first
    | (refine wpList_store_row rfl 77 (Operand.tmp 5) (Operand.tmp 10) rfl (w.heap.size + 1) (twoN noD noD) rfl rfl 77 (twoN noD noD) I0.r1 info27 rfl (twoN_one _ _) ?_; have I1 := I0.row1 noD noD; clear I0)
    | (refine wpList_load_row rfl 77 (Operand.tmp 5) rfl (w.heap.size + 1) rfl 77 _ (0, 0) _ I1.r1 Tryz.underlying77 rfl info27 ?_)
    | (refine wpList_store_row rfl 77 (Operand.tmp 2) _ rfl w.heap.size (twoN noD noD) rfl rfl 77 (twoN noD noD) I1.r0 info27 rfl (twoN_one _ _) ?_; have IZ := I1.row0 noD noD))
  exact law_ret (cs := twoN noD noD) rfl rfl rfl rfl rfl IZ.r0 rfl (refLaw_bad (i := 0) hq.out IZ.be)

set_option maxRecDepth 100000 in
set_option maxHeartbeats 1600000 in
theorem refRule_S1 (s : ByteArray) (w : World) (hs : s.size ≤ 24) (h0 : 0 < s.size) (hz : ((s.size : Int) == 0) = false) (hB : ((s[0].toNat : Int) != 66) = false) (f1 : Nat → Bool) (i : Nat) (hi' : i ≤ s.size) (hD1 : ∀ w, Calls Tryz.prog 76 #[.string s, .int .i64 1, .int .u8 49] w fun e w' => e = .returned (.tuple #[.agg (nine f1), .int .i64 (i : Int)]) ∧ Below w.heap.size w w') (hl : s.size ≤ i) (hq : Hid (ruleR s = .inl (3, i))) :
    Calls Tryz.prog 49 #[.string s] w (RefLaw s w) := by
  have I0 := x_two w
  go_enter Tryz.func49, Tryz.ntmps49
  go_wp2_with (first
    | (refine wpList_store_row rfl 77 (Operand.tmp 5) (Operand.tmp 10) rfl (w.heap.size + 1) (twoN noD noD) rfl rfl 77 (twoN noD noD) I0.r1 info27 rfl (twoN_one _ _) ?_; have I1 := I0.row1 noD noD; clear I0)
    | (refine wpList_load_row rfl 77 (Operand.tmp 5) rfl (w.heap.size + 1) rfl 77 _ (0, 0) _ I3.r1 Tryz.underlying77 rfl info27 ?_)
    | (refine wpList_store_row rfl 77 (Operand.tmp 2) _ rfl w.heap.size (twoN noD noD) rfl rfl 77 (twoN noD noD) I3.r0 info27 rfl (twoN_one _ _) ?_; have IZ := I3.row0 noD noD)
    | (go_at_call_of 76 (Value.int IntKind.u8 49); refine (hD1 _).mono ?_; rintro e wd ⟨rfl, bd⟩; have I2 := I1.below bd; clear I1 bd)
    | (refine wpList_store_row rfl 67 (Operand.tmp 6) _ rfl wd.heap.size (nine f1) rfl rfl 67 (nine noD) (z9_new wd) info9 rfl (nine_one f1) ?_; have I3 := (I2.alloc (.cells Z9 67)).other I2.lt (nine f1); have d1 := setRow_heap _ wd.heap.size _ (nine f1) _ _ (z9_new wd); have l1 := I2.lt; clear I2))
  exact law_ret (cs := twoN noD noD) rfl rfl rfl rfl rfl IZ.r0 rfl (refLaw_bad (i := i) hq.out IZ.be)

set_option maxRecDepth 100000 in
set_option maxHeartbeats 1600000 in
theorem refRule_S2 (s : ByteArray) (w : World) (hs : s.size ≤ 24) (h0 : 0 < s.size) (hz : ((s.size : Int) == 0) = false) (hB : ((s[0].toNat : Int) != 66) = false) (f1 : Nat → Bool) (i : Nat) (hi' : i ≤ s.size) (hD1 : ∀ w, Calls Tryz.prog 76 #[.string s, .int .i64 1, .int .u8 49] w fun e w' => e = .returned (.tuple #[.agg (nine f1), .int .i64 (i : Int)]) ∧ Below w.heap.size w w') (hl : i < s.size) (hS : ((s[i].toNat : Int) != 47) = true) (hq : Hid (ruleR s = .inl (3, i))) :
    Calls Tryz.prog 49 #[.string s] w (RefLaw s w) := by
  have I0 := x_two w
  go_enter Tryz.func49, Tryz.ntmps49
  go_wp2_with (first
    | (refine wpList_store_row rfl 77 (Operand.tmp 5) (Operand.tmp 10) rfl (w.heap.size + 1) (twoN noD noD) rfl rfl 77 (twoN noD noD) I0.r1 info27 rfl (twoN_one _ _) ?_; have I1 := I0.row1 noD noD; clear I0)
    | (refine wpList_load_row rfl 77 (Operand.tmp 5) rfl (w.heap.size + 1) rfl 77 _ (0, 0) _ I3.r1 Tryz.underlying77 rfl info27 ?_)
    | (refine wpList_store_row rfl 77 (Operand.tmp 2) _ rfl w.heap.size (twoN noD noD) rfl rfl 77 (twoN noD noD) I3.r0 info27 rfl (twoN_one _ _) ?_; have IZ := I3.row0 noD noD)
    | (go_at_call_of 76 (Value.int IntKind.u8 49); refine (hD1 _).mono ?_; rintro e wd ⟨rfl, bd⟩; have I2 := I1.below bd; clear I1 bd)
    | (refine wpList_store_row rfl 67 (Operand.tmp 6) _ rfl wd.heap.size (nine f1) rfl rfl 67 (nine noD) (z9_new wd) info9 rfl (nine_one f1) ?_; have I3 := (I2.alloc (.cells Z9 67)).other I2.lt (nine f1); have d1 := setRow_heap _ wd.heap.size _ (nine f1) _ _ (z9_new wd); have l1 := I2.lt; clear I2))
  exact law_ret (cs := twoN noD noD) rfl rfl rfl rfl rfl IZ.r0 rfl (refLaw_bad (i := i) hq.out IZ.be)

set_option maxRecDepth 100000 in
set_option maxHeartbeats 1600000 in
theorem refRule_T1 (s : ByteArray) (w : World) (hs : s.size ≤ 24) (h0 : 0 < s.size) (hz : ((s.size : Int) == 0) = false) (hB : ((s[0].toNat : Int) != 66) = false) (f1 : Nat → Bool) (i : Nat) (hi' : i ≤ s.size) (hD1 : ∀ w, Calls Tryz.prog 76 #[.string s, .int .i64 1, .int .u8 49] w fun e w' => e = .returned (.tuple #[.agg (nine f1), .int .i64 (i : Int)]) ∧ Below w.heap.size w w') (hl : i < s.size) (hS : ((s[i].toNat : Int) != 47) = false) (hl2 : s.size ≤ i + 1) (hq : Hid (ruleR s = .inl (3, i + 1))) :
    Calls Tryz.prog 49 #[.string s] w (RefLaw s w) := by
  have I0 := x_two w
  go_enter Tryz.func49, Tryz.ntmps49
  go_wp2_with (first
    | (refine wpList_store_row rfl 77 (Operand.tmp 5) (Operand.tmp 10) rfl (w.heap.size + 1) (twoN noD noD) rfl rfl 77 (twoN noD noD) I0.r1 info27 rfl (twoN_one _ _) ?_; have I1 := I0.row1 noD noD; clear I0)
    | (refine wpList_load_row rfl 77 (Operand.tmp 5) rfl (w.heap.size + 1) rfl 77 _ (0, 0) _ I3.r1 Tryz.underlying77 rfl info27 ?_)
    | (refine wpList_store_row rfl 77 (Operand.tmp 2) _ rfl w.heap.size (twoN noD noD) rfl rfl 77 (twoN noD noD) I3.r0 info27 rfl (twoN_one _ _) ?_; have IZ := I3.row0 noD noD)
    | (go_at_call_of 76 (Value.int IntKind.u8 49); refine (hD1 _).mono ?_; rintro e wd ⟨rfl, bd⟩; have I2 := I1.below bd; clear I1 bd)
    | (refine wpList_store_row rfl 67 (Operand.tmp 6) _ rfl wd.heap.size (nine f1) rfl rfl 67 (nine noD) (z9_new wd) info9 rfl (nine_one f1) ?_; have I3 := (I2.alloc (.cells Z9 67)).other I2.lt (nine f1); have d1 := setRow_heap _ wd.heap.size _ (nine f1) _ _ (z9_new wd); have l1 := I2.lt; clear I2))
  exact law_ret (cs := twoN noD noD) rfl rfl rfl rfl rfl IZ.r0 rfl (refLaw_bad (i := i + 1) hq.out IZ.be)

set_option maxRecDepth 100000 in
set_option maxHeartbeats 1600000 in
theorem refRule_T2 (s : ByteArray) (w : World) (hs : s.size ≤ 24) (h0 : 0 < s.size) (hz : ((s.size : Int) == 0) = false) (hB : ((s[0].toNat : Int) != 66) = false) (f1 : Nat → Bool) (i : Nat) (hi' : i ≤ s.size) (hD1 : ∀ w, Calls Tryz.prog 76 #[.string s, .int .i64 1, .int .u8 49] w fun e w' => e = .returned (.tuple #[.agg (nine f1), .int .i64 (i : Int)]) ∧ Below w.heap.size w w') (hl : i < s.size) (hS : ((s[i].toNat : Int) != 47) = false) (hl2 : i + 1 < s.size) (hT : ((s[i + 1].toNat : Int) != 83) = true) (hq : Hid (ruleR s = .inl (3, i + 1))) :
    Calls Tryz.prog 49 #[.string s] w (RefLaw s w) := by
  have I0 := x_two w
  go_enter Tryz.func49, Tryz.ntmps49
  go_wp2_with (first
    | (refine wpList_store_row rfl 77 (Operand.tmp 5) (Operand.tmp 10) rfl (w.heap.size + 1) (twoN noD noD) rfl rfl 77 (twoN noD noD) I0.r1 info27 rfl (twoN_one _ _) ?_; have I1 := I0.row1 noD noD; clear I0)
    | (refine wpList_load_row rfl 77 (Operand.tmp 5) rfl (w.heap.size + 1) rfl 77 _ (0, 0) _ I3.r1 Tryz.underlying77 rfl info27 ?_)
    | (refine wpList_store_row rfl 77 (Operand.tmp 2) _ rfl w.heap.size (twoN noD noD) rfl rfl 77 (twoN noD noD) I3.r0 info27 rfl (twoN_one _ _) ?_; have IZ := I3.row0 noD noD)
    | (go_at_call_of 76 (Value.int IntKind.u8 49); refine (hD1 _).mono ?_; rintro e wd ⟨rfl, bd⟩; have I2 := I1.below bd; clear I1 bd)
    | (refine wpList_store_row rfl 67 (Operand.tmp 6) _ rfl wd.heap.size (nine f1) rfl rfl 67 (nine noD) (z9_new wd) info9 rfl (nine_one f1) ?_; have I3 := (I2.alloc (.cells Z9 67)).other I2.lt (nine f1); have d1 := setRow_heap _ wd.heap.size _ (nine f1) _ _ (z9_new wd); have l1 := I2.lt; clear I2))
  exact law_ret (cs := twoN noD noD) rfl rfl rfl rfl rfl IZ.r0 rfl (refLaw_bad (i := i + 1) hq.out IZ.be)

set_option maxRecDepth 100000 in
set_option maxHeartbeats 1600000 in
theorem refRule_E (s : ByteArray) (w : World) (hs : s.size ≤ 24) (h0 : 0 < s.size) (hz : ((s.size : Int) == 0) = false) (hB : ((s[0].toNat : Int) != 66) = false) (f1 : Nat → Bool) (i : Nat) (hi' : i ≤ s.size) (hD1 : ∀ w, Calls Tryz.prog 76 #[.string s, .int .i64 1, .int .u8 49] w fun e w' => e = .returned (.tuple #[.agg (nine f1), .int .i64 (i : Int)]) ∧ Below w.heap.size w w') (hl : i < s.size) (hS : ((s[i].toNat : Int) != 47) = false) (hl2 : i + 1 < s.size) (hT : ((s[i + 1].toNat : Int) != 83) = false) (f2 : Nat → Bool) (j : Nat) (hj : j ≤ s.size) (hD2 : ∀ w, Calls Tryz.prog 76 #[.string s, .int .i64 ((i : Int) + 2), .int .u8 48] w fun e w' => e = .returned (.tuple #[.agg (nine f2), .int .i64 (j : Int)]) ∧ Below w.heap.size w w') (hl3 : j < s.size) (hq : Hid (ruleR s = .inl (3, j))) :
    Calls Tryz.prog 49 #[.string s] w (RefLaw s w) := by
  have I0 := x_two w
  go_enter Tryz.func49, Tryz.ntmps49
  go_wp2_with (first
    | (refine wpList_store_row rfl 77 (Operand.tmp 5) (Operand.tmp 10) rfl (w.heap.size + 1) (twoN noD noD) rfl rfl 77 (twoN noD noD) I0.r1 info27 rfl (twoN_one _ _) ?_; have I1 := I0.row1 noD noD; clear I0)
    | (refine wpList_load_row rfl 77 (Operand.tmp 5) rfl (w.heap.size + 1) rfl 77 _ (0, 0) _ I5.r1 Tryz.underlying77 rfl info27 ?_)
    | (refine wpList_store_row rfl 77 (Operand.tmp 2) _ rfl w.heap.size (twoN noD noD) rfl rfl 77 (twoN noD noD) I5.r0 info27 rfl (twoN_one _ _) ?_; have IZ := I5.row0 noD noD)
    | (go_at_call_of 76 (Value.int IntKind.u8 49); refine (hD1 _).mono ?_; rintro e wd ⟨rfl, bd⟩; have I2 := I1.below bd; clear I1 bd)
    | (refine wpList_store_row rfl 67 (Operand.tmp 6) _ rfl wd.heap.size (nine f1) rfl rfl 67 (nine noD) (z9_new wd) info9 rfl (nine_one f1) ?_; have I3 := (I2.alloc (.cells Z9 67)).other I2.lt (nine f1); have d1 := setRow_heap _ wd.heap.size _ (nine f1) _ _ (z9_new wd); have l1 := I2.lt; clear I2)
    | (go_at_call_of 76 (Value.int IntKind.u8 48); refine (hD2 _).mono ?_; rintro e we ⟨rfl, be⟩; have I4 := I3.below be; have d2 := (be.block _ (blk_lt d1)).trans d1; clear I3 be d1)
    | (refine wpList_store_row rfl 67 (Operand.tmp 8) _ rfl we.heap.size (nine f2) rfl rfl 67 (nine noD) (z9_new we) info9 rfl (nine_one f2) ?_; have I5 := (I4.alloc (.cells Z9 67)).other I4.lt (nine f2); have d3 := (setRow_other _ we.heap.size _ (nine f2) (Nat.ne_of_lt (blk_lt d2))).trans (blk_old d2 (.cells Z9 67)); have e1 := setRow_heap _ we.heap.size _ (nine f2) _ _ (z9_new we); have l2 := I4.lt; obtain ⟨W5, hW5⟩ : ∃ W5, (we.alloc (.cells Z9 67)).setRow we.heap.size (nine f2) = W5 := ⟨_, rfl⟩; rw [hW5] at I5 d3 e1; rw [hW5]; clear hW5 I4 d2))
  exact law_ret (cs := twoN noD noD) rfl rfl rfl rfl rfl IZ.r0 rfl (refLaw_bad (i := j) hq.out IZ.be)

set_option maxRecDepth 100000 in
set_option maxHeartbeats 1600000 in
theorem refRule_OK (s : ByteArray) (w : World) (hs : s.size ≤ 24) (h0 : 0 < s.size) (hz : ((s.size : Int) == 0) = false) (hB : ((s[0].toNat : Int) != 66) = false) (f1 : Nat → Bool) (i : Nat) (hi' : i ≤ s.size) (hD1 : ∀ w, Calls Tryz.prog 76 #[.string s, .int .i64 1, .int .u8 49] w fun e w' => e = .returned (.tuple #[.agg (nine f1), .int .i64 (i : Int)]) ∧ Below w.heap.size w w') (hl : i < s.size) (hS : ((s[i].toNat : Int) != 47) = false) (hl2 : i + 1 < s.size) (hT : ((s[i + 1].toNat : Int) != 83) = false) (f2 : Nat → Bool) (j : Nat) (hj : j ≤ s.size) (hD2 : ∀ w, Calls Tryz.prog 76 #[.string s, .int .i64 ((i : Int) + 2), .int .u8 48] w fun e w' => e = .returned (.tuple #[.agg (nine f2), .int .i64 (j : Int)]) ∧ Below w.heap.size w w') (hl3 : s.size ≤ j) (hq : Hid (ruleR s = .inr (f1, f2))) :
    Calls Tryz.prog 49 #[.string s] w (RefLaw s w) := by
  have I0 := x_two w
  go_enter Tryz.func49, Tryz.ntmps49
  go_wp2_with (first
    | (refine wpList_store_row rfl 77 (Operand.tmp 5) (Operand.tmp 10) rfl (w.heap.size + 1) (twoN noD noD) rfl rfl 77 (twoN noD noD) I0.r1 info27 rfl (twoN_one _ _) ?_; have I1 := I0.row1 noD noD; clear I0)
    | (go_at_call_of 76 (Value.int IntKind.u8 49); refine (hD1 _).mono ?_; rintro e wd ⟨rfl, bd⟩; have I2 := I1.below bd; clear I1 bd)
    | (refine wpList_store_row rfl 67 (Operand.tmp 6) _ rfl wd.heap.size (nine f1) rfl rfl 67 (nine noD) (z9_new wd) info9 rfl (nine_one f1) ?_; have I3 := (I2.alloc (.cells Z9 67)).other I2.lt (nine f1); have d1 := setRow_heap _ wd.heap.size _ (nine f1) _ _ (z9_new wd); have l1 := I2.lt; clear I2)
    | (go_at_call_of 76 (Value.int IntKind.u8 48); refine (hD2 _).mono ?_; rintro e we ⟨rfl, be⟩; have I4 := I3.below be; have d2 := (be.block _ (blk_lt d1)).trans d1; clear I3 be d1)
    | (refine wpList_store_row rfl 67 (Operand.tmp 8) _ rfl we.heap.size (nine f2) rfl rfl 67 (nine noD) (z9_new we) info9 rfl (nine_one f2) ?_; have I5 := (I4.alloc (.cells Z9 67)).other I4.lt (nine f2); have d3 := (setRow_other _ we.heap.size _ (nine f2) (Nat.ne_of_lt (blk_lt d2))).trans (blk_old d2 (.cells Z9 67)); have e1 := setRow_heap _ we.heap.size _ (nine f2) _ _ (z9_new we); have l2 := I4.lt; obtain ⟨W5, hW5⟩ : ∃ W5, (we.alloc (.cells Z9 67)).setRow we.heap.size (nine f2) = W5 := ⟨_, rfl⟩; rw [hW5] at I5 d3 e1; rw [hW5]; clear hW5 I4 d2)
    | (refine wpList_load_row rfl 67 (Operand.tmp 6) rfl wd.heap.size rfl 67 (nine f1) (0, 0) _ d3 Tryz.underlying67 rfl info9 ?_)
    | (refine wpList_store_mid rfl 67 (Operand.tmp 70) _ rfl (w.heap.size + 1) 0 (nine f1) rfl rfl (row_there I5.r1 (by simp [twoN, nine])) info9 (nine_one _) ?_; have I6 := I5.put1 f1; have e2 := (setCells_other (b := w.heap.size + 1) (by omega) (nine f1).toList 0 _).trans e1; obtain ⟨W6, hW6⟩ : ∃ W6, W5.setCells (w.heap.size + 1) 0 (nine f1).toList = W6 := ⟨_, rfl⟩; rw [hW6] at I6 e2; rw [hW6]; clear hW6 I5 e1)
    | (refine wpList_load_row rfl 67 (Operand.tmp 8) rfl we.heap.size rfl 67 (nine f2) (0, 0) _ e2 Tryz.underlying67 rfl info9 ?_)
    | (refine wpList_store_mid rfl 67 (Operand.tmp 72) _ rfl (w.heap.size + 1) 9 (nine f2) rfl rfl (row_there I6.r1 (by simp [twoN, nine])) info9 (nine_one _) ?_; have I7 := I6.put2 f2; obtain ⟨W7, hW7⟩ : ∃ W7, W6.setCells (w.heap.size + 1) 9 (nine f2).toList = W7 := ⟨_, rfl⟩; rw [hW7] at I7; rw [hW7]; clear hW7 I6 e2)
    | (refine wpList_load_row rfl 77 (Operand.tmp 5) rfl (w.heap.size + 1) rfl 77 _ (0, 0) _ I7.r1 Tryz.underlying77 rfl info27 ?_)
    | (refine wpList_store_row rfl 77 (Operand.tmp 2) _ rfl w.heap.size (twoN f1 f2) rfl rfl 77 (twoN noD noD) I7.r0 info27 rfl (twoN_one _ _) ?_; have IZ := I7.row0 f1 f2))
  exact law_ret (cs := twoN f1 f2) rfl rfl rfl rfl rfl IZ.r0 rfl (refLaw_ok hq.out IZ.be)

end Go.Proofs.YtiohpcnnpmnjhaaGreatDoor

namespace Go.Proofs.YtiohpcnnpmnjhaaGreatDoor
open Go.RowKit
set_option linter.unusedVariables false

theorem refRule_any (s : ByteArray) (w : World) (hm : s.size ≤ maxLen) : Calls Tryz.prog 49 #[.string s] w (RefLaw s w) := by
  unfold maxLen at hm
  by_cases hs : 24 < s.size
  · exact refRule_long s w hm hs (by show _ = _; simp [ruleR, hs])
  have hs' : s.size ≤ 24 := by omega
  by_cases h0 : s.size = 0
  · have hp : pk s 0 = 0 := pk_out (by omega)
    exact refRule_none s w hs' h0 (by show _ = _; simp [ruleR, hs, hp])
  have h0' : 0 < s.size := by omega
  have hz : ((s.size : Int) == 0) = false := by have : ¬ (s.size : Int) = 0 := by omega
                                                simpa using this
  have hp0 := pk_in h0'
  by_cases hB : pk s 0 = 66
  rotate_left
  · exact refRule_B s w hs' h0' hz (by rw [← hp0]; simpa using hB) (by show _ = _; simp [ruleR, hs, hB])
  have hB' : ((s[0].toNat : Int) != 66) = false := by rw [← hp0]; simpa using hB
  have hr1 := riseEnd_le s 1 49 (by omega)
  have hD1 := fun w => digits_any s 1 49 w (by omega) hs' (by omega) (by omega)
  obtain ⟨f1, hf1⟩ : ∃ f1, riseTab s 1 49 = f1 := ⟨_, rfl⟩
  obtain ⟨i, hi⟩ : ∃ i, riseEnd s 1 49 = i := ⟨_, rfl⟩
  rw [hi] at hr1
  simp only [hi, hf1] at hD1
  have HR : ruleR s = if pk s i = 47 then (if pk s (i + 1) = 83 then (if riseEnd s (i + 2) 48 < s.size then .inl (3, riseEnd s (i + 2) 48) else .inr (f1, riseTab s (i + 2) 48)) else .inl (3, i + 1)) else .inl (3, i) := by
    rw [ruleR, if_neg hs, if_pos hB, hf1, hi]
  by_cases hl : i < s.size
  rotate_left
  · have hp : pk s i = 0 := pk_out hl
    exact refRule_S1 s w hs' h0' hz hB' f1 i hr1.2 hD1 (by omega) (by show _ = _; rw [HR, if_neg (by omega)])
  have hp1 := pk_in hl
  by_cases hS : pk s i = 47
  rotate_left
  · exact refRule_S2 s w hs' h0' hz hB' f1 i hr1.2 hD1 hl (by rw [← hp1]; simpa using hS) (by show _ = _; rw [HR, if_neg hS])
  have hS' : ((s[i].toNat : Int) != 47) = false := by rw [← hp1]; simpa using hS
  rw [if_pos hS] at HR
  by_cases hl2 : i + 1 < s.size
  rotate_left
  · have hp : pk s (i + 1) = 0 := pk_out hl2
    exact refRule_T1 s w hs' h0' hz hB' f1 i hr1.2 hD1 hl hS' (by omega) (by show _ = _; rw [HR, if_neg (by omega)])
  have hp2 := pk_in hl2
  by_cases hT : pk s (i + 1) = 83
  rotate_left
  · exact refRule_T2 s w hs' h0' hz hB' f1 i hr1.2 hD1 hl hS' hl2 (by rw [← hp2]; simpa using hT) (by show _ = _; rw [HR, if_neg hT])
  have hT' : ((s[i + 1].toNat : Int) != 83) = false := by rw [← hp2]; simpa using hT
  rw [if_pos hT] at HR
  have hr2 := riseEnd_le s (i + 2) 48 (by omega)
  have hD2 := fun w => digits_any s (i + 2) 48 w (by omega) hs' (by omega) (by omega)
  obtain ⟨f2, hf2⟩ : ∃ f2, riseTab s (i + 2) 48 = f2 := ⟨_, rfl⟩
  obtain ⟨j, hj⟩ : ∃ j, riseEnd s (i + 2) 48 = j := ⟨_, rfl⟩
  rw [hj] at hr2
  rw [hj, hf2] at HR
  simp only [hj, hf2] at hD2
  have hD2' : ∀ w, Calls Tryz.prog 76 #[.string s, .int .i64 ((i : Int) + 2), .int .u8 48] w fun e w' => e = .returned (.tuple #[.agg (nine f2), .int .i64 (j : Int)]) ∧ Below w.heap.size w w' := hD2
  by_cases hl3 : j < s.size
  · exact refRule_E s w hs' h0' hz hB' f1 i hr1.2 hD1 hl hS' hl2 hT' f2 j hr2.2 hD2' hl3 (by show _ = _; rw [HR, if_pos hl3])
  · exact refRule_OK s w hs' h0' hz hB' f1 i hr1.2 hD1 hl hS' hl2 hT' f2 j hr2.2 hD2' (by omega) (by show _ = _; rw [HR, if_neg hl3])

theorem num_any (k : Int) (w : World) : Calls Tryz.prog 14 #[.int .i64 k] w fun e w' => e = .returned (.int .i64 k) ∧ w' = w := by
  go_enter Tryz.func14, Tryz.ntmps14
  go_wp2
  go_ret
  exact ⟨rfl, rfl⟩

theorem z18_new (w : World) : (w.alloc (.cells Z18 77)).heap[w.heap.size]? = some (.cells (twoN noD noD) 77 (0, 0)) := blk_new w _

end Go.Proofs.YtiohpcnnpmnjhaaGreatDoor
