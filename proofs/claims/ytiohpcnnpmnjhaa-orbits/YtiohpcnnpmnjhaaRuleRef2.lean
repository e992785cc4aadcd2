import Derived.Test.YtiohpcnnpmnjhaaRuleRef
namespace Go.Proofs.Ytiohpcnnpmnjhaa
open Go.RowKit
set_option linter.unusedVariables false

theorem info27 : (Try.prog.info? 27).map (·.size) = some 18 := by kernel_rfl

/-- What the reference's Rule does. -/
def RefLaw (s : ByteArray) (w : World) (e : Ending) (w' : World) : Prop :=
  Below w.heap.size w w' ∧ match ruleR s with
    | .inl (k, i) => e = .returned (.tuple #[.agg (twoN noD noD), .int .i64 k, .int .i64 (i : Int)])
    | .inr (f, g) => e = .returned (.tuple #[.agg (twoN f g), .int .i64 0, .int .i64 0])
theorem refLaw_bad {s : ByteArray} {w w' : World} {k : Int} {i : Nat} (h : ruleR s = .inl (k, i)) (hb : Below w.heap.size w w') : RefLaw s w (.returned (.tuple #[.agg (twoN noD noD), .int .i64 k, .int .i64 (i : Int)])) w' := by
  unfold RefLaw; rw [h]; exact ⟨hb, rfl⟩
theorem refLaw_ok {s : ByteArray} {w w' : World} {f g : Nat → Bool} (h : ruleR s = .inr (f, g)) (hb : Below w.heap.size w w') : RefLaw s w (.returned (.tuple #[.agg (twoN f g), .int .i64 0, .int .i64 0])) w' := by
  unfold RefLaw; rw [h]; exact ⟨hb, rfl⟩

theorem law_ret {w W : World} {fn : Func} {cs : Array Value} {k i : Int} {s : ByteArray} {a : Act} (hf : fn = Try.f6) (hd : a.defers = []) (h2 : a.tmps.getD 2 undef = .pointer (some ⟨w.heap.size, 0, none⟩)) (h3 : a.tmps.getD 3 undef = .int .i64 k) (h4 : a.tmps.getD 4 undef = .int .i64 i)
    (hr : W.heap[w.heap.size]? = some (.cells cs 27 (0, 0))) (hn : cs.size = 18) (ho : RefLaw s w (.returned (.tuple #[.agg cs, .int .i64 k, .int .i64 i])) W) : bodyPost Try.prog fn (RefLaw s w) Exit.ret a W := by
  subst hf
  refine ⟨hd, .tuple #[.agg cs, .int .i64 k, .int .i64 i], ?_, ho⟩
  have hl := run_loadVar_row (P := Try.prog) W w.heap.size 27 27 cs (0, 0) _ hr Try.underlying27 rfl (by rw [hn]; exact info27)
  have h2' : a.tmps[2]?.getD undef = .pointer (some ⟨w.heap.size, 0, none⟩) := by simpa using h2
  have h3' : a.tmps[3]?.getD undef = .int .i64 k := by simpa using h3
  have h4' : a.tmps[4]?.getD undef = .int .i64 i := by simpa using h4
  simp [results, Try.results6, h2', h3', h4', asAddr, hl]

/-- The result's place and the life being made. -/
structure XInv (w : World) (c f g : Nat → Bool) (d : Nat → Bool) (W : World) : Prop where
  r0 : W.heap[w.heap.size]? = some (.cells (twoN c d) 27 (0, 0))
  r1 : W.heap[w.heap.size + 1]? = some (.cells (twoN f g) 27 (0, 0))
  be : Below w.heap.size w W
theorem x_two (w : World) : XInv w noD noD noD noD ((w.alloc (.cells Z18 27)).alloc (.cells Z18 27)) := by
  have h2 := blk_new (w.alloc (.cells Z18 27)) (.cells Z18 27)
  rw [World.size_alloc] at h2
  exact ⟨blk_old (blk_new w _) _, h2, ((Below.refl _ _).alloc (Nat.le_refl _) _).alloc (by simp) _⟩
theorem XInv.lt {w W : World} {c f g d : Nat → Bool} (h : XInv w c f g d W) : w.heap.size + 1 < W.heap.size := blk_lt h.r1
theorem XInv.row1 {w W : World} {c f g d : Nat → Bool} (h : XInv w c f g d W) (x y : Nat → Bool) : XInv w c x y d (W.setRow (w.heap.size + 1) (twoN x y)) :=
  ⟨(setRow_other _ _ _ _ (by omega)).trans h.r0, setRow_heap _ _ _ _ _ _ h.r1, below_row h.be (by omega) _⟩
theorem XInv.row0 {w W : World} {c f g d : Nat → Bool} (h : XInv w c f g d W) (x y : Nat → Bool) : XInv w x f g y (W.setRow w.heap.size (twoN x y)) :=
  ⟨setRow_heap _ _ _ _ _ _ h.r0, (setRow_other _ _ _ _ (by omega)).trans h.r1, below_row h.be (Nat.le_refl _) _⟩
theorem XInv.below {w W W' : World} {c f g d : Nat → Bool} (h : XInv w c f g d W) (hb : Below W.heap.size W W') : XInv w c f g d W' :=
  ⟨(hb.block _ (blk_lt h.r0)).trans h.r0, (hb.block _ (blk_lt h.r1)).trans h.r1, h.be.trans (hb.mono h.be.size)⟩
theorem XInv.alloc {w W : World} {c f g d : Nat → Bool} (h : XInv w c f g d W) (o : Obj) : XInv w c f g d (W.alloc o) := h.below ((Below.refl _ _).alloc (Nat.le_refl _) _)
theorem XInv.other {w W : World} {c f g d : Nat → Bool} (h : XInv w c f g d W) {k : Nat} (hk : w.heap.size + 1 < k) (cs : Array Value) : XInv w c f g d (W.setRow k cs) :=
  ⟨(setRow_other _ _ _ _ (by omega)).trans h.r0, (setRow_other _ _ _ _ (by omega)).trans h.r1, below_row h.be (by omega) _⟩
theorem XInv.put1 {w W : World} {c f g d : Nat → Bool} (h : XInv w c f g d W) (x : Nat → Bool) : XInv w c x g d (W.setCells (w.heap.size + 1) 0 (nine x).toList) :=
  ⟨(setCells_other (by omega) _ _ _).trans h.r0, by rw [setCells_blk _ _ _ _ h.r1, put_first], below_cells h.be (by omega) _ _⟩
theorem XInv.put2 {w W : World} {c f g d : Nat → Bool} (h : XInv w c f g d W) (x : Nat → Bool) : XInv w c f x d (W.setCells (w.heap.size + 1) 9 (nine x).toList) :=
  ⟨(setCells_other (by omega) _ _ _).trans h.r0, by rw [setCells_blk _ _ _ _ h.r1, put_second], below_cells h.be (by omega) _ _⟩
theorem z9_new (w : World) : (w.alloc (.cells Z9 25)).heap[w.heap.size]? = some (.cells (nine noD) 25 (0, 0)) := blk_new w _

set_option maxRecDepth 100000 in
set_option maxHeartbeats 1600000 in
theorem refRule_long (s : ByteArray) (w : World) (hm : s.size ≤ 9223372036854775807) (hs : 24 < s.size) (hq : Hid (ruleR s = .inl (1, 0))) :
    Calls Try.prog 6 #[.string s] w (RefLaw s w) := by
  have I0 := x_two w
  go_enter Try.func6, Try.ntmps6
  go_wp2_with (first
    | (refine wpList_store_row rfl 27 (Operand.tmp 5) (Operand.tmp 10) rfl (w.heap.size + 1) (twoN noD noD) rfl rfl 27 (twoN noD noD) I0.r1 info27 rfl (twoN_one _ _) ?_; have I1 := I0.row1 noD noD; clear I0)
    | (refine wpList_load_row rfl 27 (Operand.tmp 5) rfl (w.heap.size + 1) rfl 27 _ (0, 0) _ I1.r1 Try.underlying27 rfl info27 ?_)
    | (refine wpList_store_row rfl 27 (Operand.tmp 2) _ rfl w.heap.size (twoN noD noD) rfl rfl 27 (twoN noD noD) I1.r0 info27 rfl (twoN_one _ _) ?_; have IZ := I1.row0 noD noD))
  exact law_ret (cs := twoN noD noD) rfl rfl rfl rfl rfl IZ.r0 rfl (refLaw_bad (i := 0) hq.out IZ.be)

set_option maxRecDepth 100000 in
set_option maxHeartbeats 1600000 in
theorem refRule_none (s : ByteArray) (w : World) (hs : s.size ≤ 24) (h0 : s.size = 0) (hq : Hid (ruleR s = .inl (3, 0))) :
    Calls Try.prog 6 #[.string s] w (RefLaw s w) := by
  have I0 := x_two w
  go_enter Try.func6, Try.ntmps6
  go_wp2_with (first
    | (refine wpList_store_row rfl 27 (Operand.tmp 5) (Operand.tmp 10) rfl (w.heap.size + 1) (twoN noD noD) rfl rfl 27 (twoN noD noD) I0.r1 info27 rfl (twoN_one _ _) ?_; have I1 := I0.row1 noD noD; clear I0)
    | (refine wpList_load_row rfl 27 (Operand.tmp 5) rfl (w.heap.size + 1) rfl 27 _ (0, 0) _ I1.r1 Try.underlying27 rfl info27 ?_)
    | (refine wpList_store_row rfl 27 (Operand.tmp 2) _ rfl w.heap.size (twoN noD noD) rfl rfl 27 (twoN noD noD) I1.r0 info27 rfl (twoN_one _ _) ?_; have IZ := I1.row0 noD noD))
  exact law_ret (cs := twoN noD noD) rfl rfl rfl rfl rfl IZ.r0 rfl (refLaw_bad (i := 0) hq.out IZ.be)

set_option maxRecDepth 100000 in
set_option maxHeartbeats 1600000 in
theorem refRule_B (s : ByteArray) (w : World) (hs : s.size ≤ 24) (h0 : 0 < s.size) (hz : ((s.size : Int) == 0) = false) (hB : ((s[0].toNat : Int) != 66) = true) (hq : Hid (ruleR s = .inl (3, 0))) :
    Calls Try.prog 6 #[.string s] w (RefLaw s w) := by
  have I0 := x_two w
  go_enter Try.func6, Try.ntmps6
  go_wp2_with (first
    | (refine wpList_store_row rfl 27 (Operand.tmp 5) (Operand.tmp 10) rfl (w.heap.size + 1) (twoN noD noD) rfl rfl 27 (twoN noD noD) I0.r1 info27 rfl (twoN_one _ _) ?_; have I1 := I0.row1 noD noD; clear I0)
    | (refine wpList_load_row rfl 27 (Operand.tmp 5) rfl (w.heap.size + 1) rfl 27 _ (0, 0) _ I1.r1 Try.underlying27 rfl info27 ?_)
    | (refine wpList_store_row rfl 27 (Operand.tmp 2) _ rfl w.heap.size (twoN noD noD) rfl rfl 27 (twoN noD noD) I1.r0 info27 rfl (twoN_one _ _) ?_; have IZ := I1.row0 noD noD))
  exact law_ret (cs := twoN noD noD) rfl rfl rfl rfl rfl IZ.r0 rfl (refLaw_bad (i := 0) hq.out IZ.be)

set_option maxRecDepth 100000 in
set_option maxHeartbeats 1600000 in
theorem refRule_S1 (s : ByteArray) (w : World) (hs : s.size ≤ 24) (h0 : 0 < s.size) (hz : ((s.size : Int) == 0) = false) (hB : ((s[0].toNat : Int) != 66) = false) (f1 : Nat → Bool) (i : Nat) (hi' : i ≤ s.size) (hD1 : ∀ w, Calls Try.prog 14 #[.string s, .int .i64 1, .int .u8 49] w fun e w' => e = .returned (.tuple #[.agg (nine f1), .int .i64 (i : Int)]) ∧ Below w.heap.size w w') (hl : s.size ≤ i) (hq : Hid (ruleR s = .inl (3, i))) :
    Calls Try.prog 6 #[.string s] w (RefLaw s w) := by
  have I0 := x_two w
  go_enter Try.func6, Try.ntmps6
  go_wp2_with (first
    | (refine wpList_store_row rfl 27 (Operand.tmp 5) (Operand.tmp 10) rfl (w.heap.size + 1) (twoN noD noD) rfl rfl 27 (twoN noD noD) I0.r1 info27 rfl (twoN_one _ _) ?_; have I1 := I0.row1 noD noD; clear I0)
    | (refine wpList_load_row rfl 27 (Operand.tmp 5) rfl (w.heap.size + 1) rfl 27 _ (0, 0) _ I3.r1 Try.underlying27 rfl info27 ?_)
    | (refine wpList_store_row rfl 27 (Operand.tmp 2) _ rfl w.heap.size (twoN noD noD) rfl rfl 27 (twoN noD noD) I3.r0 info27 rfl (twoN_one _ _) ?_; have IZ := I3.row0 noD noD)
    | (go_at_call_of 14 (Value.int IntKind.u8 49); refine (hD1 _).mono ?_; rintro e wd ⟨rfl, bd⟩; have I2 := I1.below bd; clear I1 bd)
    | (refine wpList_store_row rfl 25 (Operand.tmp 6) _ rfl wd.heap.size (nine f1) rfl rfl 25 (nine noD) (z9_new wd) info9 rfl (nine_one f1) ?_; have I3 := (I2.alloc (.cells Z9 25)).other I2.lt (nine f1); have d1 := setRow_heap _ wd.heap.size _ (nine f1) _ _ (z9_new wd); have l1 := I2.lt; clear I2))
  exact law_ret (cs := twoN noD noD) rfl rfl rfl rfl rfl IZ.r0 rfl (refLaw_bad (i := i) hq.out IZ.be)

set_option maxRecDepth 100000 in
set_option maxHeartbeats 1600000 in
theorem refRule_S2 (s : ByteArray) (w : World) (hs : s.size ≤ 24) (h0 : 0 < s.size) (hz : ((s.size : Int) == 0) = false) (hB : ((s[0].toNat : Int) != 66) = false) (f1 : Nat → Bool) (i : Nat) (hi' : i ≤ s.size) (hD1 : ∀ w, Calls Try.prog 14 #[.string s, .int .i64 1, .int .u8 49] w fun e w' => e = .returned (.tuple #[.agg (nine f1), .int .i64 (i : Int)]) ∧ Below w.heap.size w w') (hl : i < s.size) (hS : ((s[i].toNat : Int) != 47) = true) (hq : Hid (ruleR s = .inl (3, i))) :
    Calls Try.prog 6 #[.string s] w (RefLaw s w) := by
  have I0 := x_two w
  go_enter Try.func6, Try.ntmps6
  go_wp2_with (first
    | (refine wpList_store_row rfl 27 (Operand.tmp 5) (Operand.tmp 10) rfl (w.heap.size + 1) (twoN noD noD) rfl rfl 27 (twoN noD noD) I0.r1 info27 rfl (twoN_one _ _) ?_; have I1 := I0.row1 noD noD; clear I0)
    | (refine wpList_load_row rfl 27 (Operand.tmp 5) rfl (w.heap.size + 1) rfl 27 _ (0, 0) _ I3.r1 Try.underlying27 rfl info27 ?_)
    | (refine wpList_store_row rfl 27 (Operand.tmp 2) _ rfl w.heap.size (twoN noD noD) rfl rfl 27 (twoN noD noD) I3.r0 info27 rfl (twoN_one _ _) ?_; have IZ := I3.row0 noD noD)
    | (go_at_call_of 14 (Value.int IntKind.u8 49); refine (hD1 _).mono ?_; rintro e wd ⟨rfl, bd⟩; have I2 := I1.below bd; clear I1 bd)
    | (refine wpList_store_row rfl 25 (Operand.tmp 6) _ rfl wd.heap.size (nine f1) rfl rfl 25 (nine noD) (z9_new wd) info9 rfl (nine_one f1) ?_; have I3 := (I2.alloc (.cells Z9 25)).other I2.lt (nine f1); have d1 := setRow_heap _ wd.heap.size _ (nine f1) _ _ (z9_new wd); have l1 := I2.lt; clear I2))
  exact law_ret (cs := twoN noD noD) rfl rfl rfl rfl rfl IZ.r0 rfl (refLaw_bad (i := i) hq.out IZ.be)

set_option maxRecDepth 100000 in
set_option maxHeartbeats 1600000 in
theorem refRule_T1 (s : ByteArray) (w : World) (hs : s.size ≤ 24) (h0 : 0 < s.size) (hz : ((s.size : Int) == 0) = false) (hB : ((s[0].toNat : Int) != 66) = false) (f1 : Nat → Bool) (i : Nat) (hi' : i ≤ s.size) (hD1 : ∀ w, Calls Try.prog 14 #[.string s, .int .i64 1, .int .u8 49] w fun e w' => e = .returned (.tuple #[.agg (nine f1), .int .i64 (i : Int)]) ∧ Below w.heap.size w w') (hl : i < s.size) (hS : ((s[i].toNat : Int) != 47) = false) (hl2 : s.size ≤ i + 1) (hq : Hid (ruleR s = .inl (3, i + 1))) :
    Calls Try.prog 6 #[.string s] w (RefLaw s w) := by
  have I0 := x_two w
  go_enter Try.func6, Try.ntmps6
  go_wp2_with (first
    | (refine wpList_store_row rfl 27 (Operand.tmp 5) (Operand.tmp 10) rfl (w.heap.size + 1) (twoN noD noD) rfl rfl 27 (twoN noD noD) I0.r1 info27 rfl (twoN_one _ _) ?_; have I1 := I0.row1 noD noD; clear I0)
    | (refine wpList_load_row rfl 27 (Operand.tmp 5) rfl (w.heap.size + 1) rfl 27 _ (0, 0) _ I3.r1 Try.underlying27 rfl info27 ?_)
    | (refine wpList_store_row rfl 27 (Operand.tmp 2) _ rfl w.heap.size (twoN noD noD) rfl rfl 27 (twoN noD noD) I3.r0 info27 rfl (twoN_one _ _) ?_; have IZ := I3.row0 noD noD)
    | (go_at_call_of 14 (Value.int IntKind.u8 49); refine (hD1 _).mono ?_; rintro e wd ⟨rfl, bd⟩; have I2 := I1.below bd; clear I1 bd)
    | (refine wpList_store_row rfl 25 (Operand.tmp 6) _ rfl wd.heap.size (nine f1) rfl rfl 25 (nine noD) (z9_new wd) info9 rfl (nine_one f1) ?_; have I3 := (I2.alloc (.cells Z9 25)).other I2.lt (nine f1); have d1 := setRow_heap _ wd.heap.size _ (nine f1) _ _ (z9_new wd); have l1 := I2.lt; clear I2))
  exact law_ret (cs := twoN noD noD) rfl rfl rfl rfl rfl IZ.r0 rfl (refLaw_bad (i := i + 1) hq.out IZ.be)

set_option maxRecDepth 100000 in
set_option maxHeartbeats 1600000 in
theorem refRule_T2 (s : ByteArray) (w : World) (hs : s.size ≤ 24) (h0 : 0 < s.size) (hz : ((s.size : Int) == 0) = false) (hB : ((s[0].toNat : Int) != 66) = false) (f1 : Nat → Bool) (i : Nat) (hi' : i ≤ s.size) (hD1 : ∀ w, Calls Try.prog 14 #[.string s, .int .i64 1, .int .u8 49] w fun e w' => e = .returned (.tuple #[.agg (nine f1), .int .i64 (i : Int)]) ∧ Below w.heap.size w w') (hl : i < s.size) (hS : ((s[i].toNat : Int) != 47) = false) (hl2 : i + 1 < s.size) (hT : ((s[i + 1].toNat : Int) != 83) = true) (hq : Hid (ruleR s = .inl (3, i + 1))) :
    Calls Try.prog 6 #[.string s] w (RefLaw s w) := by
  have I0 := x_two w
  go_enter Try.func6, Try.ntmps6
  go_wp2_with (first
    | (refine wpList_store_row rfl 27 (Operand.tmp 5) (Operand.tmp 10) rfl (w.heap.size + 1) (twoN noD noD) rfl rfl 27 (twoN noD noD) I0.r1 info27 rfl (twoN_one _ _) ?_; have I1 := I0.row1 noD noD; clear I0)
    | (refine wpList_load_row rfl 27 (Operand.tmp 5) rfl (w.heap.size + 1) rfl 27 _ (0, 0) _ I3.r1 Try.underlying27 rfl info27 ?_)
    | (refine wpList_store_row rfl 27 (Operand.tmp 2) _ rfl w.heap.size (twoN noD noD) rfl rfl 27 (twoN noD noD) I3.r0 info27 rfl (twoN_one _ _) ?_; have IZ := I3.row0 noD noD)
    | (go_at_call_of 14 (Value.int IntKind.u8 49); refine (hD1 _).mono ?_; rintro e wd ⟨rfl, bd⟩; have I2 := I1.below bd; clear I1 bd)
    | (refine wpList_store_row rfl 25 (Operand.tmp 6) _ rfl wd.heap.size (nine f1) rfl rfl 25 (nine noD) (z9_new wd) info9 rfl (nine_one f1) ?_; have I3 := (I2.alloc (.cells Z9 25)).other I2.lt (nine f1); have d1 := setRow_heap _ wd.heap.size _ (nine f1) _ _ (z9_new wd); have l1 := I2.lt; clear I2))
  exact law_ret (cs := twoN noD noD) rfl rfl rfl rfl rfl IZ.r0 rfl (refLaw_bad (i := i + 1) hq.out IZ.be)

set_option maxRecDepth 100000 in
set_option maxHeartbeats 1600000 in
theorem refRule_E (s : ByteArray) (w : World) (hs : s.size ≤ 24) (h0 : 0 < s.size) (hz : ((s.size : Int) == 0) = false) (hB : ((s[0].toNat : Int) != 66) = false) (f1 : Nat → Bool) (i : Nat) (hi' : i ≤ s.size) (hD1 : ∀ w, Calls Try.prog 14 #[.string s, .int .i64 1, .int .u8 49] w fun e w' => e = .returned (.tuple #[.agg (nine f1), .int .i64 (i : Int)]) ∧ Below w.heap.size w w') (hl : i < s.size) (hS : ((s[i].toNat : Int) != 47) = false) (hl2 : i + 1 < s.size) (hT : ((s[i + 1].toNat : Int) != 83) = false) (f2 : Nat → Bool) (j : Nat) (hj : j ≤ s.size) (hD2 : ∀ w, Calls Try.prog 14 #[.string s, .int .i64 ((i : Int) + 2), .int .u8 48] w fun e w' => e = .returned (.tuple #[.agg (nine f2), .int .i64 (j : Int)]) ∧ Below w.heap.size w w') (hl3 : j < s.size) (hq : Hid (ruleR s = .inl (3, j))) :
    Calls Try.prog 6 #[.string s] w (RefLaw s w) := by
  have I0 := x_two w
  go_enter Try.func6, Try.ntmps6
  go_wp2_with (first
    | (refine wpList_store_row rfl 27 (Operand.tmp 5) (Operand.tmp 10) rfl (w.heap.size + 1) (twoN noD noD) rfl rfl 27 (twoN noD noD) I0.r1 info27 rfl (twoN_one _ _) ?_; have I1 := I0.row1 noD noD; clear I0)
    | (refine wpList_load_row rfl 27 (Operand.tmp 5) rfl (w.heap.size + 1) rfl 27 _ (0, 0) _ I5.r1 Try.underlying27 rfl info27 ?_)
    | (refine wpList_store_row rfl 27 (Operand.tmp 2) _ rfl w.heap.size (twoN noD noD) rfl rfl 27 (twoN noD noD) I5.r0 info27 rfl (twoN_one _ _) ?_; have IZ := I5.row0 noD noD)
    | (go_at_call_of 14 (Value.int IntKind.u8 49); refine (hD1 _).mono ?_; rintro e wd ⟨rfl, bd⟩; have I2 := I1.below bd; clear I1 bd)
    | (refine wpList_store_row rfl 25 (Operand.tmp 6) _ rfl wd.heap.size (nine f1) rfl rfl 25 (nine noD) (z9_new wd) info9 rfl (nine_one f1) ?_; have I3 := (I2.alloc (.cells Z9 25)).other I2.lt (nine f1); have d1 := setRow_heap _ wd.heap.size _ (nine f1) _ _ (z9_new wd); have l1 := I2.lt; clear I2)
    | (go_at_call_of 14 (Value.int IntKind.u8 48); refine (hD2 _).mono ?_; rintro e we ⟨rfl, be⟩; have I4 := I3.below be; have d2 := (be.block _ (blk_lt d1)).trans d1; clear I3 be d1)
    | (refine wpList_store_row rfl 25 (Operand.tmp 8) _ rfl we.heap.size (nine f2) rfl rfl 25 (nine noD) (z9_new we) info9 rfl (nine_one f2) ?_; have I5 := (I4.alloc (.cells Z9 25)).other I4.lt (nine f2); have d3 := (setRow_other _ we.heap.size _ (nine f2) (Nat.ne_of_lt (blk_lt d2))).trans (blk_old d2 (.cells Z9 25)); have e1 := setRow_heap _ we.heap.size _ (nine f2) _ _ (z9_new we); have l2 := I4.lt; obtain ⟨W5, hW5⟩ : ∃ W5, (we.alloc (.cells Z9 25)).setRow we.heap.size (nine f2) = W5 := ⟨_, rfl⟩; rw [hW5] at I5 d3 e1; rw [hW5]; clear hW5 I4 d2))
  exact law_ret (cs := twoN noD noD) rfl rfl rfl rfl rfl IZ.r0 rfl (refLaw_bad (i := j) hq.out IZ.be)

set_option maxRecDepth 100000 in
set_option maxHeartbeats 1600000 in
theorem refRule_OK (s : ByteArray) (w : World) (hs : s.size ≤ 24) (h0 : 0 < s.size) (hz : ((s.size : Int) == 0) = false) (hB : ((s[0].toNat : Int) != 66) = false) (f1 : Nat → Bool) (i : Nat) (hi' : i ≤ s.size) (hD1 : ∀ w, Calls Try.prog 14 #[.string s, .int .i64 1, .int .u8 49] w fun e w' => e = .returned (.tuple #[.agg (nine f1), .int .i64 (i : Int)]) ∧ Below w.heap.size w w') (hl : i < s.size) (hS : ((s[i].toNat : Int) != 47) = false) (hl2 : i + 1 < s.size) (hT : ((s[i + 1].toNat : Int) != 83) = false) (f2 : Nat → Bool) (j : Nat) (hj : j ≤ s.size) (hD2 : ∀ w, Calls Try.prog 14 #[.string s, .int .i64 ((i : Int) + 2), .int .u8 48] w fun e w' => e = .returned (.tuple #[.agg (nine f2), .int .i64 (j : Int)]) ∧ Below w.heap.size w w') (hl3 : s.size ≤ j) (hq : Hid (ruleR s = .inr (f1, f2))) :
    Calls Try.prog 6 #[.string s] w (RefLaw s w) := by
  have I0 := x_two w
  go_enter Try.func6, Try.ntmps6
  go_wp2_with (first
    | (refine wpList_store_row rfl 27 (Operand.tmp 5) (Operand.tmp 10) rfl (w.heap.size + 1) (twoN noD noD) rfl rfl 27 (twoN noD noD) I0.r1 info27 rfl (twoN_one _ _) ?_; have I1 := I0.row1 noD noD; clear I0)
    | (go_at_call_of 14 (Value.int IntKind.u8 49); refine (hD1 _).mono ?_; rintro e wd ⟨rfl, bd⟩; have I2 := I1.below bd; clear I1 bd)
    | (refine wpList_store_row rfl 25 (Operand.tmp 6) _ rfl wd.heap.size (nine f1) rfl rfl 25 (nine noD) (z9_new wd) info9 rfl (nine_one f1) ?_; have I3 := (I2.alloc (.cells Z9 25)).other I2.lt (nine f1); have d1 := setRow_heap _ wd.heap.size _ (nine f1) _ _ (z9_new wd); have l1 := I2.lt; clear I2)
    | (go_at_call_of 14 (Value.int IntKind.u8 48); refine (hD2 _).mono ?_; rintro e we ⟨rfl, be⟩; have I4 := I3.below be; have d2 := (be.block _ (blk_lt d1)).trans d1; clear I3 be d1)
    | (refine wpList_store_row rfl 25 (Operand.tmp 8) _ rfl we.heap.size (nine f2) rfl rfl 25 (nine noD) (z9_new we) info9 rfl (nine_one f2) ?_; have I5 := (I4.alloc (.cells Z9 25)).other I4.lt (nine f2); have d3 := (setRow_other _ we.heap.size _ (nine f2) (Nat.ne_of_lt (blk_lt d2))).trans (blk_old d2 (.cells Z9 25)); have e1 := setRow_heap _ we.heap.size _ (nine f2) _ _ (z9_new we); have l2 := I4.lt; obtain ⟨W5, hW5⟩ : ∃ W5, (we.alloc (.cells Z9 25)).setRow we.heap.size (nine f2) = W5 := ⟨_, rfl⟩; rw [hW5] at I5 d3 e1; rw [hW5]; clear hW5 I4 d2)
    | (refine wpList_load_row rfl 25 (Operand.tmp 6) rfl wd.heap.size rfl 25 (nine f1) (0, 0) _ d3 Try.underlying25 rfl info9 ?_)
    | (refine wpList_store_mid rfl 25 (Operand.tmp 70) _ rfl (w.heap.size + 1) 0 (nine f1) rfl rfl (row_there I5.r1 (by simp [twoN, nine])) info9 (nine_one _) ?_; have I6 := I5.put1 f1; have e2 := (setCells_other (b := w.heap.size + 1) (by omega) (nine f1).toList 0 _).trans e1; obtain ⟨W6, hW6⟩ : ∃ W6, W5.setCells (w.heap.size + 1) 0 (nine f1).toList = W6 := ⟨_, rfl⟩; rw [hW6] at I6 e2; rw [hW6]; clear hW6 I5 e1)
    | (refine wpList_load_row rfl 25 (Operand.tmp 8) rfl we.heap.size rfl 25 (nine f2) (0, 0) _ e2 Try.underlying25 rfl info9 ?_)
    | (refine wpList_store_mid rfl 25 (Operand.tmp 72) _ rfl (w.heap.size + 1) 9 (nine f2) rfl rfl (row_there I6.r1 (by simp [twoN, nine])) info9 (nine_one _) ?_; have I7 := I6.put2 f2; obtain ⟨W7, hW7⟩ : ∃ W7, W6.setCells (w.heap.size + 1) 9 (nine f2).toList = W7 := ⟨_, rfl⟩; rw [hW7] at I7; rw [hW7]; clear hW7 I6 e2)
    | (refine wpList_load_row rfl 27 (Operand.tmp 5) rfl (w.heap.size + 1) rfl 27 _ (0, 0) _ I7.r1 Try.underlying27 rfl info27 ?_)
    | (refine wpList_store_row rfl 27 (Operand.tmp 2) _ rfl w.heap.size (twoN f1 f2) rfl rfl 27 (twoN noD noD) I7.r0 info27 rfl (twoN_one _ _) ?_; have IZ := I7.row0 f1 f2))
  exact law_ret (cs := twoN f1 f2) rfl rfl rfl rfl rfl IZ.r0 rfl (refLaw_ok hq.out IZ.be)

end Go.Proofs.Ytiohpcnnpmnjhaa
