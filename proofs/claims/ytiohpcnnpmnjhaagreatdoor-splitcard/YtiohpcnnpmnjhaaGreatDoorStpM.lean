import Derived.Test.YtiohpcnnpmnjhaaGreatDoorAftM
import Derived.Test.YtiohpcnnpmnjhaaGreatDoorLinM
namespace Go.Proofs.YtiohpcnnpmnjhaaGreatDoor
open Go.RowKit Go.Shelf
set_option linter.unusedVariables false

/-- Step's answer: the text, the error, its place. -/
def stepA (rule text : ByteArray) (n : Int) : ByteArray × Int × Int := match ruleR rule with
  | .inl (k, i) => (⟨#[]⟩, k, (i : Int))
  | .inr (f, g) => match patR text with
    | .inl (k, i) => (⟨#[]⟩, k, (i : Int))
    | .inr C => match afterR f g C n with
      | .inl k => (⟨#[]⟩, k, 0)
      | .inr D => (⟨(plainB D).toArray⟩, 0, 0)
/-- What Step's work leaves. -/
def StepR (rule text : ByteArray) (n : Int) (bp : Nat) (w : World) (r : Option (Int × Int)) (w' : World) : Prop :=
  w.grownBy w' (some bp) ∧ r.getD (0, 0) = (stepA rule text n).2 ∧ w'.heap[bp]? = some (.cells #[.string (stepA rule text n).1] 9 (0, 0))
theorem grown_any2 {W W' : World} {b : Nat} (h : Below W.heap.size W W') : W.grownBy W' (some b) := ⟨h.os, h.tape, h.output, h.size, fun k hk _ => h.block k hk⟩

/-- What is told is fine. -/
theorem afterR_fine {f g : Nat → Bool} {C : List Cel} {X Y n : Int} (hf : Fine C X Y) (hbx : InBox X (X + 15000000) Y (Y + 15000000) C) {D : List Cel} (h : afterR f g C n = .inr D) : ∃ X' Y', Fine D X' Y' := by
  unfold afterR at h
  split at h
  · cases h
  rename_i hn
  split at h
  · cases h
  rename_i D' hR
  split at h
  · cases h
  rename_i hfd
  cases h
  obtain ⟨d1, d2, a, b, _, _, d5⟩ := reachR_ok hf hbx (by omega) (by omega) hR
  exact fine_near d1 d2 d5 (by simpa using hfd)

theorem law_box {w w1 : World} {bn : Nat} {n : Int} {v : Value} {C : List Cel} (L : Array Value) (hb : Below w.heap.size w w1) (hn0 : w.heap[bn]? = some (.cells #[.int .i64 n] 3 (0, 0))) (own : w1.ownsRow w.heap.size 113 2 v C.length (flatC C)) :
    ((w1.alloc (.cells Z18 69)).setRow w1.heap.size L).heap[w1.heap.size]? = some (.cells L 69 (0, 0)) ∧ ((w1.alloc (.cells Z18 69)).setRow w1.heap.size L).heap[bn]? = some (.cells #[.int .i64 n] 3 (0, 0)) ∧ ((w1.alloc (.cells Z18 69)).setRow w1.heap.size L).ownsRow 0 113 2 v C.length (flatC C) ∧ Below w.heap.size w ((w1.alloc (.cells Z18 69)).setRow w1.heap.size L) := by
  have hs := hb.size
  have hl := blk_lt hn0
  refine ⟨setRow_heap (w1.alloc (.cells Z18 69)) w1.heap.size (twoN noD noD) L 69 (0, 0) (z18_law w1), (setRow_other _ _ _ _ (by omega)).trans ((Below.heap_alloc w1 _ _ (by omega)).trans ((hb.block _ hl).trans hn0)), ?_, below_row (hb.alloc hs _) hs L⟩
  have o1 := (ownsRow_low own (Nat.zero_le _)).alloc (.cells Z18 69)
  refine o1.kept (row := some w1.heap.size) ⟨rfl, rfl, rfl, by simp, fun k _ hk => setRow_other _ _ k L (fun e => hk (by rw [e]))⟩ (Or.inr fun e => ?_)
  have := (own.lt _ e).2
  omega

set_option maxRecDepth 100000 in
set_option maxHeartbeats 1600000 in
theorem stepWork_any (br bt bn bp B : Nat) (rule text : ByteArray) (n : Int) (w : World) (h1 : rule.size ≤ maxLen) (h2 : text.size ≤ maxLen) (hr0 : w.heap[br]? = some (.cells #[.string rule] 9 (0, 0))) (ht0 : w.heap[bt]? = some (.cells #[.string text] 9 (0, 0))) (hn0 : w.heap[bn]? = some (.cells #[.int .i64 n] 3 (0, 0))) (hp0 : w.heap[bp]? = some (.cells #[.string ⟨#[]⟩] 9 (0, 0)))
    (hB : B ≤ w.heap.size) (ht : Tab B w) :
    Calls Tryz.prog 39 #[.pointer (some ⟨br, 0, none⟩), .pointer (some ⟨bt, 0, none⟩), .pointer (some ⟨bn, 0, none⟩), .pointer (some ⟨bp, 0, none⟩)] w fun e w' => ((e = .returned (.tuple #[]) ∧ StepR rule text n bp w none w') ∨ ∃ k i, e = .panicked (refusal k i) ∧ StepR rule text n bp w (some (k, i)) w') := by
  have hBo := fun w => readBoth_any rule text w h1 h2
  have q0 := topc hr0
  have q1 := topc ht0
  have HB : Hid (∀ (k i : Int) (w' : World), Below w.heap.size w w' → stepA rule text n = (⟨#[]⟩, k, i) → StepR rule text n bp w (some (k, i)) w') := fun k i w' hb ho =>
    ⟨grown_any2 hb, by rw [ho]; rfl, by rw [ho]; exact (hb.block _ (blk_lt hp0)).trans hp0⟩
  cases hr : ruleR rule with
  | inl x =>
    obtain ⟨k, i⟩ := x
    go_enter Tryz.func39, Tryz.ntmps39
    go_wp2_with (go_at_call 40; refine (hBo _).mono ?_; intro e w1 ho; unfold BothOut at ho; rw [hr] at ho; obtain ⟨hb, he⟩ := ho; simp only at he; subst he)
    exact ⟨rfl, .inr ⟨k, i, rfl, HB.out _ _ _ hb (by unfold stepA; rw [hr])⟩⟩
  | inr x =>
    obtain ⟨f, g⟩ := x
    cases hp : patR text with
    | inl x =>
      obtain ⟨k, i⟩ := x
      go_enter Tryz.func39, Tryz.ntmps39
      go_wp2_with (go_at_call 40; refine (hBo _).mono ?_; intro e w1 ho; unfold BothOut at ho; rw [hr] at ho; simp only [hp] at ho; obtain ⟨hb, he⟩ := ho; subst he)
      exact ⟨rfl, .inr ⟨k, i, rfl, HB.out _ _ _ hb (by unfold stepA; rw [hr]; simp only [hp])⟩⟩
    | inr C =>
      obtain ⟨X, Y, hf, hbx⟩ := patR_tight hp
      have hAf := fun v w own => after_any f g C X Y hf hbx v n w own
      have HL : Hid ((Tryz.prog.info? 69).map (·.size) = some (twoN f g).size) := infoL
      have H1 : Hid ((twoN f g).all (·.oneCell') = true) := twoN_one f g
      have HS : Hid ((twoN noD noD).size = (twoN f g).size) := rfl
      obtain ⟨L, hL⟩ : ∃ L, twoN f g = L := ⟨_, rfl⟩
      rw [hL] at HL H1 HS
      simp only [hL] at hAf
      cases ha : afterR f g C n with
      | inl k =>
        rw [ha] at hAf
        go_enter Tryz.func39, Tryz.ntmps39
        go_wp2_with (first
          | (go_at_call 40; refine (hBo _).mono ?_; intro e w1 ho; unfold BothOut at ho; rw [hr] at ho; simp only [hp] at ho; rw [hL] at ho; clear hL; obtain ⟨hb1, v, rfl, own⟩ := ho; have n1 := topc ((hb1.block _ (blk_lt hn0)).trans hn0))
          | (refine wpList_store_row rfl 69 (Operand.tmp 4) (Operand.tmp 10) rfl w1.heap.size L rfl rfl 69 (twoN noD noD) (z18_law w1) HL.out HS.out H1.out ?_; go_frame
             obtain ⟨bL, n2, own2, be2⟩ := law_box L hb1 hn0 own
             clear hb1 own
             generalize ((w1.alloc (.cells Z18 69)).setRow w1.heap.size L) = W2 at *
             have n3 := topc n2)
          | (refine wpList_load_row rfl 69 (Operand.tmp 4) rfl w1.heap.size rfl 69 L (0, 0) _ bL Tryz.underlying69 rfl HL.out ?_)
          | (go_at_call 42; refine (hAf _ _ own2).mono ?_; rintro e w3 ⟨b3, rfl⟩))
        exact ⟨rfl, .inr ⟨k, 0, rfl, HB.out _ _ _ (be2.trans (b3.mono be2.size)) (by unfold stepA; rw [hr]; simp only [hp, ha])⟩⟩
      | inr D =>
        obtain ⟨X', Y', hfD⟩ := afterR_fine hf hbx ha
        have HA : Hid (stepA rule text n = (⟨(plainB D).toArray⟩, 0, 0)) := by show _ = _; unfold stepA; rw [hr]; simp only [hp, ha]
        rw [ha] at hAf
        go_enter Tryz.func39, Tryz.ntmps39
        go_wp2_with (first
          | (go_at_call 40; refine (hBo _).mono ?_; intro e w1 ho; unfold BothOut at ho; rw [hr] at ho; simp only [hp] at ho; rw [hL] at ho; clear hL; obtain ⟨hb1, v, rfl, own⟩ := ho; have n1 := topc ((hb1.block _ (blk_lt hn0)).trans hn0))
          | (refine wpList_store_row rfl 69 (Operand.tmp 4) (Operand.tmp 10) rfl w1.heap.size L rfl rfl 69 (twoN noD noD) (z18_law w1) HL.out HS.out H1.out ?_; go_frame
             obtain ⟨bL, n2, own2, be2⟩ := law_box L hb1 hn0 own
             clear hb1 own
             generalize ((w1.alloc (.cells Z18 69)).setRow w1.heap.size L) = W2 at *
             have n3 := topc n2)
          | (refine wpList_load_row rfl 69 (Operand.tmp 4) rfl w1.heap.size rfl 69 L (0, 0) _ bL Tryz.underlying69 rfl HL.out ?_)
          | (go_at_call 42; refine (hAf _ _ own2).mono ?_; rintro e w3 ⟨b3, u, rfl, own3⟩
             have be3 := be2.trans (b3.mono be2.size)
             have hP := plainText_any D u X' Y' 0 w3 own3 hfD (tab_up ht (be3.mono hB) (Nat.le_trans hB be3.size)))
          | (go_at_call 41; refine hP.mono ?_; rintro e w4 ⟨rfl, b4⟩
             have be4 := be3.trans (b4.mono be3.size)
             have c4 := (be4.block _ (blk_lt hp0)).trans hp0
             have q4 := topc c4
             have z4 := topz c4))
        go_end0
        exact .inl ⟨rfl, (grown_any2 be4).trans (grown_setC _ bp 0 _), by rw [HA.out]; rfl, by rw [HA.out]; exact blk_put (j := 0) c4 _⟩

end Go.Proofs.YtiohpcnnpmnjhaaGreatDoor

namespace Go.Proofs.YtiohpcnnpmnjhaaGreatDoor
open Go.RowKit Go.Shelf
set_option linter.unusedVariables false

theorem grown_belowS {W W' : World} {n b : Nat} (h : W.grownBy W' (some b)) (hn : n ≤ W.heap.size) (hb : n ≤ b) : Below n W W' := ⟨h.os, h.tape, h.output, h.size, fun k hk => h.block k (by omega) (fun e => by have := Option.some.inj e; omega)⟩

set_option maxRecDepth 100000 in
set_option maxHeartbeats 1600000 in
/-- Step, whole. -/
theorem step_any (rule text : ByteArray) (n : Int) (w : World) (h1 : rule.size ≤ maxLen) (h2 : text.size ≤ maxLen) (ht : Tab w.heap.size w) :
    Calls Tryz.prog 12 #[.string rule, .string text, .int .i64 n] w fun e w' => e = .returned (.tuple #[.string (stepA rule text n).1, .int .i64 (stepA rule text n).2.1, .int .i64 (stepA rule text n).2.2]) ∧ Below w.heap.size w w' := by
  have hmf : ∀ (fn : Fn) (first cap : Array Value) (w : World), (Instr.makeFunc fn first cap).run Tryz.prog w = .ok (.func fn first cap) w := fun _ _ _ _ => rfl
  obtain ⟨w4, hw4⟩ : ∃ w4, (((w.alloc (.cells #[.string rule] 9)).alloc (.cells #[.string text] 9)).alloc (.cells #[.int .i64 n] 3)).alloc (.cells #[.string ⟨#[]⟩] 9) = w4 := ⟨_, rfl⟩
  have s4 : w4.heap.size = w.heap.size + 4 := by rw [← hw4]; simp
  have b4 : Below w.heap.size w w4 := by rw [← hw4]; exact ((((Below.refl _ w).alloc (Nat.le_refl _) _).alloc (by simp) _).alloc (by simp; omega) _).alloc (by simp; omega) _
  have t0 : w4.heap[w.heap.size]? = some (.cells #[.string rule] 9 (0, 0)) := by rw [← hw4]; exact blk_old (blk_old (blk_old (blk_new w _) _) _) _
  have t1 : w4.heap[w.heap.size + 1]? = some (.cells #[.string text] 9 (0, 0)) := by
    have := blk_old (blk_old (blk_new (w.alloc (.cells #[.string rule] 9)) (.cells #[.string text] 9)) (.cells #[.int .i64 n] 3)) (.cells #[.string ⟨#[]⟩] 9)
    rw [World.size_alloc] at this; rw [← hw4]; exact this
  have t2 : w4.heap[w.heap.size + 2]? = some (.cells #[.int .i64 n] 3 (0, 0)) := by
    have := blk_old (blk_new ((w.alloc (.cells #[.string rule] 9)).alloc (.cells #[.string text] 9)) (.cells #[.int .i64 n] 3)) (.cells #[.string ⟨#[]⟩] 9)
    simp only [World.size_alloc, Nat.add_assoc, Nat.reduceAdd] at this; rw [← hw4]; exact this
  have t3 : w4.heap[w.heap.size + 3]? = some (.cells #[.string ⟨#[]⟩] 9 (0, 0)) := by
    have := blk_new (((w.alloc (.cells #[.string rule] 9)).alloc (.cells #[.string text] 9)).alloc (.cells #[.int .i64 n] 3)) (.cells #[.string ⟨#[]⟩] 9)
    simp only [World.size_alloc, Nat.add_assoc, Nat.reduceAdd] at this; rw [← hw4]; exact this
  obtain ⟨w6, hw6⟩ : ∃ w6, (w4.alloc (.cells #[.int .i64 0] 22)).alloc (.cells #[.int .i64 0] 3) = w6 := ⟨_, rfl⟩
  have s6 : w6.heap.size = w4.heap.size + 2 := by rw [← hw6]; simp
  have b6 : Below w4.heap.size w4 w6 := by rw [← hw6]; exact ((Below.refl _ _).alloc (Nat.le_refl _) _).alloc (by simp) _
  have u0 : w6.heap[w4.heap.size]? = some (.cells #[.int .i64 0] 22 (0, 0)) := by rw [← hw6]; exact blk_old (blk_new _ _) _
  have u1 : w6.heap[w4.heap.size + 1]? = some (.cells #[.int .i64 0] 3 (0, 0)) := by
    have := blk_new (w4.alloc (.cells #[.int .i64 0] 22)) (.cells #[.int .i64 0] 3)
    rw [World.size_alloc] at this; rw [← hw6]; exact this
  have hW := stepWork_any w.heap.size (w.heap.size + 1) (w.heap.size + 2) (w.heap.size + 3) w.heap.size rule text n w6 h1 h2 ((b6.block _ (blk_lt t0)).trans t0) ((b6.block _ (blk_lt t1)).trans t1) ((b6.block _ (blk_lt t2)).trans t2) ((b6.block _ (blk_lt t3)).trans t3) (by omega) (tab_up ht (b4.trans (b6.mono (by omega))) (Nat.le_refl _))
  have hA := attempt_gen 39 #[.pointer (some ⟨w.heap.size, 0, none⟩), .pointer (some ⟨w.heap.size + 1, 0, none⟩), .pointer (some ⟨w.heap.size + 2, 0, none⟩), .pointer (some ⟨w.heap.size + 3, 0, none⟩)] w4 (enters_of Tryz.func39 (by kernel_rfl) rfl)
    (fun r w' => StepR rule text n (w.heap.size + 3) w6 r w')
    (by
      rw [hw6]
      refine hW.mono fun e w' ho => ⟨?_, ho⟩
      have hg : w6.grownBy w' (some (w.heap.size + 3)) := by
        rcases ho with ⟨_, h, _⟩ | ⟨_, _, _, h, _⟩ <;> exact h
      exact ⟨(hg.block _ (blk_lt u0) (fun e => by have := Option.some.inj e; omega)).trans u0, (hg.block _ (blk_lt u1) (fun e => by have := Option.some.inj e; omega)).trans u1⟩)
  clear hW u0 u1 t0 t1 t2 t3
  obtain ⟨⟨p, k, i⟩, hO⟩ : ∃ o, stepA rule text n = o := ⟨_, rfl⟩
  have hlt : w.heap.size + 3 < w4.heap.size := by omega
  have R0 : Hid (∀ r w8 w7, StepR rule text n (w.heap.size + 3) w6 r w8 → Below w4.heap.size w8 w7 → r.getD (0, 0) = (k, i) ∧ w7.heap[w.heap.size + 1 + 1 + 1]? = some (.cells #[.string p] 9 (0, 0)) ∧ Below w.heap.size w w7) := by
    rintro r w8 w7 ⟨hg8, hr8, hc8⟩ hb7
    rw [hO] at hr8 hc8
    exact ⟨hr8, (hb7.block _ hlt).trans hc8, b4.trans ((b6.mono (by omega)).trans ((grown_belowS hg8 (by omega) (by omega)).trans (hb7.mono (by omega))))⟩
  rw [hO]
  clear hO b4 b6 s4 s6 hlt h1 h2 ht
  subst hw4
  go_enter Tryz.func12, Tryz.ntmps12
  go_wp2_with (go_at_call 38; refine hA.mono ?_; rintro e w7 ⟨r, rfl, w8, hR8, hb7⟩; obtain ⟨hr, c1, hB⟩ := R0.out _ _ _ hR8 hb7; rw [hr]; clear hr hR8 hb7; have m0 := topc c1)
  exact bodyPost_ret (v := .tuple #[.string p, .int .i64 k, .int .i64 i]) (by simp [results, Tryz.results12]) rfl ⟨rfl, hB⟩

end Go.Proofs.YtiohpcnnpmnjhaaGreatDoor
