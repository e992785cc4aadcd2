import Derived.Test.YtiohpcnnpmnjhaaTaleM
import Derived.Test.YtiohpcnnpmnjhaaFace
namespace Go.Proofs.Ytiohpcnnpmnjhaa
open Go.RowKit Go.Shelf
set_option linter.unusedVariables false

/-- Orbit's answer: the cycle, the error, its place. -/
def orbitA (rule text : ByteArray) : (Int × Int × Int × Int) × Int × Int := match ruleR rule with
  | .inl (k, i) => ((0, 0, 0, 0), k, (i : Int))
  | .inr (f, g) => match patR text with
    | .inl (k, i) => ((0, 0, 0, 0), k, (i : Int))
    | .inr C => match course f g C with
      | .inl k => ((0, 0, 0, 0), k, 0)
      | .inr (t, _) => (cycOf f g C t, 0, 0)
def cycC (c : Int × Int × Int × Int) : Array Value := #[.int .i64 c.1, .int .i64 c.2.1, .int .i64 c.2.2.1, .int .i64 c.2.2.2]
/-- What Orbit's work leaves. -/
def OrbR (rule text : ByteArray) (bc : Nat) (w : World) (r : Option (Int × Int)) (w' : World) : Prop :=
  w.grownBy w' (some bc) ∧ r.getD (0, 0) = (orbitA rule text).2 ∧ w'.heap[bc]? = some (.cells (cycC (orbitA rule text).1) 33 (0, 0))

theorem results_cell_row2 {fn : Func} {p u v : Tmp} {ty : TypeId} (h : fn.results = #[.cell p ty, .tmp u, .tmp v]) (P : Program) (tmps : Array Value) (w : World) (g : Nat) (cs : Array Value)
    (hp : tmps.getD p undef = .pointer (some ⟨g, 0, none⟩)) (hl : (loadVar ty ⟨g, 0, none⟩).run P w = .ok (.agg cs) w) :
    (results fn tmps).run P w = .ok (.tuple #[.agg cs, tmps.getD u undef, tmps.getD v undef]) w := by
  have hp' : tmps[p]?.getD undef = .pointer (some ⟨g, 0, none⟩) := by simpa using hp
  simp [results, h, hp', asAddr, hl]
theorem infoCyc : (Try.prog.info? 33).map (·.size) = some 4 := by kernel_rfl
theorem grown_belowN {W W' : World} {n b : Nat} (h : W.grownBy W' (some b)) (hn : n ≤ W.heap.size) (hb : n ≤ b) : Below n W W' := ⟨h.os, h.tape, h.output, h.size, fun k hk => h.block k (by omega) (fun e => by have := Option.some.inj e; omega)⟩
theorem grown_any {W W' : World} {b : Nat} (h : Below W.heap.size W W') : W.grownBy W' (some b) := ⟨h.os, h.tape, h.output, h.size, fun k hk _ => h.block k hk⟩

set_option maxRecDepth 100000 in
set_option maxHeartbeats 1600000 in
theorem orbitWork_any (br bt bc : Nat) (rule text : ByteArray) (w : World) (h1 : rule.size ≤ maxLen) (h2 : text.size ≤ maxLen) (hr0 : w.heap[br]? = some (.cells #[.string rule] 9 (0, 0))) (ht0 : w.heap[bt]? = some (.cells #[.string text] 9 (0, 0))) (hc0 : w.heap[bc]? = some (.cells (cycC (0, 0, 0, 0)) 33 (0, 0))) :
    Calls Try.prog 15 #[.pointer (some ⟨br, 0, none⟩), .pointer (some ⟨bt, 0, none⟩), .pointer (some ⟨bc, 0, none⟩)] w fun e w' => ((e = .returned (.tuple #[]) ∧ OrbR rule text bc w none w') ∨ ∃ k i, e = .panicked (refusal k i) ∧ OrbR rule text bc w (some (k, i)) w') := by
  have hS := readStory_any rule text w h1 h2
  have hfd : ∀ (gs a b c d : Value) (w : World), (Instr.field 50 (.agg #[gs, a, b, c, d]) 1).run Try.prog w = .ok (.agg #[a, b, c, d]) w := fun _ _ _ _ _ _ => by kernel_rfl
  have q0 := topc hr0
  have q1 := topc ht0
  have bad : ∀ (k i : Int) (w' : World), Below w.heap.size w w' → orbitA rule text = ((0, 0, 0, 0), k, i) → OrbR rule text bc w (some (k, i)) w' := fun k i w' hb ho =>
    ⟨grown_any hb, by rw [ho]; rfl, by rw [ho]; exact (hb.block _ (blk_lt hc0)).trans hc0⟩
  have HB : Hid (∀ (k i : Int) (w' : World), Below w.heap.size w w' → orbitA rule text = ((0, 0, 0, 0), k, i) → OrbR rule text bc w (some (k, i)) w') := bad
  clear bad
  cases hr : ruleR rule with
  | inl x =>
    obtain ⟨k, i⟩ := x
    go_enter Try.func15, Try.ntmps15
    go_wp2_with (go_at_call 16; refine hS.mono ?_; intro e w1 ho; unfold StoryOut at ho; rw [hr] at ho; obtain ⟨hb, he⟩ := ho; simp only at he; subst he)
    exact ⟨rfl, .inr ⟨k, i, rfl, HB.out _ _ _ hb (by unfold orbitA; rw [hr])⟩⟩
  | inr x =>
    obtain ⟨f, g⟩ := x
    cases hp : patR text with
    | inl x =>
      obtain ⟨k, i⟩ := x
      go_enter Try.func15, Try.ntmps15
      go_wp2_with (go_at_call 16; refine hS.mono ?_; intro e w1 ho; unfold StoryOut at ho; rw [hr] at ho; simp only [hp] at ho; obtain ⟨hb, he⟩ := ho; subst he)
      exact ⟨rfl, .inr ⟨k, i, rfl, HB.out _ _ _ hb (by unfold orbitA; rw [hr]; simp only [hp])⟩⟩
    | inr C =>
      cases hco : course f g C with
      | inl k =>
        go_enter Try.func15, Try.ntmps15
        go_wp2_with (go_at_call 16; refine hS.mono ?_; intro e w1 ho; unfold StoryOut at ho; rw [hr] at ho; simp only [hp, hco] at ho; obtain ⟨hb, he⟩ := ho; subst he)
        exact ⟨rfl, .inr ⟨k, 0, rfl, HB.out _ _ _ hb (by unfold orbitA; rw [hr]; simp only [hp, hco])⟩⟩
      | inr x =>
        obtain ⟨t, s'⟩ := x
        have hA : orbitA rule text = (cycOf f g C t, 0, 0) := by unfold orbitA; rw [hr]; simp only [hp, hco]
        have HA : Hid (orbitA rule text = (cycOf f g C t, 0, 0)) := hA
        obtain ⟨⟨y1, y2, y3, y4⟩, hcy⟩ : ∃ cy, cycOf f g C t = cy := ⟨_, rfl⟩
        rw [hcy] at HA
        clear hA
        go_enter Try.func15, Try.ntmps15
        go_wp2_with (go_at_call 16; refine hS.mono ?_; intro e w1 ho; unfold StoryOut at ho; rw [hr] at ho; simp only [hp, hco] at ho; obtain ⟨hb, g1, g2, g3, gs, vs, g4, he, g5⟩ := ho; rw [hcy] at he; unfold storyV at he; simp only at he; subst he
                     have c1 := (hb.block _ (blk_lt hc0)).trans hc0
                     have m0 := cell_of c1 0; have m1 := cell_of c1 1; have m2 := cell_of c1 2; have m3 := cell_of c1 3
                     have z0 := frz_of c1 0; have z1 := frz_of c1 1; have z2 := frz_of c1 2; have z3 := frz_of c1 3
                     simp only [cycC] at m0 m1 m2 m3)
        go_end0
        have c5 := blk_put (j := 3) (blk_put (j := 2) (blk_put (j := 1) (blk_put (j := 0) c1 (.int .i64 y1)) (.int .i64 y2)) (.int .i64 y3)) (.int .i64 y4)
        have gr : w.grownBy ((((w1.setCell ⟨bc, 0, none⟩ (.int .i64 y1)).setCell ⟨bc, 1, none⟩ (.int .i64 y2)).setCell ⟨bc, 2, none⟩ (.int .i64 y3)).setCell ⟨bc, 3, none⟩ (.int .i64 y4)) (some bc) :=
          ((((grown_any hb).trans (grown_set _ bc 0 _)).trans (grown_set _ bc 1 _)).trans (grown_set _ bc 2 _)).trans (grown_set _ bc 3 _)
        exact .inl ⟨rfl, gr, by rw [HA.out]; rfl, by rw [HA.out]; exact c5⟩

set_option maxRecDepth 100000 in
set_option maxHeartbeats 1600000 in
/-- Orbit, whole. -/
theorem orbit_any (rule text : ByteArray) (w : World) (h1 : rule.size ≤ maxLen) (h2 : text.size ≤ maxLen) :
    Calls Try.prog 8 #[.string rule, .string text] w fun e w' => e = .returned (.tuple #[.agg (cycC (orbitA rule text).1), .int .i64 (orbitA rule text).2.1, .int .i64 (orbitA rule text).2.2]) ∧ Below w.heap.size w w' := by
  have hmf : ∀ (fn : Fn) (first cap : Array Value) (w : World), (Instr.makeFunc fn first cap).run Try.prog w = .ok (.func fn first cap) w := fun _ _ _ _ => rfl
  obtain ⟨w4, hw4⟩ : ∃ w4, (((w.alloc (.cells #[.string rule] 9)).alloc (.cells #[.string text] 9)).alloc (.cells #[.int .i64 0, .int .i64 0, .int .i64 0, .int .i64 0] 33)).alloc (.cells #[.int .i64 0, .int .i64 0, .int .i64 0, .int .i64 0] 33) = w4 := ⟨_, rfl⟩
  have s4 : w4.heap.size = w.heap.size + 4 := by rw [← hw4]; simp
  have b4 : Below w.heap.size w w4 := by rw [← hw4]; exact ((((Below.refl _ w).alloc (Nat.le_refl _) _).alloc (by simp) _).alloc (by simp; omega) _).alloc (by simp; omega) _
  have t0 : w4.heap[w.heap.size]? = some (.cells #[.string rule] 9 (0, 0)) := by rw [← hw4]; exact blk_old (blk_old (blk_old (blk_new w _) _) _) _
  have t1 : w4.heap[w.heap.size + 1]? = some (.cells #[.string text] 9 (0, 0)) := by
    have := blk_old (blk_old (blk_new (w.alloc (.cells #[.string rule] 9)) (.cells #[.string text] 9)) (.cells #[.int .i64 0, .int .i64 0, .int .i64 0, .int .i64 0] 33)) (.cells #[.int .i64 0, .int .i64 0, .int .i64 0, .int .i64 0] 33)
    rw [← hw4]; simpa using this
  have t2 : w4.heap[w.heap.size + 2]? = some (.cells (cycC (0, 0, 0, 0)) 33 (0, 0)) := by
    have := blk_old (blk_new ((w.alloc (.cells #[.string rule] 9)).alloc (.cells #[.string text] 9)) (.cells #[.int .i64 0, .int .i64 0, .int .i64 0, .int .i64 0] 33)) (.cells #[.int .i64 0, .int .i64 0, .int .i64 0, .int .i64 0] 33)
    simp only [World.size_alloc, Nat.add_assoc, Nat.reduceAdd] at this; rw [← hw4]; exact this
  have t3 : w4.heap[w.heap.size + 3]? = some (.cells (cycC (0, 0, 0, 0)) 33 (0, 0)) := by
    have := blk_new (((w.alloc (.cells #[.string rule] 9)).alloc (.cells #[.string text] 9)).alloc (.cells #[.int .i64 0, .int .i64 0, .int .i64 0, .int .i64 0] 33)) (.cells #[.int .i64 0, .int .i64 0, .int .i64 0, .int .i64 0] 33)
    simp only [World.size_alloc, Nat.add_assoc, Nat.reduceAdd] at this; rw [← hw4]; exact this
  obtain ⟨w6, hw6⟩ : ∃ w6, (w4.alloc (.cells #[.int .i64 0] 22)).alloc (.cells #[.int .i64 0] 3) = w6 := ⟨_, rfl⟩
  have s6 : w6.heap.size = w4.heap.size + 2 := by rw [← hw6]; simp
  have b6 : Below w4.heap.size w4 w6 := by rw [← hw6]; exact ((Below.refl _ _).alloc (Nat.le_refl _) _).alloc (by simp) _
  have u0 : w6.heap[w4.heap.size]? = some (.cells #[.int .i64 0] 22 (0, 0)) := by rw [← hw6]; exact blk_old (blk_new _ _) _
  have u1 : w6.heap[w4.heap.size + 1]? = some (.cells #[.int .i64 0] 3 (0, 0)) := by
    have := blk_new (w4.alloc (.cells #[.int .i64 0] 22)) (.cells #[.int .i64 0] 3)
    rw [← hw6]; simpa using this
  have hW := orbitWork_any w.heap.size (w.heap.size + 1) (w.heap.size + 3) rule text w6 h1 h2 ((b6.block _ (blk_lt t0)).trans t0) ((b6.block _ (blk_lt t1)).trans t1) ((b6.block _ (blk_lt t3)).trans t3)
  have hA := attempt_gen 15 #[.pointer (some ⟨w.heap.size, 0, none⟩), .pointer (some ⟨w.heap.size + 1, 0, none⟩), .pointer (some ⟨w.heap.size + 3, 0, none⟩)] w4 (enters_of Try.func15 (by kernel_rfl) rfl)
    (fun r w' => OrbR rule text (w.heap.size + 3) w6 r w')
    (by
      rw [hw6]
      refine hW.mono fun e w' ho => ⟨?_, ho⟩
      have hg : w6.grownBy w' (some (w.heap.size + 3)) := by
        rcases ho with ⟨_, h, _⟩ | ⟨_, _, _, h, _⟩ <;> exact h
      exact ⟨(hg.block _ (blk_lt u0) (fun e => by have := Option.some.inj e; omega)).trans u0, (hg.block _ (blk_lt u1) (fun e => by have := Option.some.inj e; omega)).trans u1⟩)
  clear hW u0 u1 t0 t1 t3
  obtain ⟨⟨⟨y1, y2, y3, y4⟩, k, i⟩, hO⟩ : ∃ o, orbitA rule text = o := ⟨_, rfl⟩
  have hlt : w.heap.size + 3 < w4.heap.size := by omega
  have h64 : w4.heap.size ≤ w6.heap.size := by omega
  have R0 : Hid (∀ r w8 w7, OrbR rule text (w.heap.size + 3) w6 r w8 → Below w4.heap.size w8 w7 → r.getD (0, 0) = (k, i) ∧ w7.heap[w.heap.size + 1 + 1 + 1]? = some (.cells (cycC (y1, y2, y3, y4)) 33 (0, 0)) ∧ w7.heap[w.heap.size + 1 + 1]? = some (.cells (cycC (0, 0, 0, 0)) 33 (0, 0)) ∧ Below w.heap.size w w7) := by
    rintro r w8 w7 ⟨hg8, hr8, hc8⟩ hb7
    rw [hO] at hr8 hc8
    refine ⟨hr8, (hb7.block _ hlt).trans hc8, (hb7.block _ (by omega)).trans ((hg8.block _ (by omega) (fun e => by have := Option.some.inj e; omega)).trans ((b6.block _ (by omega)).trans t2)), ?_⟩
    exact b4.trans ((b6.mono (by omega)).trans ((grown_belowN hg8 (by omega) (by omega)).trans (hb7.mono (by omega))))
  rw [hO]
  clear hO b4 b6 s4 s6 t2 hlt h64 h1 h2
  subst hw4
  go_enter Try.func8, Try.ntmps8
  go_wp2_with (go_at_call 11; refine hA.mono ?_; rintro e w7 ⟨r, rfl, w8, hR8, hb7⟩; obtain ⟨hr, c1, d1, hB⟩ := R0.out _ _ _ hR8 hb7; rw [hr]; clear hr hR8 hb7
               have m0 := cell_of c1 0; have m1 := cell_of c1 1; have m2 := cell_of c1 2; have m3 := cell_of c1 3
               have n0 := cell_of d1 0; have n1 := cell_of d1 1; have n2 := cell_of d1 2; have n3 := cell_of d1 3
               have z0 := frz_of d1 0; have z1 := frz_of d1 1; have z2 := frz_of d1 2; have z3 := frz_of d1 3
               simp only [cycC] at m0 m1 m2 m3 n0 n1 n2 n3)
  have d5 := blk_put (j := 3) (blk_put (j := 2) (blk_put (j := 1) (blk_put (j := 0) d1 (.int .i64 y1)) (.int .i64 y2)) (.int .i64 y3)) (.int .i64 y4)
  exact bodyPost_ret (v := .tuple #[.agg (cycC (y1, y2, y3, y4)), .int .i64 k, .int .i64 i]) (results_cell_row2 Try.results8 _ _ _ (w.heap.size + 1 + 1) (cycC (y1, y2, y3, y4)) rfl (run_loadVar_row _ (w.heap.size + 1 + 1) 33 33 (cycC (y1, y2, y3, y4)) (0, 0) _ d5 Try.underlying33 rfl infoCyc)) rfl ⟨rfl, ((((hB.setCell (by simp; omega) _).setCell (by simp; omega) _).setCell (by simp; omega) _).setCell (by simp; omega) _)⟩

end Go.Proofs.Ytiohpcnnpmnjhaa
