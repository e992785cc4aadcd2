import Derived.Test.YtiohpcnnpmnjhaaGreatDoorCodM
import Derived.Test.YtiohpcnnpmnjhaaGreatDoorStpM
namespace Go.Proofs.YtiohpcnnpmnjhaaGreatDoor
open Go.RowKit Go.Shelf
set_option linter.unusedVariables false

/-- Code's answer: the text, the error, its place. -/
def codeA (rule text : ByteArray) : ByteArray × Int × Int := match ruleR rule with
  | .inl (k, i) => (⟨#[]⟩, k, (i : Int))
  | .inr (f, g) => match patR text with
    | .inl (k, i) => (⟨#[]⟩, k, (i : Int))
    | .inr C => match course f g C with
      | .inl k => (⟨#[]⟩, k, 0)
      | .inr (t, s) => (codeT f g C s (t - s), 0, 0)
/-- What Code's work leaves. -/
def CodeR (rule text : ByteArray) (bp : Nat) (w : World) (r : Option (Int × Int)) (w' : World) : Prop :=
  w.grownBy w' (some bp) ∧ r.getD (0, 0) = (codeA rule text).2 ∧ w'.heap[bp]? = some (.cells #[.string (codeA rule text).1] 9 (0, 0))
/-- Generations of a pattern that comes back may be turned and written. -/
theorem gen_codable {f g : Nat → Bool} {C : List Cel} {X Y : Int} {t s : Nat} (hf : Fine C X Y) (hbx : InBox X (X + 15000000) Y (Y + 15000000) C) (hc : course f g C = .inr (t, s)) {i : Nat} (hi : i ≤ 300) : Codable (gen f g C i) := by
  have x1 := hf.x1; have x2 := hf.x2; have y1 := hf.y1; have y2 := hf.y2
  refine ⟨gen_asc hf.asc i, gen_len hc i, X - 300, Y - 300, by omega, by omega, fun c h => ?_⟩
  have := gen_box (f := f) (g := g) hbx i c h
  omega
/-- The table of the eight ways lies there. -/
def TurnTab (w : World) : Prop := ∃ tg fr, w.heap[0]? = some (.cells turnA tg fr)
theorem TurnTab.on {w w' : World} {n : Nat} (h : TurnTab w) (hb : Below n w w') (hn : w.heap.size ≤ n) : TurnTab w' := by
  obtain ⟨tg, fr, h⟩ := h
  exact ⟨tg, fr, (hb.block _ (Nat.lt_of_lt_of_le (blk_lt h) hn)).trans h⟩

set_option maxRecDepth 100000 in
set_option maxHeartbeats 1600000 in
theorem codeWork_any (br bt bp B : Nat) (rule text : ByteArray) (w : World) (h1 : rule.size ≤ maxLen) (h2 : text.size ≤ maxLen) (hr0 : w.heap[br]? = some (.cells #[.string rule] 9 (0, 0))) (ht0 : w.heap[bt]? = some (.cells #[.string text] 9 (0, 0))) (hp0 : w.heap[bp]? = some (.cells #[.string ⟨#[]⟩] 9 (0, 0))) (ht : Tab w.heap.size w) (hT : TurnTab w) :
    Calls Tryz.prog 59 #[.pointer (some ⟨br, 0, none⟩), .pointer (some ⟨bt, 0, none⟩), .pointer (some ⟨bp, 0, none⟩)] w fun e w' => ((e = .returned (.tuple #[]) ∧ CodeR rule text bp w none w') ∨ ∃ k i, e = .panicked (refusal k i) ∧ CodeR rule text bp w (some (k, i)) w') := by
  have hS := readStory_any rule text w h1 h2
  have q0 := topc hr0
  have q1 := topc ht0
  have bad : ∀ (k i : Int) (w' : World), Below w.heap.size w w' → codeA rule text = (⟨#[]⟩, k, i) → CodeR rule text bp w (some (k, i)) w' := fun k i w' hb ho =>
    ⟨grown_any hb, by rw [ho]; rfl, by rw [ho]; exact (hb.block _ (blk_lt hp0)).trans hp0⟩
  have HB : Hid (∀ (k i : Int) (w' : World), Below w.heap.size w w' → codeA rule text = (⟨#[]⟩, k, i) → CodeR rule text bp w (some (k, i)) w') := bad
  clear bad
  cases hr : ruleR rule with
  | inl x =>
    obtain ⟨k, i⟩ := x
    go_enter Tryz.func59, Tryz.ntmps59
    go_wp2_with (go_at_call 51; refine hS.mono ?_; intro e w1 ho; unfold StoryOut at ho; rw [hr] at ho; obtain ⟨hb, he⟩ := ho; simp only at he; subst he)
    exact ⟨rfl, .inr ⟨k, i, rfl, HB.out _ _ _ hb (by unfold codeA; rw [hr])⟩⟩
  | inr x =>
    obtain ⟨f, g⟩ := x
    cases hp : patR text with
    | inl x =>
      obtain ⟨k, i⟩ := x
      go_enter Tryz.func59, Tryz.ntmps59
      go_wp2_with (go_at_call 51; refine hS.mono ?_; intro e w1 ho; unfold StoryOut at ho; rw [hr] at ho; simp only [hp] at ho; obtain ⟨hb, he⟩ := ho; subst he)
      exact ⟨rfl, .inr ⟨k, i, rfl, HB.out _ _ _ hb (by unfold codeA; rw [hr]; simp only [hp])⟩⟩
    | inr C =>
      cases hco : course f g C with
      | inl k =>
        go_enter Tryz.func59, Tryz.ntmps59
        go_wp2_with (go_at_call 51; refine hS.mono ?_; intro e w1 ho; unfold StoryOut at ho; rw [hr] at ho; simp only [hp, hco] at ho; obtain ⟨hb, he⟩ := ho; subst he)
        exact ⟨rfl, .inr ⟨k, 0, rfl, HB.out _ _ _ hb (by unfold codeA; rw [hr]; simp only [hp, hco])⟩⟩
      | inr x =>
        obtain ⟨t, s⟩ := x
        obtain ⟨X, Y, hf, hbx⟩ := patR_tight hp
        have HA : Hid (codeA rule text = (codeT f g C s (t - s), 0, 0)) := by show _ = _; unfold codeA; rw [hr]; simp only [hp, hco]
        have hcd := fun i hi => gen_codable (i := i) hf hbx hco hi
        obtain ⟨T, hTT⟩ : ∃ T, codeT f g C s (t - s) = T := ⟨_, rfl⟩
        have HC : Hid (∀ (w1 : World) (gs : Value) (vs : List Value), Below w.heap.size w w1 → t ≤ 200 → s < t → cameB f g C t = some s → vs.length = t + 1 → Rows2 w1 0 w.heap.size f g C vs gs → Calls Tryz.prog 60 #[.agg (storyV gs (cycOf f g C t))] w1 fun e w' => e = .returned (.string T) ∧ Below w1.heap.size w1 w') := by
          intro w1 gs vs hb g1 g2 g3 g4 g5
          obtain ⟨tg, fr, hG⟩ := hT.on hb (Nat.le_refl _)
          obtain ⟨gg, cg, hgs, hgg, hget⟩ := all_getP g5.own (by omega)
          subst hgs
          have hcy : cycOf f g C t = ((s : Int), (t : Int) - (s : Int), (wayD (gen f g C s) (gen f g C t)).1, (wayD (gen f g C s) (gen f g C t)).2) := by unfold cycOf; rw [g3]
          have hcap : vs.length ≤ cg := by
            rcases g5.own.2 with ⟨hn, _⟩ | ⟨g', cap, cur, hv, _, _, hle, _⟩
            · cases hn
            · cases hv; exact hle
          obtain ⟨p, rfl⟩ : ∃ p, t = s + p := ⟨t - s, by omega⟩
          rw [hcy, ← hTT, show s + p - s = p by omega]
          rw [g4] at hcap
          have := callsIn_wide.1 (code_in f g C s p (wayD (gen f g C s) (gen f g C (s + p))).1 (wayD (gen f g C s) (gen f g C (s + p))).2 gg cg vs tg fr w1 (by omega) g1 g4 hgg hget g5.all hcap (fun i hi => hcd i (by omega)) (tab_up ht hb hb.size) hG)
          rw [g4]
          rw [show ((s + p : Nat) : Int) - (s : Int) = (p : Int) by omega]
          exact this
        rw [hTT] at HA
        clear hTT hcd hf hbx
        go_enter Tryz.func59, Tryz.ntmps59
        go_wp2_with (first
          | (go_at_call 51; refine hS.mono ?_; intro e w1 ho; unfold StoryOut at ho; rw [hr] at ho; simp only [hp, hco] at ho; obtain ⟨hb, g1, g2, g3, gs, vs, g4, he, g5⟩ := ho; subst he
             have hcode := HC.out w1 gs vs hb g1 g2 g3 g4 g5
             obtain ⟨V, hV⟩ : ∃ V, storyV gs (cycOf f g C t) = V := ⟨_, rfl⟩
             rw [hV] at hcode ⊢
             clear hV)
          | (go_at_call 60; refine hcode.mono ?_; rintro e w2 ⟨rfl, c2⟩
             have b2 := hb.trans (c2.mono hb.size)
             have c1 := (b2.block _ (blk_lt hp0)).trans hp0
             have m0 := cell_of c1 0; have z0 := frz_of c1 0))
        go_end0
        have c5 := blk_put (j := 0) c1 (.string T)
        exact .inl ⟨rfl, (grown_any b2).trans (grown_set _ bp 0 _), by rw [HA.out]; rfl, by rw [HA.out]; exact c5⟩

set_option maxRecDepth 100000 in
set_option maxHeartbeats 1600000 in
/-- Code, whole. -/
theorem code_any (rule text : ByteArray) (w : World) (h1 : rule.size ≤ maxLen) (h2 : text.size ≤ maxLen) (ht : Tab w.heap.size w) (hT : TurnTab w) :
    Calls Tryz.prog 33 #[.string rule, .string text] w fun e w' => e = .returned (.tuple #[.string (codeA rule text).1, .int .i64 (codeA rule text).2.1, .int .i64 (codeA rule text).2.2]) ∧ Below w.heap.size w w' := by
  have hmf : ∀ (fn : Fn) (first cap : Array Value) (w : World), (Instr.makeFunc fn first cap).run Tryz.prog w = .ok (.func fn first cap) w := fun _ _ _ _ => rfl
  obtain ⟨w4, hw4⟩ : ∃ w4, ((w.alloc (.cells #[.string rule] 9)).alloc (.cells #[.string text] 9)).alloc (.cells #[.string ⟨#[]⟩] 9) = w4 := ⟨_, rfl⟩
  have s4 : w4.heap.size = w.heap.size + 3 := by rw [← hw4]; simp
  have b4 : Below w.heap.size w w4 := by rw [← hw4]; exact (((Below.refl _ w).alloc (Nat.le_refl _) _).alloc (by simp) _).alloc (by simp; omega) _
  have t0 : w4.heap[w.heap.size]? = some (.cells #[.string rule] 9 (0, 0)) := by rw [← hw4]; exact blk_old (blk_old (blk_new w _) _) _
  have t1 : w4.heap[w.heap.size + 1]? = some (.cells #[.string text] 9 (0, 0)) := by
    have := blk_old (blk_new (w.alloc (.cells #[.string rule] 9)) (.cells #[.string text] 9)) (.cells #[.string ⟨#[]⟩] 9)
    rw [World.size_alloc] at this; rw [← hw4]; exact this
  have t3 : w4.heap[w.heap.size + 2]? = some (.cells #[.string ⟨#[]⟩] 9 (0, 0)) := by
    have := blk_new ((w.alloc (.cells #[.string rule] 9)).alloc (.cells #[.string text] 9)) (.cells #[.string ⟨#[]⟩] 9)
    simp only [World.size_alloc, Nat.add_assoc, Nat.reduceAdd] at this; rw [← hw4]; exact this
  obtain ⟨w6, hw6⟩ : ∃ w6, (w4.alloc (.cells #[.int .i64 0] 22)).alloc (.cells #[.int .i64 0] 3) = w6 := ⟨_, rfl⟩
  have s6 : w6.heap.size = w4.heap.size + 2 := by rw [← hw6]; simp
  have b6 : Below w4.heap.size w4 w6 := by rw [← hw6]; exact ((Below.refl _ _).alloc (Nat.le_refl _) _).alloc (by simp) _
  have u0 : w6.heap[w4.heap.size]? = some (.cells #[.int .i64 0] 22 (0, 0)) := by rw [← hw6]; exact blk_old (blk_new _ _) _
  have u1 : w6.heap[w4.heap.size + 1]? = some (.cells #[.int .i64 0] 3 (0, 0)) := by
    have := blk_new (w4.alloc (.cells #[.int .i64 0] 22)) (.cells #[.int .i64 0] 3)
    rw [World.size_alloc] at this; rw [← hw6]; exact this
  have b46 := b4.trans (b6.mono (by omega))
  have hW := codeWork_any w.heap.size (w.heap.size + 1) (w.heap.size + 2) w.heap.size rule text w6 h1 h2 ((b6.block _ (blk_lt t0)).trans t0) ((b6.block _ (blk_lt t1)).trans t1) ((b6.block _ (blk_lt t3)).trans t3) (tab_up ht b46 b46.size) (hT.on b46 (Nat.le_refl _))
  have hA := attempt_gen 59 #[.pointer (some ⟨w.heap.size, 0, none⟩), .pointer (some ⟨w.heap.size + 1, 0, none⟩), .pointer (some ⟨w.heap.size + 2, 0, none⟩)] w4 (enters_of Tryz.func59 (by kernel_rfl) rfl)
    (fun r w' => CodeR rule text (w.heap.size + 2) w6 r w')
    (by
      rw [hw6]
      refine hW.mono fun e w' ho => ⟨?_, ho⟩
      have hg : w6.grownBy w' (some (w.heap.size + 2)) := by
        rcases ho with ⟨_, h, _⟩ | ⟨_, _, _, h, _⟩ <;> exact h
      exact ⟨(hg.block _ (blk_lt u0) (fun e => by have := Option.some.inj e; omega)).trans u0, (hg.block _ (blk_lt u1) (fun e => by have := Option.some.inj e; omega)).trans u1⟩)
  clear hW u0 u1 t0 t1 t3
  obtain ⟨⟨p, k, i⟩, hO⟩ : ∃ o, codeA rule text = o := ⟨_, rfl⟩
  have hlt : w.heap.size + 2 < w4.heap.size := by omega
  have R0 : Hid (∀ r w8 w7, CodeR rule text (w.heap.size + 2) w6 r w8 → Below w4.heap.size w8 w7 → r.getD (0, 0) = (k, i) ∧ w7.heap[w.heap.size + 1 + 1]? = some (.cells #[.string p] 9 (0, 0)) ∧ Below w.heap.size w w7) := by
    rintro r w8 w7 ⟨hg8, hr8, hc8⟩ hb7
    rw [hO] at hr8 hc8
    exact ⟨hr8, (hb7.block _ hlt).trans hc8, b46.trans ((grown_belowS hg8 (by omega) (by omega)).trans (hb7.mono (by omega)))⟩
  rw [hO]
  clear hO b4 b6 b46 s4 s6 hlt h1 h2 ht hT
  subst hw4
  go_enter Tryz.func33, Tryz.ntmps33
  go_wp2_with (go_at_call 38; refine hA.mono ?_; rintro e w7 ⟨r, rfl, w8, hR8, hb7⟩; obtain ⟨hr, c1, hB⟩ := R0.out _ _ _ hR8 hb7; rw [hr]; clear hr hR8 hb7; have m0 := topc c1)
  exact bodyPost_ret (v := .tuple #[.string p, .int .i64 k, .int .i64 i]) (by simp [results, Tryz.results33]) rfl ⟨rfl, hB⟩

end Go.Proofs.YtiohpcnnpmnjhaaGreatDoor
