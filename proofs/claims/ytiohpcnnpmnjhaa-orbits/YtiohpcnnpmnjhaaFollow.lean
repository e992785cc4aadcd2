import Derived.Test.YtiohpcnnpmnjhaaAdd
namespace Go.Proofs.Ytiohpcnnpmnjhaa
open Go.RowKit Go.Shelf
set_option linter.unusedVariables false
attribute [local go_sem] Oper.semAt_some

set_option maxHeartbeats 400000 in
theorem generations_any (L : Array Value) (v : Value) (w : World) (hv : ∃ a n c, v = .slice a n c) :
    Calls Try.prog 33 #[.agg L, v] w fun e w' => e = .returned (.func (.func 49) #[] #[.pointer (some ⟨w.heap.size + 1, 0, none⟩), .pointer (some ⟨w.heap.size, 0, none⟩)]) ∧ w' = (w.alloc (.cells L 44)).alloc (.cells #[v] 65) := by
  have hmf : ∀ (fn : Fn) (first cap : Array Value) (w : World), (Instr.makeFunc fn first cap).run Try.prog w = .ok (.func fn first cap) w := fun _ _ _ _ => rfl
  obtain ⟨a, n, c, rfl⟩ := hv
  go_enter Try.func33, Try.ntmps33
  go_wp2
  go_ret
  exact ⟨rfl, rfl⟩

theorem course_from {f g : Nat → Bool} {C : List Cel} : ∀ (t : Nat), t ≤ 201 → (∀ r, r < t → (gen f g C r).length ≤ 100 ∧ cameB f g C r = none) → course f g C = courseF f g C (201 - t) t
  | 0, _, _ => rfl
  | t + 1, ht, h => by
    rw [course_from t (by omega) (fun r hr => h r (by omega))]
    have h1 := h t (by omega)
    obtain ⟨k, hk⟩ : ∃ k, 201 - t = k + 1 := ⟨200 - t, by omega⟩
    rw [hk, courseF, if_neg (by omega), h1.2, show 201 - (t + 1) = k by omega]
    rfl
theorem course_big {f g : Nat → Bool} {C : List Cel} {t : Nat} (ht : t ≤ 200) (h : ∀ r, r < t → (gen f g C r).length ≤ 100 ∧ cameB f g C r = none) (hb : 100 < (gen f g C t).length) : course f g C = .inl 5 := by
  rw [course_from t (by omega) h]
  obtain ⟨k, hk⟩ : ∃ k, 201 - t = k + 1 := ⟨200 - t, by omega⟩
  rw [hk, courseF, if_pos hb]
theorem course_came {f g : Nat → Bool} {C : List Cel} {t s : Nat} (ht : t ≤ 200) (h : ∀ r, r < t → (gen f g C r).length ≤ 100 ∧ cameB f g C r = none) (hl : (gen f g C t).length ≤ 100) (hc : cameB f g C t = some s) : course f g C = .inr (t, s) := by
  rw [course_from t (by omega) h]
  obtain ⟨k, hk⟩ : ∃ k, 201 - t = k + 1 := ⟨200 - t, by omega⟩
  rw [hk, courseF, if_neg (by omega), hc]
  rfl
theorem course_end {f g : Nat → Bool} {C : List Cel} (h : ∀ r, r < 201 → (gen f g C r).length ≤ 100 ∧ cameB f g C r = none) : course f g C = .inl 7 := by
  rw [course_from 201 (by omega) h]; rfl

/-- The whole story, as a value. -/
def storyV (gs : Value) (c : Int × Int × Int × Int) : Array Value := #[gs, .int .i64 c.1, .int .i64 c.2.1, .int .i64 c.2.2.1, .int .i64 c.2.2.2]
/-- What follow leaves. -/
def FollowOut (f g : Nat → Bool) (C : List Cel) (w : World) (e : Ending) (w' : World) : Prop :=
  Below w.heap.size w w' ∧ match course f g C with
    | .inl k => e = .panicked (refusal k 0)
    | .inr (t, s) => t ≤ 200 ∧ s < t ∧ cameB f g C t = some s ∧ ∃ gs vs, vs.length = t + 1 ∧ e = .returned (.agg (storyV gs (cycOf f g C t))) ∧ Rows2 w' 0 w.heap.size f g C vs gs

/-- What the rounds leave. -/
structure FInv (w : World) (f g : Nat → Bool) (C : List Cel) (pre : List GenV) (W : World) : Prop where
  st : ∃ gs, Story W (w.heap.size + 2) w.heap.size f g C (pre.map (·.2)) (0, 0, 0, 0) gs
  no : ∀ r, r < pre.length → (gen f g C r).length ≤ 100 ∧ cameB f g C r = none
  rs : W.heap[w.heap.size + 1]? = some (.cells #[.slice none 0 0, .int .i64 0, .int .i64 0, .int .i64 0, .int .i64 0] 50 (0, 0))
  be : Below w.heap.size w W
/-- What a round leaves that ends them. -/
structure FEnd (w : World) (f g : Nat → Bool) (C : List Cel) (pre : List GenV) (W : World) : Prop where
  ok : ∃ t s gs vs, t ≤ 200 ∧ s < t ∧ cameB f g C t = some s ∧ course f g C = .inr (t, s) ∧ vs.length = t + 1 ∧ W.heap[w.heap.size + 1]? = some (.cells (storyV gs (cycOf f g C t)) 50 (0, 0)) ∧ Rows2 W 0 w.heap.size f g C vs gs
  be : Below w.heap.size w W

theorem infoS : (Try.prog.info? 50).map (·.size) = some 5 := by kernel_rfl
theorem cameB_lt {f g : Nat → Bool} {C : List Cel} {t s : Nat} (h : cameB f g C t = some s) : s < t := by
  unfold cameB at h
  exact List.mem_range.1 (List.mem_of_find?_eq_some h)
theorem told_below {w W w1 : World} {S : Nat} (h : Below w.heap.size w W) (ht : Told W w1 S w.heap.size) (hS : w.heap.size ≤ S) : Below w.heap.size w w1 :=
  ⟨ht.os.trans h.os, ht.tape.trans h.tape, ht.output.trans h.output, Nat.le_trans h.size ht.size, fun k hk => by
    have hkW : k < W.heap.size := Nat.lt_of_lt_of_le hk h.size
    have h1 : W.heap[k]? = some W.heap[k] := by simp [hkW]
    rw [← h.block k hk, h1]
    exact ht.same k _ h1 (by omega) (.inl hk)⟩
theorem told_keeps {W w1 : World} {S B N : Nat} (ht : Told W w1 S B) (hS : S < N) : KeepsFrom N W w1 :=
  ⟨ht.size, fun k o hB hk ho => ht.same k o hk (by omega) (.inr fun cs fz e => by subst e; cases ho)⟩
theorem told_kpI {W w1 : World} {S B : Nat} (ht : Told W w1 S B) {cs : Array Value} (hS : W.heap[S]? = some (.cells cs 50 (0, 0))) : KpI W w1 :=
  ⟨ht.size, fun k o hk hkp => ht.same k o hk (fun e => by
      subst e
      rw [hS] at hk; cases hk
      rcases hkp with h | h <;> exact absurd h (by decide)) (.inr fun cs' fz e => by
      subst e
      rcases hkp with h | h <;> exact absurd h (by decide))⟩

set_option maxRecDepth 100000 in
set_option maxHeartbeats 1600000 in
theorem follow_walk (hmv : MoveDoes) (hnext : NextDoes) (f g : Nat → Bool) (C : List Cel) (X Y : Int) (hasc : Asc C) (hr : ∀ t, t ≤ 300 → Roam X Y (gen f g C t)) (hl : C.length ≤ 100) (v : Value) (w : World) (own : w.ownsRow 0 99 2 v C.length (flatC C)) :
    CallsIn Fence.wide 9 Try.prog 25 #[.agg (twoN f g), v] w (FollowOut f g C w) := by
  have hadd := fun S B vs gs v w hst hB ht own hlen => add_walk hmv f g C X Y hr S B vs gs v w hst hB ht own hlen
  have HL : Hid ((Try.prog.info? 44).map (·.size) = some (twoN f g).size) := infoL
  have hseq := fun (w0 : World) own0 hBf hBl => gens_seq hnext 8 (by omega) f g C X Y v (w.heap.size + 4) (w.heap.size + 3) w0 hasc hr hl own0 hBf hBl
  obtain ⟨av, cv, rfl⟩ := row_slice own
  obtain ⟨L, hL⟩ : ∃ L, twoN f g = L := ⟨_, rfl⟩
  rw [hL] at HL
  simp only [hL] at hseq ⊢
  clear hL
  refine callsIn_of_wp_marks Try.func25 rfl trivial ?_ rfl
  simp only [Try.ntmps25, List.size_toArray, List.length_cons, List.length_nil, Nat.reduceAdd, Nat.reduceSub, Array.replicate_succ, Array.replicate_zero, List.push_toArray, List.append_toArray, List.nil_append, List.cons_append]
  have bl := blk_old (blk_old (blk_new w (.cells L 44)) (.cells #[.slice none 0 0, .int .i64 0, .int .i64 0, .int .i64 0, .int .i64 0] 50)) (.cells #[.slice none 0 0, .int .i64 0, .int .i64 0, .int .i64 0, .int .i64 0] 50)
  gi_wp2_with (first
    | (refine wpListIn_load_all rfl 44 (Operand.tmp 2) rfl w.heap.size rfl 44 L (0, 0) _ bl Try.underlying44 rfl HL.out ?_)
    | (refine ⟨trivial, ?_⟩; gi_at_call 33; refine (callsIn_wide.2 (generations_any L _ _ ⟨av, _, cv, rfl⟩)).mono ?_; rintro e w2 ⟨rfl, rfl⟩))
  have t1 := blk_old (blk_old (blk_old (blk_new (w.alloc (.cells L 44)) (.cells #[.slice none 0 0, .int .i64 0, .int .i64 0, .int .i64 0, .int .i64 0] 50)) (.cells #[.slice none 0 0, .int .i64 0, .int .i64 0, .int .i64 0, .int .i64 0] 50)) (.cells L 44)) (.cells #[.slice av C.length cv] 65)
  have t2 := blk_old (blk_old (blk_new ((w.alloc (.cells L 44)).alloc (.cells #[.slice none 0 0, .int .i64 0, .int .i64 0, .int .i64 0, .int .i64 0] 50)) (.cells #[.slice none 0 0, .int .i64 0, .int .i64 0, .int .i64 0, .int .i64 0] 50)) (.cells L 44)) (.cells #[.slice av C.length cv] 65)
  have t3 := blk_old (blk_new (((w.alloc (.cells L 44)).alloc (.cells #[.slice none 0 0, .int .i64 0, .int .i64 0, .int .i64 0, .int .i64 0] 50)).alloc (.cells #[.slice none 0 0, .int .i64 0, .int .i64 0, .int .i64 0, .int .i64 0] 50)) (.cells L 44)) (.cells #[.slice av C.length cv] 65)
  have t4 := blk_new ((((w.alloc (.cells L 44)).alloc (.cells #[.slice none 0 0, .int .i64 0, .int .i64 0, .int .i64 0, .int .i64 0] 50)).alloc (.cells #[.slice none 0 0, .int .i64 0, .int .i64 0, .int .i64 0, .int .i64 0] 50)).alloc (.cells L 44)) (.cells #[.slice av C.length cv] 65)
  simp only [World.size_alloc, Nat.add_assoc, Nat.reduceAdd] at t1 t2 t3 t4
  have hB5 : Below w.heap.size w (((((w.alloc (.cells L 44)).alloc (.cells #[.slice none 0 0, .int .i64 0, .int .i64 0, .int .i64 0, .int .i64 0] 50)).alloc (.cells #[.slice none 0 0, .int .i64 0, .int .i64 0, .int .i64 0, .int .i64 0] 50)).alloc (.cells L 44)).alloc (.cells #[.slice av C.length cv] 65)) := (((((Below.refl _ w).alloc (Nat.le_refl _) _).alloc (by simp) _).alloc (by simp; omega) _).alloc (by simp; omega) _).alloc (by simp; omega) _
  have z5 : w.heap.size + 5 ≤ (((((w.alloc (.cells L 44)).alloc (.cells #[.slice none 0 0, .int .i64 0, .int .i64 0, .int .i64 0, .int .i64 0] 50)).alloc (.cells #[.slice none 0 0, .int .i64 0, .int .i64 0, .int .i64 0, .int .i64 0] 50)).alloc (.cells L 44)).alloc (.cells #[.slice av C.length cv] 65)).heap.size := by simp
  have own5 := rowBelow own hB5
  have hsq := hseq _ own5 t4 t3
  clear hseq bl t3 t4 hnext hmv
  generalize (((((w.alloc (.cells L 44)).alloc (.cells #[.slice none 0 0, .int .i64 0, .int .i64 0, .int .i64 0, .int .i64 0] 50)).alloc (.cells #[.slice none 0 0, .int .i64 0, .int .i64 0, .int .i64 0, .int .i64 0] 50)).alloc (.cells L 44)).alloc (.cells #[.slice av C.length cv] 65)) = W0 at *
  refine wpIn_rangeP (α := GenV) (encs := encG) rfl (by omega) (gf := 49) rfl trivial (enters_of Try.func49 (by kernel_rfl) rfl) hsq KpI.trans ?kb (fun _ => rfl) (FInv w f g C) (fun c pre W => c = .ret ∧ FEnd w f g C pre W) ?hI ?hIx ?hEl ?h0
    (fun x => { tmps := #[.agg L, .slice av C.length cv, .pointer (some ⟨w.heap.size, 0, none⟩), undef, .pointer (some ⟨w.heap.size + 1, 0, none⟩), .pointer (some ⟨w.heap.size + 1 + 1, 0, none⟩), undef, x.2, .agg L, .slice av C.length cv, .func (.func 49) #[] #[.pointer (some ⟨w.heap.size + 4, 0, none⟩), .pointer (some ⟨w.heap.size + 3, 0, none⟩)], .int .i64 (x.1 : Int), x.2, undef, undef, undef, undef, undef], defers := [] }) ?assign ?body ?done ?stop ?pan
  case kb =>
    intro W l r o hlt hl2
    refine ⟨by simp, fun k o' hk hkp => ?_⟩
    by_cases e : k = l
    · subst e; rw [hl2] at hk; cases hk; exact hkp.elim
    · exact (World.putObj_heap_other e).trans hk
  case hI =>
    rintro pre A B ⟨⟨gs, h1, h2, h3⟩, h4, h5, h6⟩ hab
    exact ⟨⟨gs, hab.cells _ _ h1 rfl, hab.row h2, fun i v hv => hab.row (h3 i v hv)⟩, h4, hab.cells _ _ h5 rfl, h6.trans (hab.be.mono (by omega))⟩
  case hIx =>
    rintro c pre A B ⟨rfl, ⟨t, s', gs, vs, h1, h2, h3, h4, h5, h6, h7⟩, h8⟩ hab
    exact ⟨rfl, ⟨t, s', gs, vs, h1, h2, h3, h4, h5, hab.cells _ _ h6 rfl, hab.row h7.own, fun i v hv => hab.row (h7.all i v hv)⟩, h8.trans (hab.be.mono (by omega))⟩
  case hEl =>
    rintro pre x A B ⟨h1, h2, h3, h4⟩ hab
    exact ⟨h1, h2, hab.row h3, h4⟩
  case h0 => exact ⟨⟨.slice none 0 0, t2, ⟨rfl, .inl ⟨rfl, rfl⟩⟩, fun i v hv => by simp at hv⟩, fun r hr' => by simp at hr', t1, hB5⟩
  case assign =>
    rintro l ⟨n, v⟩ W K hK
    simp only [encG]
    gi_wp2
    exact hK
  case body =>
    rintro l pre ⟨n, v⟩ W hl0 ⟨⟨gs, hst⟩, h4, h5, h6⟩ ⟨e1, e2, e3, e4⟩
    simp only at e1 e3
    have hvl : (pre.map (·.2)).length = pre.length := List.length_map ..
    have hA := hadd (w.heap.size + 2) w.heap.size (pre.map (·.2)) gs v W hst h6.size (by rw [hvl]; exact e2) (by rw [hvl]; exact e3) (fun i hi => by
      rw [hvl] at hi
      by_cases e : i = pre.length
      · rw [e]; exact e4
      · exact (h4 i (by omega)).1)
    have hmap : (pre ++ [((n, v) : GenV)]).map (·.2) = pre.map (·.2) ++ [v] := by simp
    have HV : Hid ((pre.map (·.2)).length = pre.length) := hvl
    have hW0 : w.heap.size + 2 < W0.heap.size := by omega
    clear hvl hadd
    dsimp only
    cases hc : cameB f g C (pre.map (·.2)).length with
    | none =>
      have hcy : cycOf f g C (pre.map (·.2)).length = (0, 0, 0, 0) := by unfold cycOf; rw [hc]
      gi_wp2_with (refine ⟨trivial, ?_⟩; gi_at_call 34; refine (CallsIn.inRound l (callsIn_wide.2 hA)).mono ?_; rintro e w1 ⟨he, htd, gs', hst'⟩; rw [hc] at he; simp only [Option.isSome_none] at he; subst he)
      rw [hcy] at hst'
      refine ⟨told_keeps htd hW0, told_kpI htd hst.st, ⟨⟨gs', by rw [hmap]; exact hst'⟩, fun r hr' => ?_, htd.same _ _ h5 (by omega) (.inr fun cs fz e => by cases e), told_below h6 htd (by omega)⟩⟩
      simp only [List.length_append, List.length_cons, List.length_nil] at hr'
      by_cases e : r = pre.length
      · rw [e]; rw [HV.out] at hc; exact ⟨e4, hc⟩
      · exact h4 r (by omega)
    | some s' =>
      obtain ⟨⟨y1, y2, y3, y4⟩, hcy⟩ : ∃ cy, cycOf f g C (pre.map (·.2)).length = cy := ⟨_, rfl⟩
      gi_wp2_with (refine ⟨trivial, ?_⟩; gi_at_call 34; refine (CallsIn.inRound l (callsIn_wide.2 hA)).mono ?_; rintro e w1 ⟨he, htd, gs', hst'⟩; rw [hc] at he; simp only [Option.isSome_some] at he; subst he
                   rw [hcy] at hst'
                   obtain ⟨ag, cg, hgs⟩ := row_slice hst'.own
                   subst hgs
                   have q0 := cell_of hst'.st 0; have q1 := cell_of hst'.st 1; have q2 := cell_of hst'.st 2; have q3 := cell_of hst'.st 3; have q4 := cell_of hst'.st 4
                   have r1 := htd.same _ _ h5 (by omega) (.inr fun cs fz e => by cases e)
                   have p0 := cell_of r1 0; have p1 := cell_of r1 1; have p2 := cell_of r1 2; have p3 := cell_of r1 3; have p4 := cell_of r1 4
                   have x0 := frz_of r1 0; have x1 := frz_of r1 1; have x2 := frz_of r1 2; have x3 := frz_of r1 3; have x4 := frz_of r1 4)
      have hlv : (pre.map (·.2) ++ [v]).length = pre.length + 1 := by simp
      have hown := hst'.own
      rw [hlv] at hown
      have hc' : cameB f g C pre.length = some s' := by rw [← HV.out]; exact hc
      have hcy' : cycOf f g C pre.length = (y1, y2, y3, y4) := by rw [← HV.out]; exact hcy
      have r2 := blk_put (j := 0) r1 (.slice ag (pre.length + 1) cg)
      have r3 := blk_put (j := 1) r2 (.int .i64 y1)
      have r4 := blk_put (j := 2) r3 (.int .i64 y2)
      have r5 := blk_put (j := 3) r4 (.int .i64 y3)
      have r6 := blk_put (j := 4) r5 (.int .i64 y4)
      have k1 : Rows2 w1 (w.heap.size + 1) w.heap.size f g C (pre.map (·.2) ++ [v]) (.slice ag (pre.length + 1) cg) := ⟨by rw [hlv]; exact hown, hst'.all⟩
      have k6 := ((((k1.set r1 0 (.slice ag (pre.length + 1) cg)).set r2 1 (.int .i64 y1)).set r3 2 (.int .i64 y2)).set r4 3 (.int .i64 y3)).set r5 4 (.int .i64 y4)
      have b1 := told_below h6 htd (by omega)
      have b6 := ((((b1.setCell (p := ⟨w.heap.size + 1, 0, none⟩) (by simp) (.slice ag (pre.length + 1) cg)).setCell (p := ⟨w.heap.size + 1, 1, none⟩) (by simp) (.int .i64 y1)).setCell (p := ⟨w.heap.size + 1, 2, none⟩) (by simp) (.int .i64 y2)).setCell (p := ⟨w.heap.size + 1, 3, none⟩) (by simp) (.int .i64 y3)).setCell (p := ⟨w.heap.size + 1, 4, none⟩) (by simp) (.int .i64 y4)
      refine ⟨(told_keeps htd hW0).trans ((((((KeepsOthers.setCell _ _ _).trans (KeepsOthers.setCell _ _ _)).trans (KeepsOthers.setCell _ _ _)).trans (KeepsOthers.setCell _ _ _)).trans (KeepsOthers.setCell _ _ _)).from _), rfl, ⟨pre.length, s', .slice ag (pre.length + 1) cg, pre.map (·.2) ++ [v], e2, cameB_lt hc', hc', course_came e2 h4 e4 hc', hlv, ?_, k6.own, k6.all⟩, b6⟩
      rw [hcy']
      exact r6
  case done =>
    rintro D xs W hD hE ⟨⟨gs, hst⟩, h4, h5, h6⟩ hK
    have hco := course_end (f := f) (g := g) (C := C) (fun r hr' => h4 r (by omega))
    gi_wp2_with (refine ⟨trivial, ?_⟩; gi_at_call 20; refine (callsIn_wide.2 (giveUp_any 7 0 _)).mono ?_; rintro e w' ⟨rfl, rfl⟩)
    refine ⟨by simp, .inl ⟨_, _, rfl, run_takeDeferred hK, ?_⟩⟩
    show FollowOut f g C w _ _
    unfold FollowOut
    rw [hco]
    exact ⟨h6.trans (Ab.putObj (by omega) hK rfl _).be, rfl⟩
  case stop =>
    rintro D c pre W hD ⟨rfl, ⟨t, s', gs, vs, g1, g2, g3, g4, g5, g6, g7⟩, g8⟩ hK
    gi_wp2
    refine ⟨by simp, .inl ⟨_, _, rfl, run_takeDeferred hK, ?_⟩⟩
    have hab : Ab w.heap.size W (W.putObj D (.deferred none)) := Ab.putObj (by omega) hK rfl _
    refine ⟨.agg (storyV gs (cycOf f g C t)), results_cell_row Try.results25 _ _ (w.heap.size + 1) 50 (storyV gs (cycOf f g C t)) (0, 0) _ rfl (hab.cells _ _ g6 rfl) Try.underlying50 rfl infoS, ?_⟩
    show FollowOut f g C w _ _
    unfold FollowOut
    rw [g4]
    exact ⟨g8.trans hab.be, g1, g2, g3, gs, vs, g5, rfl, hab.row g7.own, fun i v hv => hab.row (g7.all i v hv)⟩
  case pan =>
    rintro D ch pre W hD ⟨rfl, hp1, hp2, hp3⟩ ⟨⟨gs, hst⟩, h4, h5, h6⟩ hK
    have hco := course_big hp2 h4 hp3
    simp only [Exit.inBlock, Exit.then]
    refine ⟨by simp, .inl ⟨_, _, rfl, run_takeDeferred hK, ?_⟩⟩
    show FollowOut f g C w _ _
    unfold FollowOut
    rw [hco]
    exact ⟨h6.trans (Ab.putObj (by omega) hK rfl _).be, rfl⟩

end Go.Proofs.Ytiohpcnnpmnjhaa
