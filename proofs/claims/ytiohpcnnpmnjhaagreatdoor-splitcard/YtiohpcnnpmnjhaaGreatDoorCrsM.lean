import Derived.Test.YtiohpcnnpmnjhaaGreatDoorLfbM
import Derived.Test.YtiohpcnnpmnjhaaGreatDoorRulM
import Derived.Test.YtiohpcnnpmnjhaaGreatDoorRefCells2
import Derived.Test.YtiohpcnnpmnjhaaGreatDoorSrtM
namespace Go.Proofs.YtiohpcnnpmnjhaaGreatDoor
open Go.RowKit
set_option linter.unusedVariables false

theorem infoRL : (Tryz.prog.info? 25).map (fun i => (i.zero, i.size, i.bytes)) = some (some (.slice none 0 0), 1, 24) := by kernel_rfl

/-- A list of cells in memory of its own. -/
abbrev RowOwn (w : World) (v : Value) (C : List Cel) : Prop := w.ownsRow 0 44 2 v C.length (flatC C)
theorem rowOwn_on {w w' : World} {v : Value} {C : List Cel} (h : RowOwn w v C) (hb : Below w.heap.size w w') : RowOwn w' v C := ownsRow_on h hb
theorem rowOwn_grown {W w1 : World} {B m : Nat} {v va : Value} {C : List Cel} {vs : List Value} {o : Obj} (h : RowOwn W v C) (own : W.ownsRow B 25 1 va m vs) (hg : World.grownBy (W.alloc o) w1 va.ownBlock) : RowOwn w1 v C := by
  obtain ⟨h1, h2⟩ := h
  refine ⟨h1, ?_⟩
  rcases h2 with h2 | ⟨g, cap, cur, hv, hgb, hh, r⟩
  · exact .inl h2
  · exact .inr ⟨g, cap, cur, hv, hgb, other_kept (own.alloc o) hg (blk_old hh o) (by decide), r⟩

/-- The generations so far, and what they are. -/
structure AllInv (w : World) (f g : Nat → Bool) (C : List Cel) (t : Nat) (va : Value) (vs : List Value) (W : World) : Prop where
  own : W.ownsRow (w.heap.size + 2) 25 1 va t vs
  len : vs.length = t
  rows : ∀ (j : Nat) v, vs[j]? = some v → RowOwn W v (gen f g C j)
  small : ∀ j, j < t → (gen f g C j).length ≤ 1000
  box : W.heap[w.heap.size]? = some (.cells (twoN f g) 77 (0, 0))
  cyc : W.heap[w.heap.size + 1]? = some (.cells #[.int .i64 0, .int .i64 0, .int .i64 0, .int .i64 0] 54 (0, 0))
  be : Below w.heap.size w W
theorem AllInv.on {w : World} {f g : Nat → Bool} {C : List Cel} {t : Nat} {va : Value} {vs : List Value} {W W' : World} (h : AllInv w f g C t va vs W) (hb : Below W.heap.size W W') : AllInv w f g C t va vs W' :=
  ⟨ownsRow_on h.own hb, h.len, fun j v hv => rowOwn_on (h.rows j v hv) hb, h.small, (hb.block _ (blk_lt h.box)).trans h.box, (hb.block _ (blk_lt h.cyc)).trans h.cyc, h.be.trans (hb.mono h.be.size)⟩
theorem AllInv.more {w : World} {f g : Nat → Bool} {C : List Cel} {t : Nat} {va va' v : Value} {vs : List Value} {W w1 : World} {o : Obj} (h : AllInv w f g C t va vs W) (hsm : (gen f g C t).length ≤ 1000) (hv : RowOwn W v (gen f g C t)) (own1 : w1.ownsRow (w.heap.size + 2) 25 1 va' (t + 1) (vs ++ [v])) (hg : World.grownBy (W.alloc o) w1 va.ownBlock) :
    AllInv w f g C (t + 1) va' (vs ++ [v]) w1 ∧ RowOwn w1 v (gen f g C t) := by
  have hl := blk_lt h.cyc
  have h1 : Below (w.heap.size + 2) W w1 := ((Below.refl _ _).alloc (by omega) _).grown hg (by simp; omega) (fun k hk => (h.own.lt k hk).1)
  refine ⟨⟨own1, by simp [h.len], fun j u hu => ?_, fun j hj => ?_, (h1.block _ (by omega)).trans h.box, (h1.block _ (by omega)).trans h.cyc, h.be.trans (h1.mono (by omega))⟩, rowOwn_grown hv h.own hg⟩
  rotate_left
  · by_cases e : j = t
    · subst e; exact hsm
    · exact h.small j (by omega)
  rw [List.getElem?_append] at hu
  split at hu
  · exact rowOwn_grown (h.rows j u hu) h.own hg
  · have hj : j = t := by
      have hlt : j - vs.length < 1 := by
        have := (List.getElem?_eq_some_iff.1 hu).1
        simpa using this
      rw [h.len] at hlt
      rename_i hnl
      rw [h.len] at hnl
      omega
    subst hj
    rw [h.len] at hu
    simp at hu
    subst hu
    exact rowOwn_grown hv h.own hg

theorem all_get {W : World} {B n : Nat} {va : Value} {vs : List Value} (own : W.ownsRow B 25 1 va n vs) (h : 0 < n) :
    ∃ gb cap, va = .slice (some ⟨gb, 0, none⟩) n cap ∧ gb < W.heap.size ∧ ∀ (i : Nat) v, vs[i]? = some v → W.cell? ⟨gb, i, none⟩ = some v := by
  rcases own.2 with ⟨h1, h2⟩ | ⟨gb, cap, cur, rfl, hg, hh, hn, hc, hz, ht⟩
  · omega
  · refine ⟨gb, cap, rfl, blk_lt hh, fun i v hv => ?_⟩
    rw [← ht, List.getElem?_take] at hv
    split at hv
    · simpa [World.cell?, hh] using hv
    · cases hv

/-- What the reference's Course does. -/
def CourseOut (f g : Nat → Bool) (C : List Cel) (w : World) (e : Ending) (w' : World) : Prop :=
  Below w.heap.size w w' ∧ match course f g C with
    | .inl k => e = .returned (.tuple #[.slice none 0 0, .agg #[.int .i64 0, .int .i64 0, .int .i64 0, .int .i64 0], .int .i64 k])
    | .inr (t, s) => ∃ va vs, e = .returned (.tuple #[va, .agg #[.int .i64 (s : Int), .int .i64 ((t : Int) - (s : Int)), .int .i64 (wayD (gen f g C s) (gen f g C t)).1, .int .i64 (wayD (gen f g C s) (gen f g C t)).2], .int .i64 0]) ∧
      w'.ownsRow w.heap.size 25 1 va (t + 1) vs ∧ vs.length = t + 1 ∧ ∀ (j : Nat) v, vs[j]? = some v → RowOwn w' v (gen f g C j)

theorem rowc_set {W : World} {B b j m n : Nat} {cs : Array Value} {t e : TypeId} {fz : Nat × Nat} {v : Value} {xs : List Value} (hb : W.ownsRow B e m v n xs) (h : W.heap[b]? = some (.cells cs t fz)) (ht : t ≠ e) (u : Value) : (W.setCell ⟨b, j, none⟩ u).ownsRow B e m v n xs := by
  obtain ⟨h1, h2⟩ := hb
  refine ⟨h1, ?_⟩
  rcases h2 with h2 | ⟨g, cap, cur, hv, hgb, hh, r⟩
  · exact .inl h2
  · refine .inr ⟨g, cap, cur, hv, hgb, blk_set hh (fun e => ?_) u, r⟩
    simp only at e
    subst e
    rw [h] at hh; cases hh; exact ht rfl
theorem rowc_four {W : World} {B b m n : Nat} {x y z o : Value} {t e : TypeId} {v : Value} {xs : List Value} (hb : W.ownsRow B e m v n xs) (h : W.heap[b]? = some (.cells #[x, y, z, o] t (0, 0))) (ht : t ≠ e) (p q r s : Value) : ((((W.setCell ⟨b, 0, none⟩ p).setCell ⟨b, 1, none⟩ q).setCell ⟨b, 2, none⟩ r).setCell ⟨b, 3, none⟩ s).ownsRow B e m v n xs :=
  rowc_set (rowc_set (rowc_set (rowc_set hb h ht p) (blk_put h _) ht q) (blk_put (blk_put h _) _) ht r) (blk_put (blk_put (blk_put h _) _) _) ht s
theorem infoLife : (Tryz.prog.info? 77).map (·.size) = some 18 := by kernel_rfl
theorem cyc_put {W : World} {b : Nat} {a c d e : Int} {x y z u : Int} (h : W.heap[b]? = some (.cells #[.int .i64 x, .int .i64 y, .int .i64 z, .int .i64 u] 54 (0, 0))) :
    ((((W.setCell ⟨b, 0, none⟩ (.int .i64 a)).setCell ⟨b, 1, none⟩ (.int .i64 c)).setCell ⟨b, 2, none⟩ (.int .i64 d)).setCell ⟨b, 3, none⟩ (.int .i64 e)).heap[b]? = some (.cells #[.int .i64 a, .int .i64 c, .int .i64 d, .int .i64 e] 54 (0, 0)) :=
  blk_put (j := 3) (blk_put (j := 2) (blk_put (j := 1) (blk_put (j := 0) h _) _) _) _
theorem cyc_below {w W : World} {b : Nat} (h : Below w.heap.size w W) (hb : w.heap.size ≤ b) (p q r s : Value) : Below w.heap.size w ((((W.setCell ⟨b, 0, none⟩ p).setCell ⟨b, 1, none⟩ q).setCell ⟨b, 2, none⟩ r).setCell ⟨b, 3, none⟩ s) :=
  (((h.setCell (p := ⟨b, 0, none⟩) hb _).setCell (p := ⟨b, 1, none⟩) hb _).setCell (p := ⟨b, 2, none⟩) hb _).setCell (p := ⟨b, 3, none⟩) hb _

/-- The answer laid, and left. -/
theorem course_ret {W w : World} {f g : Nat → Bool} {C : List Cel} {a : Act} {fn : Func} {v4 : Value} {k p q r s : Int} (hf : fn = Tryz.f45) (hd : a.defers = []) (h4 : a.tmps.getD 4 undef = v4) (h5 : a.tmps.getD 5 undef = .pointer (some ⟨w.heap.size + 1, 0, none⟩)) (h6 : a.tmps.getD 6 undef = .int .i64 k)
    (hc : W.heap[w.heap.size + 1]? = some (.cells #[.int .i64 p, .int .i64 q, .int .i64 r, .int .i64 s] 54 (0, 0))) (ho : CourseOut f g C w (.returned (.tuple #[v4, .agg #[.int .i64 p, .int .i64 q, .int .i64 r, .int .i64 s], .int .i64 k])) W) : bodyPost Tryz.prog fn (CourseOut f g C w) Exit.ret a W := by
  subst hf
  refine ⟨hd, _, ?_, ho⟩
  have z0 := cell_of hc 0
  have z1 := cell_of hc 1
  have z2 := cell_of hc 2
  have z3 := cell_of hc 3
  have h4' : a.tmps[4]?.getD undef = v4 := by simpa using h4
  have h5' : a.tmps[5]?.getD undef = .pointer (some ⟨w.heap.size + 1, 0, none⟩) := by simpa using h5
  have h6' : a.tmps[6]?.getD undef = .int .i64 k := by simpa using h6
  simp [results, Tryz.results45, go_sem, h4', h5', h6', z0, z1, z2, z3]
theorem courseOut_bad {f g : Nat → Bool} {C : List Cel} {w w' : World} {k : Int} (h : course f g C = .inl k) (hb : Below w.heap.size w w') : CourseOut f g C w (.returned (.tuple #[.slice none 0 0, .agg #[.int .i64 0, .int .i64 0, .int .i64 0, .int .i64 0], .int .i64 k])) w' := by
  unfold CourseOut; rw [h]; exact ⟨hb, rfl⟩

theorem nextL_len (f g : Nat → Bool) (C : List Cel) : (nextL f g C).length ≤ 9 * C.length := by
  have h2 : ∀ l : List Cel, (l.flatMap around).length = 9 * l.length := fun l => by
    induction l with
    | nil => rfl
    | cons a l ih => rw [List.flatMap_cons, List.length_append, ih, around_len, List.length_cons]; omega
  have h1 := fold_len f g C (C.flatMap around) []
  rw [h2] at h1
  simpa [nextL] using h1

set_option maxRecDepth 100000 in
set_option maxHeartbeats 3200000 in
theorem course_any (v : Value) (C : List Cel) (f g : Nat → Bool) (X Y : Int) (w : World) (h : RowOwn w v C) (hasc : Asc C) (hx : -2000000000000000000 ≤ X ∧ X ≤ 2000000000000000000) (hy : -2000000000000000000 ≤ Y ∧ Y ≤ 2000000000000000000) (hbox : InBox X (X + 20000000) Y (Y + 20000000) C) (hl : C.length ≤ 1000) :
    Calls Tryz.prog 45 #[.agg (twoN f g), v] w (CourseOut f g C w) := by
  obtain ⟨i0, hi0, hz0, hz1, hz2⟩ := info_parts infoRL
  have hR : ∀ n, n ≤ 300 → Roam X Y (gen f g C n) := fun n hn => gen_roam hx hy hbox hn
  have hA : ∀ n, Asc (gen f g C n) := fun n => gen_asc hasc n
  have b2 : Below w.heap.size w ((w.alloc (.cells (twoN f g) 77)).alloc (.cells #[.int .i64 0, .int .i64 0, .int .i64 0, .int .i64 0] 54)) := ((Below.refl _ _).alloc (Nat.le_refl _) _).alloc (by simp) _
  have k2 := blk_new (w.alloc (.cells (twoN f g) 77)) (.cells #[.int .i64 0, .int .i64 0, .int .i64 0, .int .i64 0] 54)
  rw [World.size_alloc] at k2
  have I2 : AllInv w f g C 0 (.slice none 0 0) [] ((w.alloc (.cells (twoN f g) 77)).alloc (.cells #[.int .i64 0, .int .i64 0, .int .i64 0, .int .i64 0] 54)) :=
    ⟨World.ownsRow_nil _ _ _ _, rfl, fun j v hv => by simp at hv, fun j hj => by omega, blk_old (blk_new w _) _, k2, b2⟩
  have r2 := rowOwn_on h b2
  go_enter Tryz.func45, Tryz.ntmps45
  go_wp2
  go_loopg [1, 7, 8] 201 (fun gm vl va vt wr => ∃ (t : Nat) (vs : List Value), t ≤ 201 ∧ gm = 201 - t ∧ vt = .int .i64 (t : Int) ∧ AllInv w f g C t va vs wr ∧ RowOwn wr vl (gen f g C t) ∧ (gen f g C t).length ≤ 1000 ∧ Hid (course f g C = courseF f g C (201 - t) t))
  case atStart => exact ⟨0, [], by omega, rfl, rfl, I2, r2, hl, rfl⟩
  case round =>
    clear I2 r2 k2 b2
    obtain ⟨t, vs, ht, rfl, rfl, hI, hrow, hlen, hc⟩ := hrel
    have y0 := cell_of hI.cyc 0
    have y1 := cell_of hI.cyc 1
    have y2 := cell_of hI.cyc 2
    have y3 := cell_of hI.cyc 3
    have x0 := frz_of hI.cyc 0
    have x1 := frz_of hI.cyc 1
    have x2 := frz_of hI.cyc 2
    have x3 := frz_of hI.cyc 3
    by_cases h200 : t ≤ 200
    · have hdt : decide ((t : Int) ≤ 200) = true := decide_eq_true (by omega)
      have hti : (t : Int) ≤ 200 := by omega
      obtain ⟨ad, cp, rfl⟩ := row_slice hrow
      obtain ⟨kk, hkk⟩ : ∃ kk, 201 - t = kk + 1 := ⟨200 - t, by omega⟩
      have HC : Hid (course f g C = if 100 < (gen f g C t).length then .inl 5 else stepC t (courseF f g C (201 - (t + 1)) (t + 1)) (cameB f g C t)) := by
        show _ = _
        rw [hc.out, hkk, courseF, show 201 - (t + 1) = kk by omega]
      by_cases hbig : 100 < (gen f g C t).length
      · have hbd : decide ((100 : Int) < ((gen f g C t).length : Int)) = true := decide_eq_true (by omega)
        have HQ : Hid (course f g C = .inl 5) := by show _ = _; rw [HC.out, if_pos hbig]
        clear hc HC hkk
        go_wp2
        refine course_ret (a := _) rfl rfl rfl rfl rfl (cyc_put hI.cyc) (courseOut_bad HQ.out (cyc_below hI.be (by omega) _ _ _ _))
      · have hbd : decide ((100 : Int) < ((gen f g C t).length : Int)) = false := decide_eq_false (by omega)
        clear hc hkk
        rw [if_neg hbig] at HC
        go_wp2
        go_loopw [7, 9] (fun va vi wy => ∃ s : Nat, s ≤ t ∧ vi = .int .i64 (s : Int) ∧ AllInv w f g C t va vs wy ∧ RowOwn wy (.slice ad (gen f g C t).length cp) (gen f g C t) ∧ Hid (∀ r, r < s → wayB (gen f g C r) (gen f g C t) = false)) (fun _ vi _ => t - (intOf vi).toNat)
        case atStart => exact ⟨0, Nat.zero_le _, rfl, hI, hrow, fun r hr => by omega⟩
        case round =>
          clear hI hrow y0 y1 y2 y3 x0 x1 x2 x3
          obtain ⟨s, hst, rfl, hI, hrow, hno⟩ := hrel
          obtain ⟨ad7, cp7, e7⟩ := row_slice hI.own
          subst e7
          by_cases hlt : s < t
          · have hds : decide ((s : Int) < (t : Int)) = true := decide_eq_true (by omega)
            obtain ⟨us, hus⟩ : ∃ us, vs[s]? = some us := ⟨vs[s]'(by rw [hI.len]; exact hlt), by simp⟩
            obtain ⟨gb, cap, ev, hgb, hget⟩ := all_get hI.own (by omega)
            cases ev
            have d0 := hget s us hus
            have hrs := hI.rows s us hus
            obtain ⟨wf, wx, wy'⟩ := way_roam (hR s (by omega)) (hR t (by omega))
            have hW := way_any us (.slice ad (gen f g C t).length cp) (gen f g C s) (gen f g C t) wr (RowAt.of_owns hrs) (RowAt.of_owns hrow) (by have := hI.small s hlt; omega) (by omega) (hA s) (hA t) wf wx wy'
            obtain ⟨dx, hdx⟩ : ∃ dx, (wayD (gen f g C s) (gen f g C t)).1 = dx := ⟨_, rfl⟩
            obtain ⟨dy, hdy⟩ : ∃ dy, (wayD (gen f g C s) (gen f g C t)).2 = dy := ⟨_, rfl⟩
            cases hwb : wayB (gen f g C s) (gen f g C t) with
            | true =>
              have HQ : Hid (course f g C = .inr (t, s)) := by show _ = _; rw [HC.out, cameB_go hlt hno.out hwb]; rfl
              rw [hwb, hdx, hdy] at hW
              have HX : Hid ((wayD (gen f g C s) (gen f g C t)).1 = dx) := hdx
              have HY : Hid ((wayD (gen f g C s) (gen f g C t)).2 = dy) := hdy
              clear hdx hdy hno HC hus hget hwb
              go_wp2_with (first
                | (go_at_call 23; refine hW.mono ?_; rintro e w5 ⟨rfl, b5⟩; have b6 := b5.alloc b5.size (.cells #[.int .i64 dx, .int .i64 dy] 44); have I6 := hI.on b6; have row6 := rowOwn_on hrow b6; have z6 := blk_new w5 (.cells #[.int .i64 dx, .int .i64 dy] 44))
                | (at_builtin; refine wpList_append_own _ rfl _ _ 53 rfl (w.heap.size + 2) 25 i0 (.slice none 0 0) 1 24 Tryz.underlying53 hi0 hz0 hz1 hz2 rfl (by decide) _ _ _ rfl (I6.own.alloc _) ⟨w5.heap.size + 1, 0, none⟩ 1 1 [.slice ad (gen f g C t).length cp] rfl rfl (fun j u hu => by have hh := cell_one_new (w5.alloc (.cells #[.int .i64 dx, .int .i64 dy] 44)) (.slice ad (gen f g C t).length cp) 25 j u hu; rw [World.size_alloc] at hh; exact hh) (by simp [Value.oneCell']) (by unfold maxLen; omega) (by omega) (by have h1 := blk_lt I6.cyc; simp only [World.size_alloc] at h1 ⊢; omega) ?_; intro va2 w9 own9 hg9 _; obtain ⟨I9, row9⟩ := I6.more hlen row6 own9 hg9; have y0 := cell_of I9.cyc 0; have y1 := cell_of I9.cyc 1; have y2 := cell_of I9.cyc 2; have y3 := cell_of I9.cyc 3; have x0 := frz_of I9.cyc 0; have x1 := frz_of I9.cyc 1; have x2 := frz_of I9.cyc 2; have x3 := frz_of I9.cyc 3; have z9 := other_kept (I6.own.alloc _) hg9 (blk_old z6 _) (by decide); have zz0 := cell_of z9 0; have zz1 := cell_of z9 1))
              go_region
              all_goals
                go_wp2
                refine course_ret (v4 := va2) (W := World.drew _) rfl rfl rfl rfl rfl (cyc_put I9.cyc) ?_
                unfold CourseOut
                rw [HQ.out]
                refine ⟨(cyc_below I9.be (by omega) _ _ _ _).drew, va2, _, by rw [HX.out, HY.out], ownsRow_up (rowc_four I9.own I9.cyc (by decide) _ _ _ _) (by omega), I9.len, fun j v hv => ?_⟩
                exact rowc_four (I9.rows j v hv) I9.cyc (by decide) _ _ _ _
            | false =>
              have HN : Hid (∀ r, r < s + 1 → wayB (gen f g C r) (gen f g C t) = false) := fun r hr => by
                by_cases e : r = s
                · subst e; exact hwb
                · exact hno.out r (by omega)
              rw [hwb, hdx, hdy] at hW
              clear hdx hdy hno hus hget hwb
              go_wp2_with (first
                | (go_at_call 23; refine hW.mono ?_; rintro e w5 ⟨rfl, b5⟩; have b6 := b5.alloc b5.size (.cells #[.int .i64 dx, .int .i64 dy] 44); have I6 := hI.on b6; have row6 := rowOwn_on hrow b6; have z6 := blk_new w5 (.cells #[.int .i64 dx, .int .i64 dy] 44)))
              go_roundw
              case rel => exact ⟨s + 1, by omega, by go_num, I6, row6, HN⟩
              case measure => simp [intOf]; omega
          · have hds : decide ((s : Int) < (t : Int)) = false := decide_eq_false (by omega)
            obtain rfl : s = t := by omega
            have HQ : Hid (course f g C = courseF f g C (201 - (s + 1)) (s + 1)) := by show _ = _; rw [HC.out, cameB_none hno.out]; rfl
            have hNx := fun W hRw => next_any (.slice ad (gen f g C s).length cp) (gen f g C s) f g W hRw hlen (hA s) (hR s (by omega)).mild
            have hnl := nextL_len f g (gen f g C s)
            clear HC hno
            go_wp2_with (first
              | (at_builtin; refine wpList_append_own _ rfl _ _ 53 rfl (w.heap.size + 2) 25 i0 (.slice none 0 0) 1 24 Tryz.underlying53 hi0 hz0 hz1 hz2 rfl (by decide) _ _ _ rfl (hI.own.alloc _) ⟨wr.heap.size, 0, none⟩ 1 1 [.slice ad (gen f g C s).length cp] rfl rfl (cell_one_new _ _ _) (by simp [Value.oneCell']) (by unfold maxLen; omega) (by omega) (by have h1 := blk_lt hI.cyc; simp only [World.size_alloc] at h1 ⊢; omega) ?_; intro va2 w9 own9 hg9 _; obtain ⟨I9, row9⟩ := hI.more hlen hrow own9 hg9; have y0 := cell_of I9.cyc 0; have y1 := cell_of I9.cyc 1; have y2 := cell_of I9.cyc 2; have y3 := cell_of I9.cyc 3; have x0 := frz_of I9.cyc 0; have x1 := frz_of I9.cyc 1; have x2 := frz_of I9.cyc 2; have x3 := frz_of I9.cyc 3)
              | (refine wpList_load_row rfl 77 (Operand.tmp 2) rfl w.heap.size rfl 77 (twoN f g) (0, 0) _ I9.box Tryz.underlying77 rfl infoLife ?_)
              | (go_at_call 44; refine (hNx _ (RowAt.of_owns row9)).mono ?_; rintro e w10 ⟨⟨vn, rfl, own10⟩, b10⟩))
            go_roundg (201 - (s + 1))
            case measure => omega
            case rel => exact ⟨s + 1, _, by omega, rfl, by go_num, I9.on b10, ownsRow_up own10 (Nat.zero_le _), by show (nextL f g (gen f g C s)).length ≤ 1000; omega, HQ⟩
    · have hdt : decide ((t : Int) ≤ 200) = false := decide_eq_false (by omega)
      have hti : ¬ (t : Int) ≤ 200 := by omega
      obtain rfl : t = 201 := by omega
      have HQ : Hid (course f g C = .inl 7) := hc.out
      go_wp2
      refine course_ret (a := _) rfl rfl rfl rfl rfl (cyc_put hI.cyc) (courseOut_bad HQ.out (cyc_below hI.be (by omega) _ _ _ _))

end Go.Proofs.YtiohpcnnpmnjhaaGreatDoor

namespace Go.Proofs.YtiohpcnnpmnjhaaGreatDoor
open Go.RowKit Go.Shelf
set_option linter.unusedVariables false

theorem ruleR_bad {s : ByteArray} {k : Int} {i : Nat} (h : ruleR s = .inl (k, i)) : (k != 0) = true := by
  unfold ruleR at h
  split at h
  · cases h; rfl
  split at h
  rotate_left
  · cases h; rfl
  split at h
  rotate_left
  · cases h; rfl
  split at h
  rotate_left
  · cases h; rfl
  split at h <;> cases h
  rfl
theorem patR_bad {s : ByteArray} {k : Int} {i : Nat} (h : patR s = .inl (k, i)) : (k != 0) = true := by
  unfold patR at h
  split at h
  · cases h; rfl
  split at h
  · cases h; rfl
  split at h
  · cases h; rfl
  split at h <;> cases h
  rfl

theorem results_cell_row3 {fn : Func} {p u v x : Tmp} {ty : TypeId} (h : fn.results = #[.cell p ty, .tmp u, .tmp v, .tmp x]) (P : Program) (tmps : Array Value) (w : World) (g : Nat) (cs : Array Value)
    (hp : tmps.getD p undef = .pointer (some ⟨g, 0, none⟩)) (hl : (loadVar ty ⟨g, 0, none⟩).run P w = .ok (.agg cs) w) :
    (results fn tmps).run P w = .ok (.tuple #[.agg cs, tmps.getD u undef, tmps.getD v undef, tmps.getD x undef]) w := by
  have hp' : tmps[p]?.getD undef = .pointer (some ⟨g, 0, none⟩) := by simpa using hp
  simp [results, h, hp', asAddr, hl]
theorem results_cell_row4 {fn : Func} {p u v x : Tmp} {ty : TypeId} (h : fn.results = #[.tmp u, .cell p ty, .tmp v, .tmp x]) (P : Program) (tmps : Array Value) (w : World) (g : Nat) (cs : Array Value)
    (hp : tmps.getD p undef = .pointer (some ⟨g, 0, none⟩)) (hl : (loadVar ty ⟨g, 0, none⟩).run P w = .ok (.agg cs) w) :
    (results fn tmps).run P w = .ok (.tuple #[tmps.getD u undef, .agg cs, tmps.getD v undef, tmps.getD x undef]) w := by
  have hp' : tmps[p]?.getD undef = .pointer (some ⟨g, 0, none⟩) := by simpa using hp
  simp [results, h, hp', asAddr, hl]

/-- What the reference's given does. -/
def GivenOut (rule text : ByteArray) (w : World) (e : Ending) (w' : World) : Prop :=
  Below w.heap.size w w' ∧ match ruleR rule with
    | .inl (k, i) => e = .returned (.tuple #[.agg (twoN noD noD), .slice none 0 0, .int .i64 k, .int .i64 (i : Int)])
    | .inr (f, g) => match patR text with
      | .inl (k, i) => e = .returned (.tuple #[.agg (twoN f g), .slice none 0 0, .int .i64 k, .int .i64 (i : Int)])
      | .inr C => ∃ v, e = .returned (.tuple #[.agg (twoN f g), v, .int .i64 0, .int .i64 0]) ∧ w'.ownsRow w.heap.size 44 2 v C.length (flatC C)

theorem refPat_open {s : ByteArray} {w w' : World} {e : Ending} (h : RefPat s w e w') : ∃ a n c k i, e = .returned (.tuple #[.slice a n c, .int .i64 k, .int .i64 i]) ∧ Below w.heap.size w w' ∧
    match patR s with
    | .inl (k', i') => a = none ∧ n = 0 ∧ c = 0 ∧ k = k' ∧ i = (i' : Int)
    | .inr C => k = 0 ∧ i = 0 ∧ w'.ownsRow w.heap.size 44 2 (.slice a n c) C.length (flatC C) := by
  obtain ⟨hb, h⟩ := h
  cases hp : patR s with
  | inl x => obtain ⟨k, i⟩ := x; rw [hp] at h; exact ⟨_, _, _, k, _, h, hb, rfl, rfl, rfl, rfl, rfl⟩
  | inr C =>
    rw [hp] at h; obtain ⟨v, rfl, own⟩ := h
    obtain ⟨a, c, rfl⟩ := row_slice own
    exact ⟨a, _, c, 0, 0, rfl, hb, rfl, rfl, own⟩

theorem rowr {W : World} {B b m n : Nat} {e : TypeId} {v : Value} {xs : List Value} (h : W.ownsRow B e m v n xs) (hb : b < B) (V : Array Value) : (W.setRow b V).ownsRow B e m v n xs :=
  h.kept (row := some b) ⟨rfl, rfl, rfl, by simp, fun k _ hk => setRow_other _ _ k V (fun e => hk (by rw [e]))⟩ (Or.inr fun e => by have := (h.lt _ e).1; omega)

theorem given_after {text : ByteArray} {w w1 w2 : World} {L Z : Array Value} {e : Ending} (hlt : w.heap.size < w1.heap.size) (hb : Below w.heap.size w w1)
    (b8 : ((w1.alloc (.cells Z18 77)).setRow w1.heap.size L).heap[w1.heap.size]? = some (.cells L 77 (0, 0))) (t8 : ((w1.alloc (.cells Z18 77)).setRow w1.heap.size L).heap[w.heap.size]? = some (.cells Z 77 (0, 0)))
    (ho : RefPat text ((w1.alloc (.cells Z18 77)).setRow w1.heap.size L) e w2) : ∃ a n c k i, e = .returned (.tuple #[.slice a n c, .int .i64 k, .int .i64 i]) ∧ w2.heap[w1.heap.size]? = some (.cells L 77 (0, 0)) ∧ w2.heap[w.heap.size]? = some (.cells Z 77 (0, 0)) ∧ Below w.heap.size w w2 ∧ w1.heap.size + 1 ≤ w2.heap.size ∧
      Hid (match patR text with
       | .inl (k', i') => a = none ∧ n = 0 ∧ c = 0 ∧ k = k' ∧ i = (i' : Int)
       | .inr C => k = 0 ∧ i = 0 ∧ w2.ownsRow (w1.heap.size + 1) 44 2 (.slice a n c) C.length (flatC C)) := by
  obtain ⟨a, n, c, k, i, rfl, b2, hm⟩ := refPat_open ho
  have hsz : ((w1.alloc (.cells Z18 77)).setRow w1.heap.size L).heap.size = w1.heap.size + 1 := by simp
  rw [hsz] at b2 hm
  have hs2 := b2.size
  rw [hsz] at hs2
  exact ⟨a, n, c, k, i, rfl, (b2.block _ (by omega)).trans b8, (b2.block _ (by omega)).trans t8, (below_row (hb.alloc (by omega) _) (by omega) L).trans (b2.mono (by omega)), hs2, hm⟩

set_option maxRecDepth 100000 in
set_option maxHeartbeats 1600000 in
theorem given_any (rule text : ByteArray) (w : World) (h1 : rule.size ≤ maxLen) (h2 : text.size ≤ maxLen) :
    Calls Tryz.prog 43 #[.string rule, .string text] w (GivenOut rule text w) := by
  have hRu := fun w => refRule_any rule w h1
  have hRe := fun w => refRead_any text w h2
  have hz := blk_new w (.cells Z18 77)
  have ba := (Below.refl w.heap.size w).alloc (Nat.le_refl _) (.cells Z18 77)
  have hsz : (w.alloc (.cells Z18 77)).heap.size = w.heap.size + 1 := by simp
  cases hr : ruleR rule with
  | inl x =>
    obtain ⟨k, i⟩ := x
    have hk := ruleR_bad hr
    have HG : Hid (∀ w', Below w.heap.size w w' → GivenOut rule text w (.returned (.tuple #[.agg (twoN noD noD), .slice none 0 0, .int .i64 k, .int .i64 (i : Int)])) w') := fun w' hb => ⟨hb, by rw [hr]⟩
    have HL : Hid ((Tryz.prog.info? 77).map (·.size) = some (twoN noD noD).size) := info27
    have H1 : Hid ((twoN noD noD).all (·.oneCell') = true) := twoN_one _ _
    have R0 : Hid (∀ w1, Below (w.alloc (.cells Z18 77)).heap.size (w.alloc (.cells Z18 77)) w1 → w.heap.size < w1.heap.size ∧ Below w.heap.size w w1 ∧ w1.heap[w.heap.size]? = some (.cells (twoN noD noD) 77 (0, 0))) := by
      intro w1 hb
      have := hb.size
      exact ⟨by omega, ba.trans (hb.mono (by omega)), (hb.block _ (by omega)).trans hz⟩
    clear hz ba hsz
    obtain ⟨L, hL⟩ : ∃ L, twoN noD noD = L := ⟨_, rfl⟩
    have HZ : Hid (∀ w : World, (w.alloc (.cells Z18 77)).heap[w.heap.size]? = some (.cells L 77 (0, 0))) := fun w => by rw [← hL]; exact z18_new w
    rw [hL] at HG HL H1 R0
    have hRu' : ∀ w, Calls Tryz.prog 49 #[.string rule] w fun e w' => e = .returned (.tuple #[.agg L, .int .i64 k, .int .i64 (i : Int)]) ∧ Below w.heap.size w w' := fun w => (hRu w).mono fun e w' h => by
      unfold RefLaw at h; rw [hr] at h; rw [← hL]; exact ⟨h.2, h.1⟩
    clear hL hRu hr
    go_enter Tryz.func43, Tryz.ntmps43
    go_wp2_with (first
      | (go_at_call 49; refine (hRu' _).mono ?_; rintro e w1 ⟨rfl, b1⟩; obtain ⟨hlt, hb, t1⟩ := R0.out _ b1; clear b1)
      | (refine wpList_store_row rfl 77 (Operand.tmp 8) (Operand.tmp 17) rfl w1.heap.size L rfl rfl 77 L (HZ.out w1) HL.out rfl H1.out ?_; have b8 := setRow_heap (w1.alloc (.cells Z18 77)) w1.heap.size L L 77 (0, 0) (HZ.out w1); have t8 := (setRow_other (w1.alloc (.cells Z18 77)) w1.heap.size w.heap.size L (by omega)).trans ((Below.heap_alloc w1 _ _ hlt).trans t1))
      | (refine wpList_load_row rfl 77 (Operand.tmp 8) rfl w1.heap.size rfl 77 L (0, 0) _ b8 Tryz.underlying77 rfl HL.out ?_)
      | (refine wpList_store_row rfl 77 (Operand.tmp 4) (Operand.tmp 22) rfl w.heap.size L rfl rfl 77 L t8 HL.out rfl H1.out ?_))
    exact bodyPost_ret (v := .tuple #[.agg L, .slice none 0 0, .int .i64 k, .int .i64 (i : Int)]) (results_cell_row3 Tryz.results43 _ _ _ w.heap.size L rfl (run_loadVar_row _ w.heap.size 77 77 L (0, 0) _ (setRow_heap _ _ _ _ _ _ t8) Tryz.underlying77 rfl HL.out)) rfl
      (HG.out _ (below_row (below_row (hb.alloc (by omega) _) (by omega) L) (Nat.le_refl _) L))
  | inr x =>
    obtain ⟨f, g⟩ := x
    have HG : Hid (∀ (a : Option Addr) (n c : Nat) (k i : Int) (w1 w' : World), Below w.heap.size w w' → w.heap.size ≤ w1.heap.size → (∀ C, w'.ownsRow w1.heap.size 44 2 (.slice a n c) C.length (flatC C) → w'.ownsRow w.heap.size 44 2 (.slice a n c) C.length (flatC C)) → (match patR text with
    | .inl (k', i') => a = none ∧ n = 0 ∧ c = 0 ∧ k = k' ∧ i = (i' : Int)
    | .inr C => k = 0 ∧ i = 0 ∧ w'.ownsRow w1.heap.size 44 2 (.slice a n c) C.length (flatC C)) → GivenOut rule text w (.returned (.tuple #[.agg (twoN f g), .slice a n c, .int .i64 k, .int .i64 i])) w') := by
      intro a n c k i w1 w' hb hs hlow h
      refine ⟨hb, ?_⟩
      rw [hr]
      simp only
      cases hp : patR text with
      | inl x => obtain ⟨k', i'⟩ := x; rw [hp] at h; obtain ⟨rfl, rfl, rfl, rfl, rfl⟩ := h; rfl
      | inr C => rw [hp] at h; obtain ⟨rfl, rfl, own⟩ := h; exact ⟨_, rfl, hlow C own⟩
    have HL : Hid ((Tryz.prog.info? 77).map (·.size) = some (twoN f g).size) := info27
    have H1 : Hid ((twoN f g).all (·.oneCell') = true) := twoN_one f g
    have HS : Hid ((twoN noD noD).size = (twoN f g).size) := rfl
    have R0 : Hid (∀ w1, Below (w.alloc (.cells Z18 77)).heap.size (w.alloc (.cells Z18 77)) w1 → w.heap.size < w1.heap.size ∧ Below w.heap.size w w1 ∧ w1.heap[w.heap.size]? = some (.cells (twoN noD noD) 77 (0, 0))) := by
      intro w1 hb
      have := hb.size
      exact ⟨by omega, ba.trans (hb.mono (by omega)), (hb.block _ (by omega)).trans hz⟩
    clear hz ba hsz
    obtain ⟨L, hL⟩ : ∃ L, twoN f g = L := ⟨_, rfl⟩
    obtain ⟨Z, hZ⟩ : ∃ Z, twoN noD noD = Z := ⟨_, rfl⟩
    have HZ : Hid (∀ w : World, (w.alloc (.cells Z18 77)).heap[w.heap.size]? = some (.cells Z 77 (0, 0))) := fun w => by rw [← hZ]; exact z18_new w
    rw [hL] at HG HL H1 HS
    rw [hZ] at R0 HS
    have hRu' : ∀ w, Calls Tryz.prog 49 #[.string rule] w fun e w' => e = .returned (.tuple #[.agg L, .int .i64 0, .int .i64 0]) ∧ Below w.heap.size w w' := fun w => (hRu w).mono fun e w' h => by
      unfold RefLaw at h; rw [hr] at h; rw [← hL]; exact ⟨h.2, h.1⟩
    clear hL hZ hRu hr
    go_enter Tryz.func43, Tryz.ntmps43
    go_wp2_with (first
      | (go_at_call 49; refine (hRu' _).mono ?_; rintro e w1 ⟨rfl, b1⟩; obtain ⟨hlt, hb, t1⟩ := R0.out _ b1; clear b1)
      | (refine wpList_store_row rfl 77 (Operand.tmp 8) (Operand.tmp 17) rfl w1.heap.size L rfl rfl 77 Z (HZ.out w1) HL.out HS.out H1.out ?_; have b8 := setRow_heap (w1.alloc (.cells Z18 77)) w1.heap.size Z L 77 (0, 0) (HZ.out w1); have t8 := (setRow_other (w1.alloc (.cells Z18 77)) w1.heap.size w.heap.size L (by omega)).trans ((Below.heap_alloc w1 _ _ hlt).trans t1))
      | (go_at_call 22; refine (hRe _).mono ?_; intro e w2 ho; obtain ⟨a, n, c, k, i, rfl, b9, t9, hb2, hs2, HM⟩ := given_after hlt hb b8 t8 ho; clear ho)
      | (refine wpList_load_row rfl 77 (Operand.tmp 8) rfl w1.heap.size rfl 77 L (0, 0) _ b9 Tryz.underlying77 rfl HL.out ?_)
      | (refine wpList_store_row rfl 77 (Operand.tmp 4) (Operand.tmp 31) rfl w.heap.size L rfl rfl 77 Z t9 HL.out HS.out H1.out ?_))
    refine bodyPost_ret (v := .tuple #[.agg L, .slice a n c, .int .i64 k, .int .i64 i]) (results_cell_row3 Tryz.results43 _ _ _ w.heap.size L rfl (run_loadVar_row _ w.heap.size 77 77 L (0, 0) _ (setRow_heap _ _ _ _ _ _ t9) Tryz.underlying77 rfl HL.out)) rfl
      (HG.out a n c k i (w1.alloc (.cells Z18 77)) _ (below_row hb2 (Nat.le_refl _) L) (by simp; omega) (fun C own => ownsRow_low own (by simp; omega)) ?_)
    have hm := HM.out
    cases hp : patR text with
    | inl x => rw [hp] at hm; exact hm
    | inr C => rw [hp] at hm; obtain ⟨e1, e2, own⟩ := hm; exact ⟨e1, e2, by simpa using rowr own (by omega) L⟩

end Go.Proofs.YtiohpcnnpmnjhaaGreatDoor
