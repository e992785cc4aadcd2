import Derived.Test.YtiohpcnnpmnjhaaGreatDoorPrtM
import Derived.Test.YtiohpcnnpmnjhaaGreatDoorSearchI
import Derived.Test.YtiohpcnnpmnjhaaGreatDoorCodeFace
namespace Go.Proofs.YtiohpcnnpmnjhaaGreatDoor
open Go.RowKit Go.Shelf
set_option linter.unusedVariables false

theorem search_does : SearchDoes := fun v C x y w h hl ha => search_idx compare_does v C x y w h hl ha
/-- The parts' texts. -/
def partsT (Ps : List (List Cel)) : List ByteArray := Ps.map fun P => ⟨(plainB P).toArray⟩
/-- Parts' answer: the texts, the error, its place. -/
def partsA (rule text : ByteArray) : List ByteArray × Int × Int := match ruleR rule with
  | .inl (k, i) => ([], k, (i : Int))
  | .inr (f, g) => match patR text with
    | .inl (k, i) => ([], k, (i : Int))
    | .inr C => match course f g C with
      | .inl k => ([], k, 0)
      | .inr (t, s) => if farL (gen f g C s) = true then ([], 4, 0) else (partsT (storyParts f g C s (t - s)), 0, 0)
/-- Texts in memory, one behind the other. -/
def TextsAt (w : World) (B : Nat) (v : Value) (ts : List ByteArray) : Prop := w.ownsRow B 9 1 v ts.length (ts.map Value.string) ∧ (ts = [] → v = .slice none 0 0)
theorem TextsAt.nil (w : World) (B : Nat) : TextsAt w B (.slice none 0 0) [] := ⟨World.ownsRow_nil _ _ _ _, fun _ => rfl⟩
theorem TextsAt.below {w w' : World} {B : Nat} {v : Value} {ts : List ByteArray} (h : TextsAt w B v ts) (hb : Below w.heap.size w w') : TextsAt w' B v ts := ⟨rowBelow h.1 hb, h.2⟩
/-- What Parts' work leaves. -/
def PartsR (rule text : ByteArray) (bp : Nat) (w : World) (r : Option (Int × Int)) (w' : World) : Prop :=
  w.grownBy w' (some bp) ∧ r.getD (0, 0) = (partsA rule text).2 ∧ ∃ v, w'.heap[bp]? = some (.cells #[v] 50 (0, 0)) ∧ TextsAt w' w.heap.size v (partsA rule text).1 ∧ (r = none ∨ (partsA rule text).1 = [])
theorem part_fine {f g : Nat → Bool} {C : List Cel} {s p : Nat} {X Y : Int} (hf : Fine (gen f g C s) X Y) {P : List Cel} (hP : P ∈ storyParts f g C s p) : Fine P X Y := by
  obtain ⟨l, _, _, rfl⟩ := mem_storyParts.1 hP
  have hsub : (cls (grp (gensL f g C s p)) (gensL f g C s p) l 0).Sublist (gen f g C s) := by
    unfold cls
    rw [gensL_getD (Nat.zero_le _), Nat.add_zero]
    exact ledTo_sub _ _ _
  exact ⟨hf.x1, hf.x2, hf.y1, hf.y2, Nat.le_trans hsub.length_le hf.len, fun c hc => hf.win c (hsub.subset hc), List.Pairwise.sublist hsub hf.asc⟩
theorem gen_fine {f g : Nat → Bool} {C : List Cel} {X Y : Int} {t s : Nat} (hf : Fine C X Y) (hbx : InBox X (X + 15000000) Y (Y + 15000000) C) (hc : course f g C = .inr (t, s)) {i : Nat} (hi : i ≤ 300) (hfar : farL (gen f g C i) = false) : ∃ X' Y', Fine (gen f g C i) X' Y' := by
  refine fine_near (a := X - 300) (b := Y - 300) (gen_len hc i) (gen_asc hf.asc i) (fun c h => ?_) hfar
  have := gen_box (f := f) (g := g) hbx i c h
  omega
theorem infoStr : (Tryz.prog.info? 9).map (fun i => (i.zero, i.size, i.bytes)) = some (some (.string ⟨#[]⟩), 1, 16) := by kernel_rfl

theorem rowKeepX {W W' : World} {B b n m : Nat} {e t : TypeId} {v : Value} {xs : List Value} {cs : Array Value} (h : W.ownsRow B e m v n xs) (hb : W.heap[b]? = some (.cells cs t (0, 0))) (he : t ≠ e) (hg : W.grownBy W' (some b)) : W'.ownsRow B e m v n xs := by
  refine h.kept hg (.inr fun e' => ?_)
  rcases h.2 with ⟨rfl, _⟩ | ⟨g, cap, cur, rfl, _, hh, _⟩
  · cases e'
  · simp [Value.ownBlock] at e'
    subst e'
    rw [hh] at hb
    cases hb
    exact he rfl
theorem rowSet {W : World} {B b j n m : Nat} {e : TypeId} {v u : Value} {xs : List Value} (h : W.ownsRow B e m v n xs) (hb : b < B) : (W.setCell ⟨b, j, none⟩ u).ownsRow B e m v n xs :=
  h.kept (grown_set W b j u) (.inr fun e' => by have := (h.lt _ e').1; omega)
theorem partsT_succ {Ps : List (List Cel)} {k : Nat} {P : List Cel} (h : Ps[k]? = some P) : partsT (Ps.take (k + 1)) = partsT (Ps.take k) ++ [⟨(plainB P).toArray⟩] := by
  unfold partsT
  rw [List.take_add_one, h]
  simp

set_option maxRecDepth 100000 in
set_option maxHeartbeats 1600000 in
theorem partsWork_any (br bt bp B : Nat) (rule text : ByteArray) (w : World) (h1 : rule.size ≤ maxLen) (h2 : text.size ≤ maxLen) (hr0 : w.heap[br]? = some (.cells #[.string rule] 9 (0, 0))) (ht0 : w.heap[bt]? = some (.cells #[.string text] 9 (0, 0))) (hp0 : w.heap[bp]? = some (.cells #[.slice none 0 0] 50 (0, 0))) (hB : B ≤ bp) (ht : Tab B w) :
    Calls Tryz.prog 55 #[.pointer (some ⟨br, 0, none⟩), .pointer (some ⟨bt, 0, none⟩), .pointer (some ⟨bp, 0, none⟩)] w fun e w' => ((e = .returned (.tuple #[]) ∧ PartsR rule text bp w none w') ∨ ∃ k i, e = .panicked (refusal k i) ∧ PartsR rule text bp w (some (k, i)) w') := by
  have hS := readStory_any rule text w h1 h2
  have q0 := topc hr0
  have q1 := topc ht0
  have bad : ∀ (k i : Int) (w' : World), Below w.heap.size w w' → partsA rule text = ([], k, i) → PartsR rule text bp w (some (k, i)) w' := fun k i w' hb ho =>
    ⟨grown_any hb, by rw [ho]; rfl, .slice none 0 0, (hb.block _ (blk_lt hp0)).trans hp0, by rw [ho]; exact ⟨TextsAt.nil _ _, .inr rfl⟩⟩
  have HB : Hid (∀ (k i : Int) (w' : World), Below w.heap.size w w' → partsA rule text = ([], k, i) → PartsR rule text bp w (some (k, i)) w') := bad
  clear bad
  cases hr : ruleR rule with
  | inl x =>
    obtain ⟨k, i⟩ := x
    go_enter Tryz.func55, Tryz.ntmps55
    go_wp2_with (go_at_call 51; refine hS.mono ?_; intro e w1 ho; unfold StoryOut at ho; rw [hr] at ho; obtain ⟨hb, he⟩ := ho; simp only at he; subst he)
    exact ⟨rfl, .inr ⟨k, i, rfl, HB.out _ _ _ hb (by unfold partsA; rw [hr])⟩⟩
  | inr x =>
    obtain ⟨f, g⟩ := x
    cases hp : patR text with
    | inl x =>
      obtain ⟨k, i⟩ := x
      go_enter Tryz.func55, Tryz.ntmps55
      go_wp2_with (go_at_call 51; refine hS.mono ?_; intro e w1 ho; unfold StoryOut at ho; rw [hr] at ho; simp only [hp] at ho; obtain ⟨hb, he⟩ := ho; subst he)
      exact ⟨rfl, .inr ⟨k, i, rfl, HB.out _ _ _ hb (by unfold partsA; rw [hr]; simp only [hp])⟩⟩
    | inr C =>
      cases hco : course f g C with
      | inl k =>
        go_enter Tryz.func55, Tryz.ntmps55
        go_wp2_with (go_at_call 51; refine hS.mono ?_; intro e w1 ho; unfold StoryOut at ho; rw [hr] at ho; simp only [hp, hco] at ho; obtain ⟨hb, he⟩ := ho; subst he)
        exact ⟨rfl, .inr ⟨k, 0, rfl, HB.out _ _ _ hb (by unfold partsA; rw [hr]; simp only [hp, hco])⟩⟩
      | inr x =>
        obtain ⟨t, s⟩ := x
        obtain ⟨X, Y, hf, hbx⟩ := patR_tight hp
        have HA : Hid (partsA rule text = if farL (gen f g C s) = true then ([], 4, 0) else (partsT (storyParts f g C s (t - s)), 0, 0)) := by show _ = _; unfold partsA; rw [hr]; simp only [hp, hco]
        have hcd := fun i hi => gen_codable (i := i) hf hbx hco hi
        have hgf : farL (gen f g C s) = false → s ≤ 300 → ∃ X' Y', Fine (gen f g C s) X' Y' := fun h hs => gen_fine hf hbx hco hs h
        obtain ⟨Ps, hPs⟩ : ∃ Ps, storyParts f g C s (t - s) = Ps := ⟨_, rfl⟩
        obtain ⟨fr, hfr⟩ : ∃ fr, farL (gen f g C s) = fr := ⟨_, rfl⟩
        have HF : Hid (fr = false → s ≤ 300 → ∃ X' Y', ∀ P ∈ Ps, Fine P X' Y') := fun h hs => by
          obtain ⟨X', Y', hF⟩ := hgf (hfr.trans h) hs
          exact ⟨X', Y', fun P hP => part_fine hF (hPs ▸ hP)⟩
        have HL : Hid (s ≤ 300 → Ps.length ≤ 100) := fun hs => by
          rw [← hPs]
          exact Nat.le_trans (partsTo_len _ _ _) (hcd s hs).len
        have HC : Hid (∀ (w1 : World) (gs : Value) (vs : List Value), Below w.heap.size w w1 → t ≤ 200 → s < t → cameB f g C t = some s → vs.length = t + 1 → Rows2 w1 0 w.heap.size f g C vs gs → Calls Tryz.prog 56 #[.agg (storyV gs (cycOf f g C t))] w1 fun e w' => if fr = true then e = .panicked (refusal 4 0) ∧ Below w1.heap.size w1 w' else (∃ v us, e = .returned v ∧ PatsAt w' w1.heap.size v Ps us) ∧ Below w1.heap.size w1 w') := by
          intro w1 gs vs hb g1 g2 g3 g4 g5
          obtain ⟨gg, cg, hgs, hgg, hget⟩ := all_getP g5.own (by omega)
          subst hgs
          have hcy : cycOf f g C t = ((s : Int), (t : Int) - (s : Int), (wayD (gen f g C s) (gen f g C t)).1, (wayD (gen f g C s) (gen f g C t)).2) := by unfold cycOf; rw [g3]
          have hcap : vs.length ≤ cg := by
            rcases g5.own.2 with ⟨hn, _⟩ | ⟨g', cap, cur, hv, _, _, hle, _⟩
            · cases hn
            · cases hv; exact hle
          obtain ⟨p, rfl⟩ : ∃ p, t = s + p := ⟨t - s, by omega⟩
          rw [hcy, ← hPs, ← hfr, show s + p - s = p by omega]
          rw [g4] at hcap
          have := parts_in search_does compare_does f g C s p (wayD (gen f g C s) (gen f g C (s + p))).1 (wayD (gen f g C s) (gen f g C (s + p))).2 gg cg vs w1 (by omega) g1 g4 hgg hget g5.all hcap (fun i hi => hcd i (by omega))
          rw [g4]
          rw [show ((s + p : Nat) : Int) - (s : Int) = (p : Int) by omega]
          exact this
        rw [hPs, hfr] at HA
        clear hPs hfr hcd hf hbx hgf
        cases fr with
        | true =>
          go_enter Tryz.func55, Tryz.ntmps55
          go_wp2_with (first
            | (go_at_call 51; refine hS.mono ?_; intro e w1 ho; unfold StoryOut at ho; rw [hr] at ho; simp only [hp, hco] at ho; obtain ⟨hb, g1, g2, g3, gs, vs, g4, he, g5⟩ := ho; subst he
               have hpart := HC.out w1 gs vs hb g1 g2 g3 g4 g5
               simp only [↓reduceIte] at hpart
               obtain ⟨V, hV⟩ : ∃ V, storyV gs (cycOf f g C t) = V := ⟨_, rfl⟩
               rw [hV] at hpart ⊢
               clear hV)
            | (go_at_call 56; refine hpart.mono ?_; rintro e w2 ⟨rfl, c2⟩))
          exact ⟨rfl, .inr ⟨4, 0, rfl, HB.out _ _ _ (hb.trans (c2.mono hb.size)) (by rw [HA.out]; rfl)⟩⟩
        | false =>
          refine (callsIn_wide (n := 5)).1 ?_
          refine callsIn_of_wp Tryz.func55 rfl trivial ?_ rfl
          simp only [Tryz.ntmps55, List.size_toArray, List.length_cons, List.length_nil, Nat.reduceAdd, Nat.reduceSub, Array.replicate_succ, Array.replicate_zero, List.push_toArray, List.append_toArray, List.nil_append, List.cons_append]
          gi_wp2_with (refine ⟨trivial, ?_⟩; first
            | (gi_at_call 51; refine (callsIn_wide.2 hS).mono ?_; intro e w1 ho; unfold StoryOut at ho; rw [hr] at ho; simp only [hp, hco] at ho; obtain ⟨hb, g1, g2, g3, gs, vs, g4, he, g5⟩ := ho; subst he
               have hpart := HC.out w1 gs vs hb g1 g2 g3 g4 g5
               simp only [Bool.false_eq_true, ↓reduceIte] at hpart
               obtain ⟨V, hV⟩ : ∃ V, storyV gs (cycOf f g C t) = V := ⟨_, rfl⟩
               rw [hV] at hpart ⊢
               clear hV)
            | (gi_at_call 56; refine (callsIn_wide.2 hpart).mono ?_; rintro e w2 ⟨⟨v, us, rfl, hPt⟩, c2⟩; obtain ⟨ad, cp, rfl⟩ := row_slice hPt.own))
          obtain ⟨i0, hi, hz0, hz1, hz2⟩ := info_parts infoStr
          have b2 := hb.trans (c2.mono hb.size)
          have hbp := blk_lt hp0
          have hp2 := (b2.block _ hbp).trans hp0
          obtain ⟨X', Y', hFine⟩ := HF.out trivial (by omega)
          have hPl := HL.out (by omega)
          have hul := hPt.len
          have HT : Hid (partsA rule text = (partsT Ps, 0, 0)) := by show _ = _; rw [HA.out]; rfl
          have hs2 := b2.size
          have hus : us.length ≤ 100 := by omega
          have HPl : Hid (us.length = Ps.length) := hul
          clear hPl hul hp hco hr hS HC HF HL HA g1 g2 g3 g4 g5 hpart
          gi_loopw [10] (fun vi wr => ∃ (k : Nat) (v : Value), k ≤ us.length ∧ vi = .int .i64 (k : Int) ∧ wr.heap[bp]? = some (.cells #[v] 50 (0, 0)) ∧ TextsAt wr w2.heap.size v (partsT (Ps.take k)) ∧ w2.grownBy wr (some bp)) (fun vi _ => us.length - (intOf vi).toNat)
          case atStart => exact ⟨0, _, Nat.zero_le _, rfl, hp2, TextsAt.nil _ _, World.grownBy.refl _ _⟩
          case round =>
            obtain ⟨k, v, hk, rfl, hbx, hTx, hgr⟩ := hrel
            have hsz := hgr.size
            by_cases hlt : k < us.length
            · have hki : (k : Int) < (us.length : Int) := by omega
              obtain ⟨u, hu⟩ : ∃ u, us[k]? = some u := ⟨us[k], by simp [hlt]⟩
              obtain ⟨P, hP⟩ : ∃ P, Ps[k]? = some P := ⟨Ps[k]'(by have := HPl.out; omega), by simp [show k < Ps.length by have := HPl.out; omega]⟩
              have hrowU : wr.ownsRow 0 113 2 u P.length (flatC P) := rowKeepX (hPt.row k u P hu hP) hp2 (by decide) hgr
              obtain ⟨au, cu, rfl⟩ := row_slice hrowU
              have ownP : wr.ownsRow w1.heap.size 71 1 (.slice ad us.length cp) us.length us := rowKeepX hPt.own hp2 (by decide) hgr
              obtain ⟨gb, cap', hva, hgb, hget⟩ := all_getP ownP (by omega)
              cases hva
              have c0 := hget k _ hu
              have hFP := hFine P (List.mem_of_getElem? hP)
              have HS : Hid (partsT (Ps.take (k + 1)) = partsT (Ps.take k) ++ [⟨(plainB P).toArray⟩]) := partsT_succ hP
              have hkl : (partsT (Ps.take k)).length = k := by unfold partsT; rw [List.length_map, List.length_take]; have := HPl.out; omega
              obtain ⟨Ts, hTs⟩ : ∃ Ts, partsT (Ps.take k) = Ts := ⟨_, rfl⟩
              rw [hTs] at HS hTx hkl
              obtain ⟨ownT, _⟩ := hTx
              obtain ⟨av, cv, rfl⟩ := row_slice ownT
              have hTl : Ts.length ≤ 100 := by omega
              have HKL : Hid (Ts.length = k) := hkl
              have hbB : Below B w wr := (b2.mono (by omega)).trans (grown_belowN hgr (by omega) hB)
              have hBr : B ≤ wr.heap.size := by have := hbB.size; omega
              have htr : ∀ W, Below wr.heap.size wr W → Tab W.heap.size W := fun W hW => tab_up ht (hbB.trans (hW.mono hBr)) (Nat.le_trans hBr hW.size)
              obtain ⟨T, hT⟩ : ∃ T : ByteArray, ⟨(plainB P).toArray⟩ = T := ⟨_, rfl⟩
              have hpl : ∀ W, Below wr.heap.size wr W → Calls Tryz.prog 41 #[.slice au P.length cu] W fun e w' => e = .returned (.string T) ∧ Below W.heap.size W w' := fun W hW => by
                rw [← hT]
                exact plainText_any P (.slice au P.length cu) X' Y' 0 W (rowBelow hrowU hW) hFP (htr W hW)
              rw [hT] at HS
              clear hT hTs hkl htr hget
              gi_wp2_with (fail)
              have hC0 : (fun V : World => V.heap[bp]? = some (.cells #[.slice av Ts.length cv] 50 (0, 0))) wr.drew := hbx
              refine wpIn_region_any (by kernel_rfl) (wpAnyD.any (C := fun V : World => V.heap[bp]? = some (.cells #[.slice av Ts.length cv] 50 (0, 0))) ?_)
              change wpAnyD _ _ _ _ _ _ _ _ _ _ (World.drew _)
              refine wpAnyD_take (i := 0) (z := 4) (v := (.slice av Ts.length cv : Value)) hC0 (by kernel_rfl) rfl (by kernel_rfl) rfl (by kernel_rfl) (by kernel_rfl) rfl (by kernel_rfl) (by kernel_rfl) (by kernel_rfl) (fun _ _ _ h => h) ⟨by rfl, fun V hV => ⟨rfl, by have m0 := cell_of hV 0; go_simp⟩⟩ ?_
              refine wpAnyD_take (i := 1) (z := 2) (v := (.slice au P.length cu : Value)) hC0 (by kernel_rfl) rfl (by kernel_rfl) rfl (by kernel_rfl) (by kernel_rfl) rfl (by kernel_rfl) (by kernel_rfl) (by kernel_rfl) (fun _ _ _ h => h) ⟨by rfl, fun V hV => ⟨rfl, by go_simp⟩⟩ ?_
              refine wpAnyD_one (i := 2) (by kernel_rfl) rfl (by rfl) (fun K hK => ?_)
              go_simp
              refine ⟨trivial, (callsIn_wide.2 (hpl _ (Below.refl _ wr).drew)).mono ?_⟩
              rintro e w5 ⟨rfl, c5⟩
              have b5 : Below wr.heap.size wr w5 := ((Below.refl _ wr).drew).trans c5
              have hC5 := (b5.block _ (by omega)).trans hbx
              refine hK _ _ (.inl hC5) ?_
              clear hK K hC0
              have own5 := rowBelow ownT b5
              have s5 : wr.heap.size ≤ w5.heap.size := b5.size
              refine wpAnyD_one (i := 3) (by kernel_rfl) rfl (by rfl) (fun K hK => ?_)
              go_simp
              have hC6 := blk_old hC5 (.cells #[.string T] 9)
              refine hK _ _ (.inl hC6) ?_
              clear hK K
              refine wpAnyD_one (i := 4) (by kernel_rfl) rfl (by rfl) (fun K hK => ?_)
              refine wpIn_append_own _ _ _ 50 rfl w2.heap.size 9 i0 (.string ⟨#[]⟩) 1 16 Tryz.underlying50 hi hz0 hz1 hz2 rfl (by decide) _ _ _ rfl (own5.alloc _) ⟨w5.heap.size, 0, none⟩ 1 1 [.string T] rfl rfl (cell_one_new _ _ _) (by simp [Value.oneCell']) (by unfold maxLen; omega) (by omega) (by simp; omega) ?_
              intro v' w7 own7 hgr7
              obtain ⟨a2, c2', rfl⟩ := row_slice own7
              have hb7 : Below w2.heap.size w5 w7 := by
                refine (((Below.refl _ w5).alloc (Nat.le_refl _) (.cells #[.string T] 9)).mono (by omega)).grown hgr7 (by simp; omega) (fun j hj => (own5.lt j hj).1)
              have hC7 := (hb7.block bp (by omega)).trans hC5
              refine hK _ _ (.inl hC7) ?_
              clear hK K
              have o0 := cell_of hC7 0
              have o1 := frz_of hC7 0
              refine wpAnyD_one (i := 5) (by kernel_rfl) rfl (by rfl) (fun K hK => ?_)
              go_simp
              refine hK _ _ (.inr (by kernel_rfl)) ?_
              clear hK K
              refine wpAnyD_done (by kernel_rfl) ?_ _
              have g3 := blk_put (j := 0) hC7 (.slice a2 (Ts.length + 1) c2')
              gi_wp2
              go_roundw
              case rel =>
                refine ⟨k + 1, _, by omega, by simp, g3, ?_, ?_⟩
                · rw [HS.out]
                  refine ⟨?_, fun e => by simp at e⟩
                  rw [List.map_append, List.length_append]
                  exact rowSet own7 (by omega)
                · have hgW : w2.grownBy w7 (some bp) := grown_then (grown_then hgr b5 hsz) (hb7.mono (Nat.le_refl _)) (Nat.le_refl _)
                  exact hgW.trans (grown_set _ bp 0 _)
              case measure => simp [intOf]; omega
            · have hkp : k = us.length := by omega
              subst hkp
              gi_wp2
              rw [HPl.out, List.take_length] at hTx
              refine ⟨rfl, .tuple #[], results_none rfl _ _ _, .inl ⟨rfl, (grown_any b2).trans hgr, by rw [HT.out]; rfl, v, hbx, ?_⟩⟩
              rw [HT.out]
              exact ⟨⟨ownsRow_low hTx.1 b2.size, hTx.2⟩, .inl rfl⟩

end Go.Proofs.YtiohpcnnpmnjhaaGreatDoor

namespace Go.Proofs.YtiohpcnnpmnjhaaGreatDoor
open Go.RowKit Go.Shelf
set_option linter.unusedVariables false

set_option maxHeartbeats 800000 in
/-- Any work, caught: nothing but the two boxes is written behind it. -/
theorem attempt_gen2 (f : FuncId) (caps : Array Value) (w : World) (he : ∀ args w, (callFunc f args).run Tryz.prog w = .ok (.enter f args) w) (R : Option (Int × Int) → World → Prop)
    (h : Calls Tryz.prog f caps ((w.alloc (.cells #[.int .i64 0] 22)).alloc (.cells #[.int .i64 0] 3)) fun e w' => Tops w.heap.size w' ∧ ((e = .returned (.tuple #[]) ∧ R none w') ∨ ∃ k i, e = .panicked (refusal k i) ∧ R (some (k, i)) w')) :
    Calls Tryz.prog 38 #[.func (.func f) #[] caps] w fun e w' => ∃ r, e = .returned (.tuple #[.int .i64 (r.getD (0, 0)).1, .int .i64 (r.getD (0, 0)).2]) ∧ ∃ w1, R r w1 ∧ Below w.heap.size w1 w' ∧ (r = none → w1.heap.size ≤ w'.heap.size ∧ ∀ k, k ≠ w.heap.size → k ≠ w.heap.size + 1 → w'.heap[k]? = w1.heap[k]?) := by
  have hmf : ∀ (fn : Fn) (first cap : Array Value) (w : World), (Instr.makeFunc fn first cap).run Tryz.prog w = .ok (.func fn first cap) w := fun _ _ _ _ => rfl
  go_enter_defers Tryz.func38, Tryz.ntmps38
  go_wp2
  refine h.mono ?_
  rintro e w' ⟨⟨t0, t1⟩, ⟨rfl, hR⟩ | ⟨k, i, rfl, hR⟩⟩
  · have f0 := topc t0
    have f1 := topc t1
    have f2 := topz t0
    have f3 := topz t1
    go_wp2
    refine leaves_cons (f := 65) (args := #[.pointer (some ⟨w.heap.size, 0, none⟩), .pointer (some ⟨w.heap.size + 1, 0, none⟩)]) (by simp) (by simp [go_sem]) ?_
    refine (catch_idle _ _ _).mono ?_
    rintro e u' w'' ⟨rfl, rfl, rfl⟩
    have hw1 : (w'.setCell ⟨w.heap.size, 0, none⟩ (.int .i64 0)).cell? ⟨w.heap.size + 1, 0, none⟩ = some (.int .i64 0) := by rw [World.cell?_setCell_other _ _ _ _ (by simp)]; exact f1
    have e0 : ((w'.setCell ⟨w.heap.size, 0, none⟩ (.int .i64 0)).setCell ⟨w.heap.size + 1, 0, none⟩ (.int .i64 0)).cell? ⟨w.heap.size, 0, none⟩ = some (.int .i64 0) := by
      rw [World.cell?_setCell_other _ _ _ _ (by simp)]; exact World.cell?_setCell_same _ _ _ f0
    have e1 : ((w'.setCell ⟨w.heap.size, 0, none⟩ (.int .i64 0)).setCell ⟨w.heap.size + 1, 0, none⟩ (.int .i64 0)).cell? ⟨w.heap.size + 1, 0, none⟩ = some (.int .i64 0) :=
      World.cell?_setCell_same _ _ _ hw1
    have hfin : Below w.heap.size w' ((w'.setCell ⟨w.heap.size, 0, none⟩ (.int .i64 0)).setCell ⟨w.heap.size + 1, 0, none⟩ (.int .i64 0)) :=
      ((Below.refl _ _).setCell (p := ⟨w.heap.size, 0, none⟩) (Nat.le_refl _) _).setCell (p := ⟨w.heap.size + 1, 0, none⟩) (Nat.le_succ _) _
    simp [Leaves, settle, results, Tryz.results38, go_sem, e0, e1]
    exact ⟨none, by simp, w', hR, hfin, fun _ => ⟨by simp, fun k h0 h1 => (Below.heap_setCell _ ⟨w.heap.size + 1, 0, none⟩ _ k h1).trans (Below.heap_setCell _ ⟨w.heap.size, 0, none⟩ _ k h0)⟩⟩
  · have f0 := topc t0
    have f1 := topc t1
    have f2 := topz t0
    have f3 := topz t1
    have f4 : w.heap.size + 1 < w'.heap.size := (Array.getElem?_eq_some_iff.1 t1).1
    go_wp2
    refine leaves_cons (f := 65) (args := #[.pointer (some ⟨w.heap.size, 0, none⟩), .pointer (some ⟨w.heap.size + 1, 0, none⟩)]) (by simp) (by simp [go_sem]) ?_
    refine (catch_refusal w.heap.size k i 0 0 _ f4 f0 f2 f1 f3).mono ?_
    rintro e u' w'' ⟨rfl, rfl, g0, g1, gb⟩
    simp [Leaves, settle, results, Tryz.results38, go_sem, g0, g1]
    exact ⟨some (k, i), by simp, w', hR, gb, fun e => by cases e⟩


/-- What Parts leaves. -/
def PartsOut (A : List ByteArray × Int × Int) (w : World) (e : Ending) (w' : World) : Prop :=
  (∃ v, e = .returned (.tuple #[v, .int .i64 A.2.1, .int .i64 A.2.2]) ∧ TextsAt w' w.heap.size v A.1) ∧ Below w.heap.size w w'

set_option maxRecDepth 100000 in
set_option maxHeartbeats 1600000 in
/-- Parts, whole. -/
theorem parts_any (rule text : ByteArray) (w : World) (h1 : rule.size ≤ maxLen) (h2 : text.size ≤ maxLen) (ht : Tab w.heap.size w) :
    Calls Tryz.prog 26 #[.string rule, .string text] w (PartsOut (partsA rule text) w) := by
  have hmf : ∀ (fn : Fn) (first cap : Array Value) (w : World), (Instr.makeFunc fn first cap).run Tryz.prog w = .ok (.func fn first cap) w := fun _ _ _ _ => rfl
  obtain ⟨w4, hw4⟩ : ∃ w4, ((w.alloc (.cells #[.string rule] 9)).alloc (.cells #[.string text] 9)).alloc (.cells #[.slice none 0 0] 50) = w4 := ⟨_, rfl⟩
  have s4 : w4.heap.size = w.heap.size + 3 := by rw [← hw4]; simp
  have b4 : Below w.heap.size w w4 := by rw [← hw4]; exact (((Below.refl _ w).alloc (Nat.le_refl _) _).alloc (by simp) _).alloc (by simp; omega) _
  have t0 : w4.heap[w.heap.size]? = some (.cells #[.string rule] 9 (0, 0)) := by rw [← hw4]; exact blk_old (blk_old (blk_new w _) _) _
  have t1 : w4.heap[w.heap.size + 1]? = some (.cells #[.string text] 9 (0, 0)) := by
    have := blk_old (blk_new (w.alloc (.cells #[.string rule] 9)) (.cells #[.string text] 9)) (.cells #[.slice none 0 0] 50)
    rw [World.size_alloc] at this; rw [← hw4]; exact this
  have t3 : w4.heap[w.heap.size + 2]? = some (.cells #[.slice none 0 0] 50 (0, 0)) := by
    have := blk_new ((w.alloc (.cells #[.string rule] 9)).alloc (.cells #[.string text] 9)) (.cells #[.slice none 0 0] 50)
    simp only [World.size_alloc, Nat.add_assoc, Nat.reduceAdd] at this; rw [← hw4]; exact this
  obtain ⟨w6, hw6⟩ : ∃ w6, (w4.alloc (.cells #[.int .i64 0] 22)).alloc (.cells #[.int .i64 0] 3) = w6 := ⟨_, rfl⟩
  have s6 : w6.heap.size = w4.heap.size + 2 := by rw [← hw6]; simp
  have b6 : Below w4.heap.size w4 w6 := by rw [← hw6]; exact ((Below.refl _ _).alloc (Nat.le_refl _) _).alloc (by simp) _
  have u0 : w6.heap[w4.heap.size]? = some (.cells #[.int .i64 0] 22 (0, 0)) := by rw [← hw6]; exact blk_old (blk_new _ _) _
  have u1 : w6.heap[w4.heap.size + 1]? = some (.cells #[.int .i64 0] 3 (0, 0)) := by
    have := blk_new (w4.alloc (.cells #[.int .i64 0] 22)) (.cells #[.int .i64 0] 3)
    rw [World.size_alloc] at this; rw [← hw6]; exact this
  have b46 := b4.trans (b6.mono (by omega))
  have hW := partsWork_any w.heap.size (w.heap.size + 1) (w.heap.size + 2) w.heap.size rule text w6 h1 h2 ((b6.block _ (blk_lt t0)).trans t0) ((b6.block _ (blk_lt t1)).trans t1) ((b6.block _ (blk_lt t3)).trans t3) (by omega) (tab_up ht b46 (Nat.le_refl _))
  have hA := attempt_gen2 55 #[.pointer (some ⟨w.heap.size, 0, none⟩), .pointer (some ⟨w.heap.size + 1, 0, none⟩), .pointer (some ⟨w.heap.size + 2, 0, none⟩)] w4 (enters_of Tryz.func55 (by kernel_rfl) rfl)
    (fun r w' => PartsR rule text (w.heap.size + 2) w6 r w')
    (by
      rw [hw6]
      refine hW.mono fun e w' ho => ⟨?_, ho⟩
      have hg : w6.grownBy w' (some (w.heap.size + 2)) := by
        rcases ho with ⟨_, h, _⟩ | ⟨_, _, _, h, _⟩ <;> exact h
      exact ⟨(hg.block _ (blk_lt u0) (fun e => by have := Option.some.inj e; omega)).trans u0, (hg.block _ (blk_lt u1) (fun e => by have := Option.some.inj e; omega)).trans u1⟩)
  clear hW u0 u1 t0 t1 t3
  obtain ⟨⟨Ts, k, i⟩, hO⟩ : ∃ o, partsA rule text = o := ⟨_, rfl⟩
  have hlt : w.heap.size + 2 < w4.heap.size := by omega
  have R0 : Hid (∀ r w8 w7, PartsR rule text (w.heap.size + 2) w6 r w8 → Below w4.heap.size w8 w7 ∧ (r = none → w8.heap.size ≤ w7.heap.size ∧ ∀ k, k ≠ w4.heap.size → k ≠ w4.heap.size + 1 → w7.heap[k]? = w8.heap[k]?) → r.getD (0, 0) = (k, i) ∧ (∃ v, w7.heap[w.heap.size + 1 + 1]? = some (.cells #[v] 50 (0, 0)) ∧ TextsAt w7 w.heap.size v Ts) ∧ Below w.heap.size w w7) := by
    rintro r w8 w7 ⟨hg8, hr8, v, hc8, hT8, hn8⟩ ⟨hb7, hk7⟩
    rw [hO] at hr8 hT8 hn8
    refine ⟨hr8, ⟨v, (hb7.block _ hlt).trans hc8, ?_⟩, b46.trans ((grown_belowS hg8 (by omega) (by omega)).trans (hb7.mono (by omega)))⟩
    rcases hn8 with rfl | hn8
    · obtain ⟨hs7, hk7⟩ := hk7 rfl
      refine ⟨?_, hT8.2⟩
      have hrow := hT8.1
      refine ⟨hrow.1, hrow.2.imp id ?_⟩
      rintro ⟨g, cap, cur, e1, e2, e3, e4⟩
      exact ⟨g, cap, cur, e1, by omega, (hk7 g (by omega) (by omega)).trans e3, e4⟩
    · simp only at hn8
      have := hT8.2 hn8
      subst this hn8
      exact TextsAt.nil _ _
  rw [hO]
  clear hO b4 b6 b46 s4 s6 hlt h1 h2 ht
  subst hw4
  go_enter Tryz.func26, Tryz.ntmps26
  go_wp2_with (go_at_call 38; refine hA.mono ?_; rintro e w7 ⟨r, rfl, w8, hR8, hb7⟩; obtain ⟨hr, ⟨v, c1, hT⟩, hB⟩ := R0.out _ _ _ hR8 hb7; rw [hr]; clear hr hR8 hb7; obtain ⟨av, cv, rfl⟩ := row_slice hT.1; have m0 := topc c1)
  exact bodyPost_ret (v := .tuple #[.slice av Ts.length cv, .int .i64 k, .int .i64 i]) (by simp [results, Tryz.results26]) rfl ⟨⟨_, rfl, hT⟩, hB⟩

end Go.Proofs.YtiohpcnnpmnjhaaGreatDoor
