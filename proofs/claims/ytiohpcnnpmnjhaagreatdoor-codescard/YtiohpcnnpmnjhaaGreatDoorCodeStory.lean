import Derived.Test.YtiohpcnnpmnjhaaGreatDoorCodeSpec
namespace Go.Proofs.YtiohpcnnpmnjhaaGreatDoor
open Go.RowKit Go.Shelf
set_option linter.unusedVariables false
attribute [local go_sem] Oper.semAt_some

set_option maxRecDepth 100000 in
set_option maxHeartbeats 1600000 in
theorem code_in (f g : Nat → Bool) (C : List Cel) (s p : Nat) (d1 d2 : Int) (gg cg : Nat) (vs : List Value) (tg : TypeId) (fr : Nat × Nat) (w : World) (hp : 1 ≤ p) (hsp : s + p ≤ 200) (hvl : vs.length = s + p + 1) (hgg : gg < w.heap.size) (hget : ∀ (i : Nat) v, vs[i]? = some v → w.cell? ⟨gg, i, none⟩ = some v)
    (hall : ∀ (i : Nat) v, vs[i]? = some v → w.ownsRow 0 113 2 v (gen f g C i).length (flatC (gen f g C i))) (hcap : s + p + 1 ≤ cg) (hcod : ∀ i, i ≤ s + p → Codable (gen f g C i)) (ht : Tab w.heap.size w) (hG : w.heap[0]? = some (.cells turnA tg fr)) :
    CallsIn Fence.wide 12 Tryz.prog 60 #[.agg #[.slice (some ⟨gg, 0, none⟩) (s + p + 1) cg, .int .i64 (s : Int), .int .i64 (p : Int), .int .i64 d1, .int .i64 d2]] w fun e w' => e = .returned (.string (codeT f g C s p)) ∧ Below w.heap.size w w' := by
  refine callsIn_of_wp_marks Tryz.func60 rfl trivial ?_ rfl
  simp only [Tryz.ntmps60, List.size_toArray, List.length_cons, List.length_nil, Nat.reduceAdd, Nat.reduceSub, Array.replicate_succ, Array.replicate_zero, List.push_toArray, List.append_toArray, List.nil_append, List.cons_append]
  gi_wp2
  have hG' := hG
  obtain ⟨W2, hW2⟩ : ∃ W2, (w.alloc (.cells #[.slice (some ⟨gg, 0, none⟩) (s + p + 1) cg, .int .i64 (s : Int), .int .i64 (p : Int), .int .i64 d1, .int .i64 d2] 90)).alloc (.cells #[.string ⟨#[]⟩] 9) = W2 := ⟨_, rfl⟩
  have bW2 : Below w.heap.size w W2 := by rw [← hW2]; exact ((Below.refl _ w).alloc (Nat.le_refl _) _).alloc (by simp) _
  have sW2 : W2.heap.size = w.heap.size + 2 := by rw [← hW2]; simp
  have lW2 : W2.heap[w.heap.size + 1]? = some (.cells #[.string (codeT f g C s 0)] 9 (0, 0)) := by
    have := blk_new (w.alloc (.cells #[.slice (some ⟨gg, 0, none⟩) (s + p + 1) cg, .int .i64 (s : Int), .int .i64 (p : Int), .int .i64 d1, .int .i64 d2] 90)) (.cells #[.string ⟨#[]⟩] 9)
    rw [World.size_alloc] at this; rw [← hW2]; exact this
  rw [hW2, show s + p - s = p by omega]
  clear hW2
  refine wpIn_loop (fun a wr => ∃ (k : Nat) (Ds : List Nat) (u5 u6 u7 u8 u23 u24 u25 u26 u27 u28 u29 u30 u31 u32 u33 u34 u35 u36 u37 u38 u39 u40 u41 : Value), a = { tmps := #[.agg #[.slice (some ⟨gg, 0, none⟩) (s + p + 1) cg, .int .i64 (s : Int), .int .i64 (p : Int), .int .i64 d1, .int .i64 d2], .pointer (some ⟨w.heap.size, 0, none⟩), .string ⟨#[]⟩, .int .i64 (s : Int), .pointer (some ⟨w.heap.size + 1, 0, none⟩), u5, u6, u7, u8, .pointer (some ⟨w.heap.size, 1, none⟩), .pointer (some ⟨w.heap.size, 1, none⟩), .int .i64 (s : Int), .pointer (some ⟨w.heap.size, 0, none⟩), .slice (some ⟨gg, 0, none⟩) (s + p + 1) cg, .int .i64 (s : Int), .int .i64 (s : Int), .pointer (some ⟨w.heap.size, 1, none⟩), .pointer (some ⟨w.heap.size, 2, none⟩), .int .i64 (p : Int), .int .i64 ((s : Int) + (p : Int)), .slice (some ⟨gg, s, none⟩) p (cg - s), .int .i64 (p : Int), .int .i64 (k : Int), u23, u24, u25, u26, u27, u28, u29, u30, u31, u32, u33, u34, u35, u36, u37, u38, u39, u40, u41], defers := Ds.map markD } ∧ k ≤ p ∧ wr.heap[w.heap.size + 1]? = some (.cells #[.string (codeT f g C s k)] 9 (0, 0)) ∧ Below w.heap.size w wr ∧ w.heap.size + 2 ≤ wr.heap.size ∧ MarksOk w.heap.size Ds wr)
    (fun a _ => p - (intOf (a.tmps.getD 22 undef)).toNat) ⟨0, [], _, _, _, _, _, _, _, _, _, _, _, _, _, _, _, _, _, _, _, _, _, _, _, rfl, by omega, lW2, bW2, by omega, marks_nil _ W2⟩ ?_
  rintro a wr ⟨k, Ds, u5, u6, u7, u8, u23, u24, u25, u26, u27, u28, u29, u30, u31, u32, u33, u34, u35, u36, u37, u38, u39, u40, u41, rfl, hkp, hle, hbe, hsz, hmk⟩
  by_cases hk : k < p
  · have hdk : decide ((k : Int) < (p : Int)) = true := decide_eq_true (by omega)
    obtain ⟨v, hv⟩ : ∃ v, vs[s + k]? = some v := ⟨vs[s + k]'(by omega), by simp [show s + k < vs.length by omega]⟩
    have hrow : wr.ownsRow 0 113 2 v (gen f g C (s + k)).length (flatC (gen f g C (s + k))) := rowBelow (hall _ _ hv) hbe
    have hcell : wr.cell? ⟨gg, s + k, none⟩ = some v := (World.cell?_of_block (hbe.block _ hgg)).trans (hget _ _ hv)
    obtain ⟨a0, cap0, rfl⟩ := row_slice hrow
    have hc := hcod (s + k) (by omega)
    have hki : (k : Int) < (p : Int) := by omega
    gi_wp2_with (refine ⟨trivial, ?_⟩; gi_at_call 85; refine (callsIn_wide.2 (turned_fn a0 (gen f g C (s + k)).length cap0 _)).mono ?_; rintro e w1 ⟨rfl, rfl⟩)
    obtain ⟨C1, hC1⟩ : ∃ C1, gen f g C (s + k) = C1 := ⟨_, rfl⟩
    have HC1 : Hid (gen f g C (s + k) = C1) := hC1
    simp only [hC1] at hrow hc hcell ⊢
    clear hC1
    obtain ⟨b0, hb0⟩ : ∃ b0, codeT f g C s k = b0 := ⟨_, rfl⟩
    have HB0 : Hid (codeT f g C s k = b0) := hb0
    rw [hb0] at hle
    clear hb0
    have hb1 : Below wr.heap.size wr (wr.alloc (.cells #[.slice a0 C1.length cap0] 71)) := (Below.refl _ _).alloc (Nat.le_refl _) _
    have q1 := blk_new wr (.cells #[.slice a0 C1.length cap0] 71)
    have q2 := blk_old hle (.cells #[.slice a0 C1.length cap0] 71)
    have own1 := rowBelow hrow hb1
    have hG1 : (wr.alloc (.cells #[.slice a0 C1.length cap0] 71)).heap[0]? = some (.cells turnA tg fr) := (hb1.block _ (Nat.lt_of_lt_of_le (blk_lt hG) hbe.size)).trans ((hbe.block _ (blk_lt hG)).trans hG)
    have s1 : (wr.alloc (.cells #[.slice a0 C1.length cap0] 71)).heap.size = wr.heap.size + 1 := by simp
    have hbe1 : Below w.heap.size w (wr.alloc (.cells #[.slice a0 C1.length cap0] 71)) := hbe.trans (hb1.mono hbe.size)
    have hDl : ∀ D ∈ Ds, D < wr.heap.size := fun D hD => blk_lt (hmk.2.1 D hD)
    generalize (wr.alloc (.cells #[.slice a0 C1.length cap0] 71)) = W1 at *
    refine wpIn_rangeN rfl (by omega) (gf := 108) (lb := #[.pointer (some ⟨wr.heap.size, 0, none⟩)]) rfl trivial (enters_of Tryz.func108 (by kernel_rfl) rfl) (turned_seq 11 (by omega) C1 a0 cap0 wr.heap.size tg fr W1 hc.len hc.asc hc.turnable own1 q1 hG1) KpT.trans ?kb (fun _ => rfl)
      (fun pre W => W.heap[w.heap.size + 1]? = some (.cells #[.string (codeWays C1 b0 pre.length)] 9 (0, 0)) ∧ Below w.heap.size w W ∧ wr.heap.size + 1 ≤ W.heap.size ∧ MarksOk w.heap.size Ds W) ?hI ?hEl ?h0
      (fun x => { tmps := #[.agg #[.slice (some ⟨gg, 0, none⟩) (s + p + 1) cg, .int .i64 (s : Int), .int .i64 (p : Int), .int .i64 d1, .int .i64 d2], .pointer (some ⟨w.heap.size, 0, none⟩), .string ⟨#[]⟩, .int .i64 (s : Int), .pointer (some ⟨w.heap.size + 1, 0, none⟩), u5, .slice a0 C1.length cap0, x, u8, .pointer (some ⟨w.heap.size, 1, none⟩), .pointer (some ⟨w.heap.size, 1, none⟩), .int .i64 (s : Int), .pointer (some ⟨w.heap.size, 0, none⟩), .slice (some ⟨gg, 0, none⟩) (s + p + 1) cg, .int .i64 (s : Int), .int .i64 (s : Int), .pointer (some ⟨w.heap.size, 1, none⟩), .pointer (some ⟨w.heap.size, 2, none⟩), .int .i64 (p : Int), .int .i64 ((s : Int) + (p : Int)), .slice (some ⟨gg, s, none⟩) p (cg - s), .int .i64 (p : Int), .int .i64 (k : Int), .bool true, .pointer (some ⟨gg, s + k, none⟩), .slice a0 C1.length cap0, .slice a0 C1.length cap0, .func (.func 108) #[] #[.pointer (some ⟨wr.heap.size, 0, none⟩)], x, u29, u30, u31, u32, u33, u34, u35, u36, u37, u38, u39, u40, u41], defers := [] }) ?assign ?body ?done
    case kb =>
      intro W l r o hl hr
      refine ⟨by simp, fun k' o' hk' ho' => (World.putObj_heap_other (fun e => ?_)).trans hk'⟩
      subst e
      rw [hr] at hk'
      cases hk'
      cases ho'
    case hI =>
      rintro pre A B ⟨h1, h2, h3, h4⟩ hab
      exact ⟨hab.cells _ _ h1 rfl, h2.trans (hab.be.mono (by omega)), Nat.le_trans h3 hab.be.size, h4.1, fun D hD => (hab.be.block _ (by have := hDl D hD; omega)).trans (h4.2.1 D hD), h4.2.2⟩
    case hEl =>
      rintro pre x A B ⟨h1, h2⟩ hab
      exact ⟨h1, hab.row h2⟩
    case h0 => exact ⟨q2, hbe1, by omega, hmk.1, fun D hD => (hb1.block _ (hDl D hD)).trans (hmk.2.1 D hD), hmk.2.2⟩
    case assign =>
      intro l x W K hK
      gi_wp2
      exact hK
    case body =>
      rintro l pre x W hl ⟨h1, h2, h3, h4⟩ ⟨e1, e2⟩
      have hAt := fun W own => atOrigin_any 0 x (imgL (turnC pre.length) C1) W own (by obtain ⟨ψ, hm⟩ := mot_turn pre.length; rw [hm.len hc.asc]; have := hc.len; omega) (turned_turnable hc e1)
      have hPl := fun v W own htt => plainText_any (homeL (imgL (turnC pre.length) C1)) v 0 0 0 W own (home_fine hc e1) htt
      obtain ⟨T, hT⟩ : ∃ T, turnT pre.length C1 = T := ⟨_, rfl⟩
      have hT' : (⟨(plainB (homeL (imgL (turnC pre.length) C1))).toArray⟩ : ByteArray) = T := hT
      rw [hT'] at hPl
      have HS : Hid (codeWays C1 b0 (pre ++ [x]).length = minT (codeWays C1 b0 pre.length) T) := by show _ = _; rw [List.length_append, List.length_singleton, codeWays_succ, hT]
      obtain ⟨b1, hb1'⟩ : ∃ b1, codeWays C1 b0 pre.length = b1 := ⟨_, rfl⟩
      rw [hb1'] at h1 HS
      clear hb1' hT hT'
      by_cases hem : b1.toList.isEmpty = true
      · have HN : Hid (codeWays C1 b0 (pre ++ [x]).length = T) := by show _ = _; rw [HS.out]; unfold minT; rw [if_pos (by rw [hem]; rfl)]
        gi_wp2_with (first
          | (refine ⟨trivial, ?_⟩; gi_at_call 86; refine (CallsIn.inRound l (callsIn_wide.2 (hAt _ e2))).mono ?_; rintro e w3 ⟨⟨v3, rfl, own3⟩, c3⟩; have b3 : Below w.heap.size w w3 := h2.trans (c3.mono h2.size); have g3 := (c3.block _ (blk_lt h1)).trans h1)
          | (refine ⟨trivial, ?_⟩; gi_at_call 41; refine (CallsIn.inRound l (callsIn_wide.2 (hPl _ _ own3 (tab_up ht b3 b3.size)))).mono ?_; rintro e w4 ⟨rfl, c4⟩; have b4 : Below w.heap.size w w4 := b3.trans (c4.mono b3.size); have g4 := (c4.block _ (blk_lt g3)).trans g3; have m0 := cell_of g4 0; have m1 := frz_of g4 0))
        have cc : Below W.heap.size W w4 := c3.trans (c4.mono c3.size)
        refine ⟨?_, ?_, ?_⟩
        · exact ((show KeepsOthers W w4 from ⟨cc.size, fun k' o hk' ho => (cc.block k' (blk_lt hk')).trans hk'⟩).trans (KeepsOthers.setCell _ _ _)).from _
        · exact ⟨Nat.le_trans cc.size (by simp [World.setCell]), fun k' o hk' ho => (Below.heap_setCell w4 ⟨w.heap.size + 1, 0, none⟩ _ k' (fun e => by subst e; rw [h1] at hk'; cases hk'; rcases ho with h | h <;> cases h)).trans ((cc.block k' (blk_lt hk')).trans hk')⟩
        · refine ⟨?_, b4.setCell (p := ⟨w.heap.size + 1, 0, none⟩) (by simp) _, Nat.le_trans h3 (Nat.le_trans cc.size (by simp [World.setCell])), h4.1, fun D hD => (Below.heap_setCell w4 ⟨w.heap.size + 1, 0, none⟩ _ D (fun e => by have := h4.2.1 D hD; rw [e, h1] at this; cases this)).trans ((cc.block D (by have := hDl D hD; omega)).trans (h4.2.1 D hD)), h4.2.2⟩
          rw [HN.out]
          exact blk_put (j := 0) g4 _
      · have hem' : b1.toList.isEmpty = false := by simpa using hem
        have hem2 : ¬ b1.toList = [] := by simpa using hem
        by_cases hlt : Op.bytesLess T.toList b1.toList = true
        · have HN : Hid (codeWays C1 b0 (pre ++ [x]).length = T) := by show _ = _; rw [HS.out]; unfold minT; rw [if_pos (by rw [hlt]; simp)]
          gi_wp2_with (first
            | (refine ⟨trivial, ?_⟩; gi_at_call 86; refine (CallsIn.inRound l (callsIn_wide.2 (hAt _ e2))).mono ?_; rintro e w3 ⟨⟨v3, rfl, own3⟩, c3⟩; have b3 : Below w.heap.size w w3 := h2.trans (c3.mono h2.size); have g3 := (c3.block _ (blk_lt h1)).trans h1)
            | (refine ⟨trivial, ?_⟩; gi_at_call 41; refine (CallsIn.inRound l (callsIn_wide.2 (hPl _ _ own3 (tab_up ht b3 b3.size)))).mono ?_; rintro e w4 ⟨rfl, c4⟩; have b4 : Below w.heap.size w w4 := b3.trans (c4.mono b3.size); have g4 := (c4.block _ (blk_lt g3)).trans g3; have m0 := cell_of g4 0; have m1 := frz_of g4 0))
          have cc : Below W.heap.size W w4 := c3.trans (c4.mono c3.size)
          refine ⟨?_, ?_, ?_⟩
          · exact ((show KeepsOthers W w4 from ⟨cc.size, fun k' o hk' ho => (cc.block k' (blk_lt hk')).trans hk'⟩).trans (KeepsOthers.setCell _ _ _)).from _
          · exact ⟨Nat.le_trans cc.size (by simp [World.setCell]), fun k' o hk' ho => (Below.heap_setCell w4 ⟨w.heap.size + 1, 0, none⟩ _ k' (fun e => by subst e; rw [h1] at hk'; cases hk'; rcases ho with h | h <;> cases h)).trans ((cc.block k' (blk_lt hk')).trans hk')⟩
          · refine ⟨?_, b4.setCell (p := ⟨w.heap.size + 1, 0, none⟩) (by simp) _, Nat.le_trans h3 (Nat.le_trans cc.size (by simp [World.setCell])), h4.1, fun D hD => (Below.heap_setCell w4 ⟨w.heap.size + 1, 0, none⟩ _ D (fun e => by have := h4.2.1 D hD; rw [e, h1] at this; cases this)).trans ((cc.block D (by have := hDl D hD; omega)).trans (h4.2.1 D hD)), h4.2.2⟩
            rw [HN.out]
            exact blk_put (j := 0) g4 _
        · have hlt' : Op.bytesLess T.toList b1.toList = false := by simpa using hlt
          have HN : Hid (codeWays C1 b0 (pre ++ [x]).length = b1) := by show _ = _; rw [HS.out]; unfold minT; rw [if_neg (by rw [hlt', hem']; simp)]
          gi_wp2_with (first
            | (refine ⟨trivial, ?_⟩; gi_at_call 86; refine (CallsIn.inRound l (callsIn_wide.2 (hAt _ e2))).mono ?_; rintro e w3 ⟨⟨v3, rfl, own3⟩, c3⟩; have b3 : Below w.heap.size w w3 := h2.trans (c3.mono h2.size); have g3 := (c3.block _ (blk_lt h1)).trans h1)
            | (refine ⟨trivial, ?_⟩; gi_at_call 41; refine (CallsIn.inRound l (callsIn_wide.2 (hPl _ _ own3 (tab_up ht b3 b3.size)))).mono ?_; rintro e w4 ⟨rfl, c4⟩; have b4 : Below w.heap.size w w4 := b3.trans (c4.mono b3.size); have g4 := (c4.block _ (blk_lt g3)).trans g3; have m0 := cell_of g4 0; have m1 := frz_of g4 0))
          have cc : Below W.heap.size W w4 := c3.trans (c4.mono c3.size)
          refine ⟨?_, ?_, ?_⟩
          · exact (show KeepsOthers W w4 from ⟨cc.size, fun k' o hk' ho => (cc.block k' (blk_lt hk')).trans hk'⟩).from _
          · exact ⟨cc.size, fun k' o hk' ho => (cc.block k' (blk_lt hk')).trans hk'⟩
          · refine ⟨?_, b4, Nat.le_trans h3 cc.size, h4.1, fun D hD => (cc.block D (by have := hDl D hD; omega)).trans (h4.2.1 D hD), h4.2.2⟩
            rw [HN.out]
            exact g4
    case done =>
      rintro D xs W hD hxs ⟨h1, h2, h3, h4⟩ hK
      rw [hxs] at h1
      have HN : Hid (codeT f g C s (k + 1) = codeWays C1 b0 8) := by show _ = _; rw [codeT_succ, HC1.out, HB0.out]
      rw [← HN.out] at h1
      have hmk' : MarksOk w.heap.size (D :: Ds) W := ⟨List.nodup_cons.2 ⟨fun h => by have := hDl D h; omega, h4.1⟩, fun D' h => by
        rcases List.mem_cons.1 h with rfl | h
        · exact hK
        · exact h4.2.1 D' h, fun D' h => by
        rcases List.mem_cons.1 h with rfl | h
        · omega
        · exact h4.2.2 D' h⟩
      gi_wp2
      refine ⟨⟨k + 1, D :: Ds, _, _, _, _, _, _, _, _, _, _, _, _, _, _, _, _, _, _, _, _, _, _, _, by rw [show ((k + 1 : Nat) : Int) = (k : Int) + 1 by omega]; rfl, by omega, h1, h2, by omega, hmk'⟩, ?_⟩
      simp [intOf]
      omega
  · have hkp' : k = p := by omega
    subst hkp'
    have m0 := cell_of hle 0
    gi_wp2
    refine leaves_marks Ds wr hmk fun W' hW' => ?_
    exact ⟨.string (codeT f g C s k), by simp [results, Tryz.results60], rfl, hbe.trans hW'.be⟩

end Go.Proofs.YtiohpcnnpmnjhaaGreatDoor
