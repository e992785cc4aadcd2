import Derived.Test.YtiohpcnnpmnjhaaGreatDoorPfaM
import Derived.Test.YtiohpcnnpmnjhaaGreatDoorRefParts
import Derived.Test.YtiohpcnnpmnjhaaGreatDoorRefOrb
import Derived.Test.YtiohpcnnpmnjhaaGreatDoorRStM
import Derived.Test.YtiohpcnnpmnjhaaGreatDoorRefWrite
namespace Go.Proofs.YtiohpcnnpmnjhaaGreatDoor
open Go.RowKit Go.Shelf
set_option linter.unusedVariables false

/-- Texts in a block. -/
def LinesAt (W : World) (L : Nat) (ts : List ByteArray) : Prop := ∃ cur, W.heap[L]? = some (.cells cur 9 (0, 0)) ∧ ∀ (i : Nat) (x : ByteArray), ts[i]? = some x → cur[i]? = some (Value.string x)
theorem LinesAt.cell {W : World} {L : Nat} {ts : List ByteArray} (h : LinesAt W L ts) {i : Nat} {x : ByteArray} (hi : ts[i]? = some x) : W.cell? ⟨L, i, none⟩ = some (.string x) := by
  obtain ⟨cur, h1, h2⟩ := h
  simp [World.cell?, h1, h2 i x hi]
theorem LinesAt.lt {W : World} {L : Nat} {ts : List ByteArray} (h : LinesAt W L ts) : L < W.heap.size := by obtain ⟨cur, h1, _⟩ := h; exact blk_lt h1
theorem LinesAt.keep {W W' : World} {L : Nat} {ts : List ByteArray} (h : LinesAt W L ts) (hb : W'.heap[L]? = W.heap[L]?) : LinesAt W' L ts := by
  obtain ⟨cur, h1, h2⟩ := h
  exact ⟨cur, hb.trans h1, h2⟩
theorem TextsAt.lines {W : World} {B : Nat} {v : Value} {ts : List ByteArray} (h : TextsAt W B v ts) : (v = .slice none 0 0 ∧ ts = []) ∨ ∃ L cap, v = .slice (some ⟨L, 0, none⟩) ts.length cap ∧ B ≤ L ∧ LinesAt W L ts := by
  by_cases hts : ts = []
  · exact .inl ⟨h.2 hts, hts⟩
  · refine .inr ?_
    rcases h.1.2 with ⟨rfl, h0⟩ | ⟨L, cap, cur, rfl, hb, hblk, hc, hm, hsz, hpre⟩
    · exact absurd (List.length_eq_zero_iff.1 h0) hts
    · refine ⟨L, cap, rfl, hb, cur, hblk, fun i x hi => ?_⟩
      have hil := (List.getElem?_eq_some_iff.1 hi).1
      have h1 : (cur.toList.take (ts.length * 1))[i]? = some (.string x) := by rw [hpre]; simp [hi]
      rw [List.getElem?_take_of_lt (by omega)] at h1
      simpa using h1

set_option maxRecDepth 100000 in
set_option maxHeartbeats 800000 in
theorem sameTexts_any (va vb : Value) (A B : Nat) (ts : List ByteArray) (w : World) (ha : TextsAt w A va ts) (hb : TextsAt w B vb ts) (hl : ts.length ≤ 1000000) :
    Calls Tryz.prog 30 #[va, vb] w fun e w' => e = .returned (.bool true) ∧ Below w.heap.size w w' := by
  rcases ha.lines with ⟨rfl, rfl⟩ | ⟨La, ca, rfl, _, hSa⟩
  · obtain rfl := hb.2 rfl
    go_enter Tryz.func30, Tryz.ntmps30
    go_wp2
    go_loopw [5] (fun vi wr => vi = .int .i64 0 ∧ wr = w) (fun _ _ => 0)
    case atStart => exact ⟨rfl, rfl⟩
    case round =>
      obtain ⟨rfl, rfl⟩ := hrel
      go_wp2
      go_ret
      exact ⟨rfl, Below.refl _ _⟩
  · rcases hb.lines with ⟨rfl, rfl⟩ | ⟨Lb, cb, rfl, _, hSb⟩
    · have := ha.2 rfl
      cases this
    · have hla := hSa.lt
      have hlb := hSb.lt
      refine (callsIn_wide (n := 5)).1 ?_
      refine callsIn_of_wp Tryz.func30 rfl trivial ?_ rfl
      simp only [Tryz.ntmps30, List.size_toArray, List.length_cons, List.length_nil, Nat.reduceAdd, Nat.reduceSub, Array.replicate_succ, Array.replicate_zero, List.push_toArray, List.append_toArray, List.nil_append, List.cons_append]
      gi_wp2
      gi_loopw [5] (fun vi wr => ∃ k : Nat, k ≤ ts.length ∧ vi = .int .i64 (k : Int) ∧ Below w.heap.size w wr) (fun vi _ => ts.length - (intOf vi).toNat)
      case atStart => exact ⟨0, Nat.zero_le _, rfl, Below.refl _ _⟩
      case round =>
        obtain ⟨k, hk, rfl, hbr⟩ := hrel
        by_cases hlt : k < ts.length
        · have hki : (k : Int) < (ts.length : Int) := by omega
          obtain ⟨x, hx⟩ : ∃ x, ts[k]? = some x := ⟨ts[k], by simp [hlt]⟩
          have a0 := (hSa.keep (hbr.block _ hla)).cell hx
          have b0 := (hSb.keep (hbr.block _ hlb)).cell hx
          gi_wp2_with (fail)
          have hC0 : (fun V : World => V.cell? ⟨La, k, none⟩ = some (.string x) ∧ V.cell? ⟨Lb, k, none⟩ = some (.string x)) wr.drew := ⟨a0, b0⟩
          refine wpIn_region_any (by kernel_rfl) (wpAnyC.any (C := fun V : World => V.cell? ⟨La, k, none⟩ = some (.string x) ∧ V.cell? ⟨Lb, k, none⟩ = some (.string x)) ?_)
          change wpAnyC _ _ _ _ _ _ _ _ _ _ (World.drew _)
          refine wpAnyC_takeN 0 (some 17) (.slice (some ⟨La, 0, none⟩) ts.length ca) hC0 rfl rfl rfl (by kernel_rfl) (by kernel_rfl) (by kernel_rfl) (fun _ _ _ h => h) ⟨by rfl, fun V hV => ⟨rfl, by obtain ⟨q0, q1⟩ := hV; go_simp⟩⟩ ?_
          go_frame
          refine wpAnyC_takeN 1 (some 18) (.int .i64 (k : Int)) hC0 rfl rfl rfl (by kernel_rfl) (by kernel_rfl) (by kernel_rfl) (fun _ _ _ h => h) ⟨by rfl, fun V hV => ⟨rfl, by obtain ⟨q0, q1⟩ := hV; go_simp⟩⟩ ?_
          go_frame
          refine wpAnyC_takeN 2 (some 19) (.pointer (some ⟨La, k, none⟩)) hC0 rfl rfl rfl (by kernel_rfl) (by kernel_rfl) (by kernel_rfl) (fun _ _ _ h => h) ⟨by rfl, fun V hV => ⟨rfl, by obtain ⟨q0, q1⟩ := hV; go_simp⟩⟩ ?_
          go_frame
          refine wpAnyC_takeN 3 (some 20) (.string x) hC0 rfl rfl rfl (by kernel_rfl) (by kernel_rfl) (by kernel_rfl) (fun _ _ _ h => h) ⟨by rfl, fun V hV => ⟨rfl, by obtain ⟨q0, q1⟩ := hV; go_simp⟩⟩ ?_
          go_frame
          refine wpAnyC_takeN 4 (some 21) (.slice (some ⟨Lb, 0, none⟩) ts.length cb) hC0 rfl rfl rfl (by kernel_rfl) (by kernel_rfl) (by kernel_rfl) (fun _ _ _ h => h) ⟨by rfl, fun V hV => ⟨rfl, by obtain ⟨q0, q1⟩ := hV; go_simp⟩⟩ ?_
          go_frame
          refine wpAnyC_takeN 5 (some 22) (.int .i64 (k : Int)) hC0 rfl rfl rfl (by kernel_rfl) (by kernel_rfl) (by kernel_rfl) (fun _ _ _ h => h) ⟨by rfl, fun V hV => ⟨rfl, by obtain ⟨q0, q1⟩ := hV; go_simp⟩⟩ ?_
          go_frame
          refine wpAnyC_takeN 6 (some 23) (.pointer (some ⟨Lb, k, none⟩)) hC0 rfl rfl rfl (by kernel_rfl) (by kernel_rfl) (by kernel_rfl) (fun _ _ _ h => h) ⟨by rfl, fun V hV => ⟨rfl, by obtain ⟨q0, q1⟩ := hV; go_simp⟩⟩ ?_
          go_frame
          refine wpAnyC_takeN 7 (some 24) (.string x) hC0 rfl rfl rfl (by kernel_rfl) (by kernel_rfl) (by kernel_rfl) (fun _ _ _ h => h) ⟨by rfl, fun V hV => ⟨rfl, by obtain ⟨q0, q1⟩ := hV; go_simp⟩⟩ ?_
          go_frame
          refine wpAnyC_takeN 8 (some 25) (.bool false) hC0 rfl rfl rfl (by kernel_rfl) (by kernel_rfl) (by kernel_rfl) (fun _ _ _ h => h) ⟨by rfl, fun V hV => ⟨rfl, by obtain ⟨q0, q1⟩ := hV; go_simp⟩⟩ ?_
          go_frame
          refine wpAnyC_done (by kernel_rfl) ?_ _
          gi_wp2
          go_roundw
          case rel => exact ⟨k + 1, by omega, by go_num, hbr.drew⟩
          case measure => simp [intOf]; omega
        · obtain rfl : k = ts.length := by omega
          gi_wp2
          go_ret
          exact ⟨rfl, hbr⟩

set_option maxRecDepth 100000 in
set_option maxHeartbeats 800000 in
theorem split_bad (rule text : ByteArray) (k i : Int) (w : World) (hk : k ≠ 0)
    (hP : Calls Tryz.prog 26 #[.string rule, .string text] w (PartsOut ([], k, i) w))
    (hR : ∀ w, Calls Tryz.prog 27 #[.string rule, .string text] w fun e w' => (∃ a n c, e = .returned (.tuple #[.slice a n c, .agg #[.int .i64 0, .int .i64 0, .int .i64 0, .int .i64 0], .int .i64 k, .int .i64 i])) ∧ Below w.heap.size w w') :
    Calls Tryz.prog 7 #[.string rule, .string text] w fun e w' => e = .returned (.bool true) ∧ Below w.heap.size w w' := by
  have hnil : ∀ w : World, (binOp BinOp.eql 50 (.slice none 0 0) (.slice none 0 0)).run Tryz.prog w = .ok (.bool true) w := fun _ => by kernel_rfl
  have hk0 : (k == 0) = false := by simpa using hk
  have hk1 : (k != 0) = true := by simp [hk]
  have hk2 : ¬ k = 0 := hk
  go_enter Tryz.func7, Tryz.ntmps7
  go_wp2_with (first
    | (go_at_call 26; refine hP.mono ?_; rintro e w1 ⟨⟨v1, rfl, hT1⟩, b1⟩; clear hP; obtain rfl := hT1.2 rfl)
    | (go_at_call 27; refine (hR _).mono ?_; rintro e w2 ⟨⟨a, n, c, rfl⟩, b2⟩)
    | (go_at_call 14; refine (num_any _ _).mono ?_; rintro e w3 ⟨rfl, rfl⟩))
  go_ret
  exact ⟨rfl, (b1.trans (b2.mono b1.size)).alloc (Nat.le_trans b1.size b2.size) _⟩

set_option maxRecDepth 100000 in
set_option maxHeartbeats 1600000 in
theorem split_far (rule text : ByteArray) (f g : Nat → Bool) (C : List Cel) (s p : Nat) (d1 d2 : Int) (w : World) (hp : 1 ≤ p) (hsp : s + p ≤ 200) (hlen : (gen f g C s).length ≤ 100) (hfar : farL (gen f g C s) = true)
    (hP : Calls Tryz.prog 26 #[.string rule, .string text] w (PartsOut ([], 4, 0) w))
    (hR : ∀ w, Calls Tryz.prog 27 #[.string rule, .string text] w fun e w' => (∃ va vs, e = .returned (.tuple #[va, .agg #[.int .i64 (s : Int), .int .i64 (p : Int), .int .i64 d1, .int .i64 d2], .int .i64 0, .int .i64 0]) ∧ w'.ownsRow 0 25 1 va (s + p + 1) vs ∧ vs.length = s + p + 1 ∧ ∀ (j : Nat) v, vs[j]? = some v → RowOwn w' v (gen f g C j)) ∧ Below w.heap.size w w') :
    Calls Tryz.prog 7 #[.string rule, .string text] w fun e w' => e = .returned (.bool true) ∧ Below w.heap.size w w' := by
  have hnil : ∀ w : World, (binOp BinOp.eql 50 (.slice none 0 0) (.slice none 0 0)).run Tryz.prog w = .ok (.bool true) w := fun _ => by kernel_rfl
  have HR : Hid (∀ w, Calls Tryz.prog 27 #[.string rule, .string text] w fun e w' => (∃ gb cg v, e = .returned (.tuple #[.slice (some ⟨gb, 0, none⟩) (s + p + 1) cg, .agg #[.int .i64 (s : Int), .int .i64 (p : Int), .int .i64 d1, .int .i64 d2], .int .i64 0, .int .i64 0]) ∧ gb < w'.heap.size ∧ w'.cell? ⟨gb, s, none⟩ = some v ∧ RowAt w' v (gen f g C s)) ∧ Below w.heap.size w w') := fun w => (hR w).mono (by
    rintro e w' ⟨⟨va, vs, rfl, ov, hvl, hall⟩, b⟩
    obtain ⟨gb, cg, rfl, hgb, hget⟩ := all_get ov (by omega)
    obtain ⟨v, hv⟩ : ∃ v, vs[s]? = some v := ⟨vs[s]'(by omega), by simp [show s < vs.length by omega]⟩
    exact ⟨⟨gb, cg, v, rfl, hgb, hget s v hv, RowAt.of_owns (hall s v hv)⟩, b⟩)
  have hsi : (s : Int) < (s : Int) + (p : Int) + 1 := by omega
  obtain ⟨D, hD⟩ : ∃ D, gen f g C s = D := ⟨_, rfl⟩
  rw [hD] at HR hlen hfar
  clear hR hD
  have hnot : ∀ (x : Bool) (w : World), (Op.unary .not (.bool x)).run Tryz.prog w = .ok (.bool (!x)) w := fun _ _ => rfl
  go_enter Tryz.func7, Tryz.ntmps7
  go_wp2_with (first
    | (go_at_call 26; refine hP.mono ?_; rintro e w1 ⟨⟨v1, rfl, hT1⟩, b1⟩; clear hP; obtain rfl := hT1.2 rfl)
    | (go_at_call 27; refine (HR.out _).mono ?_; rintro e w2 ⟨⟨gb, cg, v, rfl, hgb, hget, hrow⟩, b2⟩
       have c2 : Below w2.heap.size w2 (w2.alloc (.cells #[.int .i64 (s : Int), .int .i64 (p : Int), .int .i64 d1, .int .i64 d2] 54)) := (Below.refl _ _).alloc (Nat.le_refl _) _
       have t2 := blk_new w2 (.cells #[.int .i64 (s : Int), .int .i64 (p : Int), .int .i64 d1, .int .i64 d2] 54)
       have n0 := cell_of t2 0
       have g0 := (World.cell?_of_block (c2.block _ hgb)).trans hget
       have hnear := refNear_any v D _ (hrow.below c2) (by omega)
       rw [hfar] at hnear)
    | (go_at_call 28; refine hnear.mono ?_; rintro e w3 ⟨rfl, b3⟩)
    | (go_at_call 14; refine (num_any _ _).mono ?_; rintro e w3 ⟨rfl, rfl⟩))
  go_ret
  have b4 := (b1.trans (b2.mono b1.size)).trans (c2.mono (Nat.le_trans b1.size b2.size))
  exact ⟨rfl, b4.trans (b3.mono b4.size)⟩

set_option maxRecDepth 100000 in
set_option maxHeartbeats 3200000 in
theorem split_told (rule text : ByteArray) (f g : Nat → Bool) (C : List Cel) (s p : Nat) (d1 d2 : Int) (w : World) (hp : 1 ≤ p) (hsp : s + p ≤ 200) (hlen : ∀ i, i ≤ s + p → (gen f g C i).length ≤ 100) (hfar : farL (gen f g C s) = false) (κ : Nat → Nat) (hSp : Spotty (spotsL (gensL f g C s p) (p + 1)) (p : Int) d1 d2 κ) (hκ : Root κ) (Ps : List (List Cel)) (hPs : partsTo κ (gen f g C s) (gen f g C s).length = Ps) (X' Y' : Int) (hFine : ∀ P ∈ Ps, Fine P X' Y') (hPl : Ps.length ≤ 100)
    (hP : Calls Tryz.prog 26 #[.string rule, .string text] w (PartsOut (partsT Ps, 0, 0) w))
    (hR : ∀ w, Calls Tryz.prog 27 #[.string rule, .string text] w fun e w' => (∃ va vs, e = .returned (.tuple #[va, .agg #[.int .i64 (s : Int), .int .i64 (p : Int), .int .i64 d1, .int .i64 d2], .int .i64 0, .int .i64 0]) ∧ w'.ownsRow 0 25 1 va (s + p + 1) vs ∧ vs.length = s + p + 1 ∧ ∀ (j : Nat) v, vs[j]? = some v → RowOwn w' v (gen f g C j)) ∧ Below w.heap.size w w') :
    Calls Tryz.prog 7 #[.string rule, .string text] w fun e w' => e = .returned (.bool true) ∧ Below w.heap.size w w' := by
  have hnil : ∀ w : World, (binOp BinOp.eql 50 (.slice none 0 0) (.slice none 0 0)).run Tryz.prog w = .ok (.bool true) w := fun _ => by kernel_rfl
  have hnot : ∀ (x : Bool) (w : World), (Op.unary .not (.bool x)).run Tryz.prog w = .ok (.bool (!x)) w := fun _ _ => rfl
  have HP : Hid (∀ (gb cg : Nat) (vs : List Value) (w : World), vs.length = s + p + 1 → gb < w.heap.size → (∀ (i : Nat) v, vs[i]? = some v → w.cell? ⟨gb, i, none⟩ = some v) → (∀ (i : Nat) v, vs[i]? = some v → RowOwn w v (gen f g C i)) → Calls Tryz.prog 29 #[.slice (some ⟨gb, 0, none⟩) (s + p + 1) cg, .agg #[.int .i64 (s : Int), .int .i64 (p : Int), .int .i64 d1, .int .i64 d2]] w fun e w' => (∃ v us, e = .returned v ∧ RPats w' w.heap.size v Ps us) ∧ Below w.heap.size w w') := fun gb cg vs w a b c d => by
    have := refParts_any f g C s p d1 d2 gb cg vs w hp hsp a b c d hlen κ hSp hκ
    rw [hPs] at this
    exact this
  have HR : Hid (∀ w, Calls Tryz.prog 27 #[.string rule, .string text] w fun e w' => (∃ gb cg v vs, e = .returned (.tuple #[.slice (some ⟨gb, 0, none⟩) (s + p + 1) cg, .agg #[.int .i64 (s : Int), .int .i64 (p : Int), .int .i64 d1, .int .i64 d2], .int .i64 0, .int .i64 0]) ∧ gb < w'.heap.size ∧ w'.cell? ⟨gb, s, none⟩ = some v ∧ RowAt w' v (gen f g C s) ∧ Hid (∀ W, Below w'.heap.size w' W → Calls Tryz.prog 29 #[.slice (some ⟨gb, 0, none⟩) (s + p + 1) cg, .agg #[.int .i64 (s : Int), .int .i64 (p : Int), .int .i64 d1, .int .i64 d2]] W fun e w' => (∃ v us, e = .returned v ∧ RPats w' W.heap.size v Ps us) ∧ Below W.heap.size W w')) ∧ Below w.heap.size w w') := fun w => (hR w).mono (by
    rintro e w' ⟨⟨va, vs, rfl, ov, hvl, hall⟩, b⟩
    obtain ⟨gb, cg, rfl, hgb, hget⟩ := all_get ov (by omega)
    obtain ⟨v, hv⟩ : ∃ v, vs[s]? = some v := ⟨vs[s]'(by omega), by simp [show s < vs.length by omega]⟩
    refine ⟨⟨gb, cg, v, vs, rfl, hgb, hget s v hv, RowAt.of_owns (hall s v hv), fun W hW => ?_⟩, b⟩
    exact HP.out gb cg vs W hvl (Nat.lt_of_lt_of_le hgb hW.size) (fun i v hv => (World.cell?_of_block (hW.block _ hgb)).trans (hget i v hv)) (fun i v hv => rowOwn_on (hall i v hv) hW))
  have hsi : (s : Int) < (s : Int) + (p : Int) + 1 := by omega
  have hDl := hlen s (by omega)
  obtain ⟨D, hD⟩ : ∃ D, gen f g C s = D := ⟨_, rfl⟩
  rw [hD] at HR hDl hfar
  clear hR hD HP hSp hκ hPs hlen
  go_enter Tryz.func7, Tryz.ntmps7
  go_wp2_with (first
    | (go_at_call 26; refine hP.mono ?_; rintro e w1 ⟨⟨v1, rfl, hT1⟩, b1⟩; clear hP)
    | (go_at_call 27; refine (HR.out _).mono ?_; rintro e w2 ⟨⟨gb, cg, v, vs, rfl, hgb, hget, hrow, HPa⟩, b2⟩
       have c2 : Below w2.heap.size w2 (w2.alloc (.cells #[.int .i64 (s : Int), .int .i64 (p : Int), .int .i64 d1, .int .i64 d2] 54)) := (Below.refl _ _).alloc (Nat.le_refl _) _
       have t2 := blk_new w2 (.cells #[.int .i64 (s : Int), .int .i64 (p : Int), .int .i64 d1, .int .i64 d2] 54)
       have n0 := cell_of t2 0
       have g0 := (World.cell?_of_block (c2.block _ hgb)).trans hget
       have hnear := refNear_any v D _ (hrow.below c2) (by omega)
       rw [hfar] at hnear)
    | (go_at_call 28; refine hnear.mono ?_; rintro e w3 ⟨rfl, b3⟩
       have c3 := c2.trans (b3.mono c2.size)
       have t3 := (b3.block _ (blk_lt t2)).trans t2
       have m0 := cell_of t3 0; have m1 := cell_of t3 1; have m2 := cell_of t3 2; have m3 := cell_of t3 3)
    | (go_at_call 29; refine (HPa.out _ c3).mono ?_; rintro e w4 ⟨⟨v4, us, rfl, hPt⟩, b4⟩; obtain ⟨ad, cp, rfl⟩ := row_slice hPt.own))
  obtain ⟨i0, hi, hz0, hz1, hz2⟩ := info_parts infoStr
  have c4 := c3.trans (b4.mono c3.size)
  have d4 : Below w1.heap.size w1 w4 := b2.trans (c4.mono b2.size)
  have e4 : Below w.heap.size w w4 := b1.trans (d4.mono b1.size)
  have hT4 : TextsAt w4 w.heap.size v1 (partsT Ps) := hT1.below d4
  have hus : us.length ≤ 100 := by have := hPt.len; omega
  have HPl : Hid (us.length = Ps.length) := hPt.len
  have hs4 := e4.size
  clear HPa hnear hrow HR hT1
  go_loopw [14, 15] (fun vo vi wr => ∃ k : Nat, k ≤ us.length ∧ vi = .int .i64 (k : Int) ∧ TextsAt wr w4.heap.size vo (partsT (Ps.take k)) ∧ Below w4.heap.size w4 wr) (fun _ vi _ => us.length - (intOf vi).toNat)
  case atStart => exact ⟨0, Nat.zero_le _, rfl, TextsAt.nil _ _, Below.refl _ _⟩
  case round =>
    obtain ⟨k, hk, rfl, hTx, hbr⟩ := hrel
    have hszr := hbr.size
    have hPr := hPt.below hbr
    by_cases hlt : k < us.length
    · have hki : (k : Int) < (us.length : Int) := by omega
      obtain ⟨u, hu⟩ : ∃ u, us[k]? = some u := ⟨us[k], by simp [hlt]⟩
      obtain ⟨P, hPk⟩ : ∃ P, Ps[k]? = some P := ⟨Ps[k]'(by have := HPl.out; omega), by simp [show k < Ps.length by have := HPl.out; omega]⟩
      have hrowU := hPr.row k u P hu hPk
      have hWr := write_any X' Y' 0 u P wr hrowU (hFine P (List.mem_of_getElem? hPk))
      obtain ⟨gq, cq, hva, hgq, hgetq⟩ := all_get hPr.own (by omega)
      cases hva
      have c0 := hgetq k _ hu
      have HS : Hid (partsT (Ps.take (k + 1)) = partsT (Ps.take k) ++ [⟨(plainB P).toArray⟩]) := partsT_succ hPk
      have hkl : (partsT (Ps.take k)).length = k := by unfold partsT; rw [List.length_map, List.length_take]; have := HPl.out; omega
      obtain ⟨Ts, hTs⟩ : ∃ Ts, partsT (Ps.take k) = Ts := ⟨_, rfl⟩
      rw [hTs] at HS hTx hkl
      obtain ⟨ownT, _⟩ := hTx
      obtain ⟨T, hT⟩ : ∃ T : ByteArray, ⟨(plainB P).toArray⟩ = T := ⟨_, rfl⟩
      rw [hT] at HS hWr
      have hTl : Ts.length ≤ 100 := by omega
      clear hT hTs hkl hgetq
      go_wp2_with (first
        | (go_at_call 15; refine hWr.mono ?_; rintro e w5 ⟨rfl, b5⟩; have own5 := rowBelow ownT b5; have s5 := b5.size)
        | (at_builtin; refine wpList_append_own _ rfl _ _ 50 rfl w4.heap.size 9 i0 (.string ⟨#[]⟩) 1 16 Tryz.underlying50 hi hz0 hz1 hz2 rfl (by decide) _ _ _ rfl (own5.alloc _) ⟨w5.heap.size, 0, none⟩ 1 1 [.string T] rfl rfl (cell_one_new _ _ _) (by simp [Value.oneCell']) (by unfold maxLen; omega) (by omega) (by simp; omega) ?_; intro v' w7 own7 hgr7 _))
      go_roundw
      case rel =>
        refine ⟨k + 1, by omega, by go_num, ?_, ?_⟩
        · rw [HS.out]
          refine ⟨?_, fun e => by simp at e⟩
          rw [List.map_append, List.length_append]
          exact own7
        · exact ((hbr.trans (b5.mono hszr)).alloc (by omega) _).grown hgr7 (by simp; omega) (fun j hj => (own5.lt j hj).1)
      case measure => simp [intOf]; omega
    · obtain rfl : k = us.length := by omega
      rw [HPl.out, List.take_length] at hTx
      have hTr := hT4.below hbr
      have hlP : (partsT Ps).length ≤ 100 := by unfold partsT; rw [List.length_map]; exact hPl
      obtain ⟨Ts, hTs⟩ : ∃ Ts, partsT Ps = Ts := ⟨_, rfl⟩
      rw [hTs] at hTx hTr hlP
      clear hTs
      have hsame := sameTexts_any v1 u14 _ _ Ts wr hTr hTx (by omega)
      have hend : Below w.heap.size w wr := e4.trans (hbr.mono hs4)
      rcases hTr.lines with ⟨rfl, rfl⟩ | ⟨La, ca, rfl, _, hSa⟩
      · obtain rfl := hTx.2 rfl
        go_wp2_with (first
          | (go_at_call 30; refine hsame.mono ?_; rintro e w8 ⟨rfl, b8⟩)
          | (go_at_call 14; refine (num_any _ _).mono ?_; rintro e w3 ⟨rfl, rfl⟩))
        go_ret
        exact ⟨rfl, hend.trans (b8.mono hend.size)⟩
      · have hne : Ts.length ≠ 0 := fun e => by
          have := hTr.2 (List.length_eq_zero_iff.1 e)
          cases this
        have hz : ((Ts.length : Int) == 0) = false := by simpa using hne
        obtain ⟨ax, cx, rfl⟩ := row_slice hTx.1
        have hnn : ∀ w : World, (binOp BinOp.eql 50 (.slice (some ⟨La, 0, none⟩) Ts.length ca) (.slice none 0 0)).run Tryz.prog w = .ok (.bool false) w := fun _ => by kernel_rfl
        go_wp2_with (first
          | (go_at_call 30; refine hsame.mono ?_; rintro e w8 ⟨rfl, b8⟩)
          | (go_at_call 14; refine (num_any _ _).mono ?_; rintro e w3 ⟨rfl, rfl⟩))
        go_ret
        exact ⟨rfl, hend.trans (b8.mono hend.size)⟩

end Go.Proofs.YtiohpcnnpmnjhaaGreatDoor

namespace Go.Proofs.YtiohpcnnpmnjhaaGreatDoor
open Go.RowKit Go.Shelf
set_option linter.unusedVariables false

/-- The law Split. -/
theorem split_walk (rule text : ByteArray) (h1 : rule.size ≤ maxLen) (h2 : text.size ≤ maxLen) (w : World) (ht : Tab w.heap.size w) :
    Calls Tryz.prog 7 #[.string rule, .string text] w fun e w' => e = .returned (.bool true) ∧ Below w.heap.size w w' := by
  have hP := parts_any rule text w h1 h2 ht
  have hRo := fun w => refOrbit_any rule text w h1 h2
  have hG := fun w => given_any rule text w h1 h2
  have bad : ∀ (k i : Int), k ≠ 0 → partsA rule text = ([], k, i) → orbitA rule text = ((0, 0, 0, 0), k, i) → Calls Tryz.prog 7 #[.string rule, .string text] w fun e w' => e = .returned (.bool true) ∧ Below w.heap.size w w' := fun k i hk hc ho => by
    rw [hc] at hP
    refine split_bad rule text k i w hk hP fun w => ?_
    have := hRo w
    rw [ho] at this
    exact this
  cases hr : ruleR rule with
  | inl x =>
    obtain ⟨k, i⟩ := x
    exact bad k i (by have := ruleR_bad hr; simpa using this) (by unfold partsA; rw [hr]) (by unfold orbitA; rw [hr])
  | inr x =>
    obtain ⟨f, g⟩ := x
    cases hp : patR text with
    | inl x =>
      obtain ⟨k, i⟩ := x
      exact bad k i (by have := patR_bad hp; simpa using this) (by unfold partsA; rw [hr]; simp only [hp]) (by unfold orbitA; rw [hr]; simp only [hp])
    | inr C =>
      cases hco : course f g C with
      | inl k => exact bad k 0 (courseF_ne 201 0 hco) (by unfold partsA; rw [hr]; simp only [hp, hco]) (by unfold orbitA; rw [hr]; simp only [hp, hco])
      | inr x =>
        obtain ⟨t, s⟩ := x
        obtain ⟨X, Y, hf, hbx⟩ := patR_tight hp
        obtain ⟨ht2, hcm⟩ := courseF_s 201 0 hco
        have hst := cameB_lt hcm
        have hw := came_way hcm
        have hR := fun w => refOrbit_rows rule text w f g C X Y t s hf hco fun w => (hG w).mono fun e w' h => by
          unfold GivenOut at h; rw [hr] at h; simp only [hp] at h; obtain ⟨hb, v, he, own⟩ := h; exact ⟨v, he, hb, own⟩
        unfold RefOrbRows at hR
        simp only [cycC] at hR
        obtain ⟨p, rfl⟩ : ∃ p, t = s + p := ⟨t - s, by omega⟩
        have hPA : partsA rule text = if farL (gen f g C s) = true then ([], 4, 0) else (partsT (storyParts f g C s p), 0, 0) := by unfold partsA; rw [hr]; simp only [hp, hco]; rw [show s + p - s = p by omega]
        simp only [show ((s + p : Nat) : Int) - (s : Int) = (p : Int) by omega] at hR
        have hsmall := way_small (Nat.le_of_lt hst) hw
        have hback := way_eq hw
        obtain ⟨⟨d1, d2⟩, hd⟩ : ∃ d, wayD (gen f g C s) (gen f g C (s + p)) = d := ⟨_, rfl⟩
        rw [hd] at hsmall hback
        simp only [hd] at hR
        simp only at hsmall hback
        have hglen := gen_len hco
        cases hfar : farL (gen f g C s) with
        | true =>
          rw [hfar, if_pos rfl] at hPA
          rw [hPA] at hP
          exact split_far rule text f g C s p d1 d2 w (by omega) (by omega) (hglen s) hfar hP hR
        | false =>
          rw [hfar, if_neg (by decide)] at hPA
          rw [hPA] at hP
          obtain ⟨X', Y', hF⟩ := gen_fine hf hbx hco (i := s) (by omega) hfar
          have hmem : ∀ G ∈ gensL f g C s p, ∃ i, i ≤ 200 ∧ G = gen f g C i := fun G hG => by
            obtain ⟨i, hi⟩ := List.mem_iff_getElem?.1 hG
            obtain ⟨hle, rfl⟩ := gensL_at hi
            exact ⟨s + i, by omega, rfl⟩
          have hle := startOf_le (b := 100) (fun G hG => by obtain ⟨i, _, rfl⟩ := hmem G hG; exact hglen i) (gensL f g C s p).length (Nat.le_refl _)
          have hSp := spotty (gensL_ring (s := s) (p := p) hf.asc (by omega) hback) (by rw [gensL_len] at hle ⊢; omega) (by rw [gensL_len]; omega) (by omega) (by omega) (fun G hG c hc => by
            obtain ⟨i, hi, rfl⟩ := hmem G hG
            obtain ⟨_, _, A, B, a1, a2, a3⟩ := gen_codable (i := i) hf hbx hco (by omega)
            have := a3 c hc
            omega)
          rw [gensL_len] at hSp
          simp only [Nat.add_sub_cancel] at hSp
          exact split_told rule text f g C s p d1 d2 w (by omega) (by omega) (fun i _ => hglen i) hfar (grp (gensL f g C s p)) hSp (grp_root _) (storyParts f g C s p) rfl X' Y' (fun P hP => part_fine hF hP) (Nat.le_trans (partsTo_len _ _ _) (hglen s)) hP hR

end Go.Proofs.YtiohpcnnpmnjhaaGreatDoor
