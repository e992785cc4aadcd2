import Derived.Test.YtiohpcnnpmnjhaaGreatDoorRfCM
namespace Go.Proofs.YtiohpcnnpmnjhaaGreatDoor
open Go.RowKit
set_option linter.unusedVariables false

theorem rat_new (w : World) (s : ByteArray) : RAt (w.alloc (.cells #[.string s, .int .i64 0, .bool false] 94)) w.heap.size s 0 false := by
  have h := blk_new w (.cells #[.string s, .int .i64 0, .bool false] 94)
  exact ⟨cell_of h 0, cell_of h 1, cell_of h 2, frz_of h 1, frz_of h 2⟩

theorem Pad.le {p B C : Nat} {x y : World} (h : Pad p B x y) (hC : C ≤ B) : Pad p C x y := ⟨h.os, h.tape, h.output, h.size, fun k hk hp => h.block k (by omega) hp⟩
theorem rread_below {b : Nat} {w w1 w' : World} (h0 : Below w.heap.size w w1) (hb : w.heap.size = b) (hp : Pad b w1.heap.size w1 w') : Below w.heap.size w w' :=
  h0.trans ⟨hp.os, hp.tape, hp.output, hp.size, fun k hk => hp.block k (by have := h0.size; omega) (by omega)⟩

set_option maxHeartbeats 800000 in
theorem refRead_long (s : ByteArray) (w : World) (hm : s.size ≤ maxLen) (hs : 1500 < s.size) : Calls Tryz.prog 22 #[.string s] w (RefPat s w) := by
  unfold maxLen at hm
  go_enter Tryz.func22, Tryz.ntmps22
  go_wp2
  exact bodyPost_ret (v := .tuple #[.slice none 0 0, .int .i64 1, .int .i64 0]) (by simp [results, Tryz.results22, go_sem]) rfl (refPat_bad (i := 0) (by simp [patR, hs]) (Below.refl _ _))

set_option maxHeartbeats 800000 in
theorem refRead_form (s : ByteArray) (w : World) (hs : s.size ≤ 1500) (i : Nat) (hr : rparse s = .inl i) (hp : parse s = .inl i) : Calls Tryz.prog 22 #[.string s] w (RefPat s w) := by
  have hR := rread_any w.heap.size s _ (rat_new w s) hs
  rw [hr] at hR
  have hb0 : Below w.heap.size w (w.alloc (.cells #[.string s, .int .i64 0, .bool false] 94)) := (Below.refl _ _).alloc (Nat.le_refl _) _
  go_enter Tryz.func22, Tryz.ntmps22
  go_wp2_with (go_at_call 52; refine hR.mono ?_; rintro e w1 ⟨hpd, ⟨x, y, ad, n, c, kd, rfl⟩, ha⟩; have ha' := ha.alloc (.cells #[.int .i64 x, .int .i64 y, .slice ad n c, .string kd] 97); have ⟨c0, c1, c2, f1, f2⟩ := ha')
  go_region
  go_wp2
  have hb1 := rread_below hb0 rfl hpd
  exact bodyPost_ret (v := .tuple #[.slice none 0 0, .int .i64 2, .int .i64 (i : Int)]) (by simp [results, Tryz.results22, go_sem]) rfl (refPat_bad (by simp [patR, show ¬ 1500 < s.size by omega, hp]) (hb1.alloc hb1.size _).drew)


set_option maxRecDepth 100000 in
set_option maxHeartbeats 800000 in
/-- The first cell is too far out: the runs are not looked at. -/
theorem refRead_first (s : ByteArray) (w : World) (hs : s.size ≤ 1500) (x y x' y' : Int) (l : List (Nat × Int)) (hr : rparse s = .inr (x, y, l)) (hp : parse s = .inr (x', y', l)) (hl : l.length ≤ 1500) (hf : farB x y = true) (hf' : farB x' y' = true) : Calls Tryz.prog 22 #[.string s] w (RefPat s w) := by
  have hR := rread_any w.heap.size s _ (rat_new w s) hs
  rw [hr] at hR
  have hN := fun w => near_any x y w
  simp only [hf, Bool.not_true] at hN
  have hb0 : Below w.heap.size w (w.alloc (.cells #[.string s, .int .i64 0, .bool false] 94)) := (Below.refl _ _).alloc (Nat.le_refl _) _
  have HP : Hid (patR s = .inl (4, 0)) := by show _ = _; simp [patR, show ¬ 1500 < s.size by omega, hp, hf']
  have hnot : ∀ (x : Bool) (w : World), (Op.unary .not (.bool x)).run Tryz.prog w = .ok (.bool (!x)) w := fun _ _ => rfl
  clear hp hf hf' hr
  go_enter Tryz.func22, Tryz.ntmps22
  go_wp2_with (first
    | (go_at_call 52; refine hR.mono ?_; rintro e w1 ⟨hpd, v, kd, i0, rfl, ha, own, hkd⟩; obtain ⟨ad, cp, rfl⟩ := row_slice own; have hb1 := rread_below hb0 rfl hpd; have hsz1 := hb1.size; have ha' := ha.alloc (.cells #[.int .i64 x, .int .i64 y, .slice ad l.length cp, .string kd] 97); have ⟨c0, c1, c2, f1, f2⟩ := ha')
    | (go_at_call 53; refine (hN _).mono ?_; rintro e w2 ⟨rfl, rfl⟩))
  have hb4 := ((hb1.alloc hb1.size (.cells #[.int .i64 x, .int .i64 y, .slice ad l.length cp, .string kd] 97)).alloc (by simp; omega) (.cells #[.int .i64 x, .int .i64 y] 44)).alloc (by simp; omega) (.cells #[.int .i64 x, .int .i64 y] 44)
  have t0 := blk_old (blk_old (blk_new w1 (.cells #[.int .i64 x, .int .i64 y, .slice ad l.length cp, .string kd] 97)) (.cells #[.int .i64 x, .int .i64 y] 44)) (.cells #[.int .i64 x, .int .i64 y] 44)
  have q2 := cell_of t0 2
  obtain ⟨W0, hW0⟩ : ∃ W0, (((w1.alloc (.cells #[.int .i64 x, .int .i64 y, .slice ad l.length cp, .string kd] 97)).alloc (.cells #[.int .i64 x, .int .i64 y] 44)).alloc (.cells #[.int .i64 x, .int .i64 y] 44)) = W0 := ⟨_, rfl⟩
  rw [hW0] at hb4 t0 q2
  rw [hW0]
  go_loopg [8, 9, 10, 11] 0 (fun g vf vm vl vi wr => vf = .bool true ∧ vm = .int .i64 0 ∧ vl = .slice none 0 0 ∧ vi = .int .i64 0 ∧ wr = W0)
  case atStart => exact ⟨rfl, rfl, rfl, rfl, rfl⟩
  case round =>
    obtain ⟨rfl, rfl, rfl, rfl, rfl⟩ := hrel
    by_cases h0 : 0 < l.length
    · have h0' : decide ((0 : Int) < (l.length : Int)) = true := decide_eq_true (by omega)
      go_wp2
      exact bodyPost_ret (v := .tuple #[.slice none 0 0, .int .i64 4, .int .i64 0]) (by simp [results, Tryz.results22, go_sem]) rfl (refPat_bad (i := 0) HP.out hb4)
    · have h0' : decide ((0 : Int) < (l.length : Int)) = false := decide_eq_false (by omega)
      go_wp2
      exact bodyPost_ret (v := .tuple #[.slice none 0 0, .int .i64 4, .int .i64 0]) (by simp [results, Tryz.results22, go_sem]) rfl (refPat_bad (i := 0) HP.out hb4)

theorem patR_runs {s : ByteArray} {x y : Int} {l : List (Nat × Int)} (hs : ¬ 1500 < s.size) (hp : parse s = .inr (x, y, l)) (hf : farB x y = false) :
    patR s = if (penRun x y l).2.2.any farS then .inl (4, 0) else if 100 < total (penRun x y l).2.2 then .inl (5, 0) else .inr (cellsOf (penRun x y l).2.2) := by
  unfold patR
  rw [if_neg hs, hp]
  simp only [hf, Bool.false_or]

theorem RInv.put {W0 : World} {A B : Nat} {x y : Int} {l : List (Nat × Int)} {i : Nat} {F : Bool} {M : Int} {v : Value} {L : List Cel} {px py : Int} {wr : World} (h : RInv W0 A B x y l i F M v L px py wr) (hA : A < B) (z : Int) :
    RInv W0 A B x y l i F M v L z py (wr.setCell ⟨A, 0, none⟩ (.int .i64 z)) :=
  ⟨row_setb h.own hA _, blk_put (j := 0) h.at_ _, h.pad.setCell 0 _, h.len⟩
theorem RInv.putY {W0 : World} {A B : Nat} {x y : Int} {l : List (Nat × Int)} {i : Nat} {F : Bool} {M : Int} {v : Value} {L : List Cel} {px py : Int} {wr : World} (h : RInv W0 A B x y l i F M v L px py wr) (hA : A < B) (z : Int) :
    RInv W0 A B x y l i F M v L px z (wr.setCell ⟨A, 1, none⟩ (.int .i64 z)) :=
  ⟨row_setb h.own hA _, blk_put (j := 1) h.at_ _, h.pad.setCell 1 _, h.len⟩
theorem RInv.alloc {W0 : World} {A B : Nat} {x y : Int} {l : List (Nat × Int)} {i : Nat} {F : Bool} {M : Int} {v : Value} {L : List Cel} {px py : Int} {wr : World} (h : RInv W0 A B x y l i F M v L px py wr) (hB : B ≤ wr.heap.size) (o : Obj) :
    RInv W0 A B x y l i F M v L px py (wr.alloc o) :=
  ⟨h.own.alloc o, blk_old h.at_ o, h.pad.alloc hB o, h.len⟩
theorem RInv.re {W0 : World} {A B : Nat} {x y x2 y2 : Int} {l l2 : List (Nat × Int)} {i i2 : Nat} {F F2 : Bool} {M M2 : Int} {v : Value} {L : List Cel} {px py : Int} {wr : World} (h : RInv W0 A B x y l i F M v L px py wr) : RInv W0 A B x2 y2 l2 i2 F2 M2 v L px py wr := ⟨h.own, h.at_, h.pad, h.len⟩

set_option maxRecDepth 100000 in
set_option maxHeartbeats 3200000 in
theorem refRead_main (s : ByteArray) (w : World) (hs : s.size ≤ 1500) (x y : Int) (l : List (Nat × Int)) (hr : rparse s = .inr (x, y, l)) (hp : parse s = .inr (x, y, l)) (hl : l.length ≤ 1500) (hok : ∀ r ∈ l, okRun r) (hf : farB x y = false) : Calls Tryz.prog 22 #[.string s] w (RefPat s w) := by
  have hR := rread_any w.heap.size s _ (rat_new w s) hs
  rw [hr] at hR
  have hN := fun w => near_any x y w
  simp only [hf, Bool.not_false] at hN
  have hb0 : Below w.heap.size w (w.alloc (.cells #[.string s, .int .i64 0, .bool false] 94)) := (Below.refl _ _).alloc (Nat.le_refl _) _
  have HP : Hid (patR s = if (penRun x y l).2.2.any farS then .inl (4, 0) else if 100 < total (penRun x y l).2.2 then .inl (5, 0) else .inr (cellsOf (penRun x y l).2.2)) := patR_runs (by omega) hp hf
  have hnot : ∀ (x : Bool) (w : World), (Op.unary .not (.bool x)).run Tryz.prog w = .ok (.bool (!x)) w := fun _ _ => rfl
  have hbd := hf
  simp only [farB, MC, Bool.or_eq_false_iff, decide_eq_false_iff_not] at hbd
  have bx : -2000000000000000000 ≤ x ∧ x ≤ 2000000000000000000 := by omega
  have bY : -2000000000000000000 ≤ y ∧ y ≤ 2000000000000000000 := by omega
  clear hp hf hr hbd
  go_enter Tryz.func22, Tryz.ntmps22
  go_wp2_with (first
    | (go_at_call 52; refine hR.mono ?_; rintro e w1 ⟨hpd, v, kd, i0, rfl, ha, own, hkd⟩; obtain ⟨ad, cp, rfl⟩ := row_slice own; have hb1 := rread_below hb0 rfl hpd; have hsz1 := hb1.size; have ha' := ha.alloc (.cells #[.int .i64 x, .int .i64 y, .slice ad l.length cp, .string kd] 97); have ⟨c0, c1, c2, f1, f2⟩ := ha')
    | (go_at_call 53; refine (hN _).mono ?_; rintro e w2 ⟨rfl, rfl⟩))
  have hb4 := ((hb1.alloc hb1.size (.cells #[.int .i64 x, .int .i64 y, .slice ad l.length cp, .string kd] 97)).alloc (by simp; omega) (.cells #[.int .i64 x, .int .i64 y] 44)).alloc (by simp; omega) (.cells #[.int .i64 x, .int .i64 y] 44)
  have t0 := blk_old (blk_old (blk_new w1 (.cells #[.int .i64 x, .int .i64 y, .slice ad l.length cp, .string kd] 97)) (.cells #[.int .i64 x, .int .i64 y] 44)) (.cells #[.int .i64 x, .int .i64 y] 44)
  have a0 := blk_old (blk_new (w1.alloc (.cells #[.int .i64 x, .int .i64 y, .slice ad l.length cp, .string kd] 97)) (.cells #[.int .i64 x, .int .i64 y] 44)) (.cells #[.int .i64 x, .int .i64 y] 44)
  have own0 := ((own.alloc (.cells #[.int .i64 x, .int .i64 y, .slice ad l.length cp, .string kd] 97)).alloc (.cells #[.int .i64 x, .int .i64 y] 44)).alloc (.cells #[.int .i64 x, .int .i64 y] 44)
  have hgw : ∀ g cap, ad = some ⟨g, 0, none⟩ → cap = cp → 0 < l.length → g < w1.heap.size := fun g cap e _ h0 => by
    obtain ⟨g', cap', e', hg', _⟩ := counts_get own h0
    cases e'; cases e; exact hg'
  have s0 : (((w1.alloc (.cells #[.int .i64 x, .int .i64 y, .slice ad l.length cp, .string kd] 97)).alloc (.cells #[.int .i64 x, .int .i64 y] 44)).alloc (.cells #[.int .i64 x, .int .i64 y] 44)).heap.size = w1.heap.size + 3 := by simp
  rw [World.size_alloc] at a0
  obtain ⟨W0, hW0⟩ : ∃ W0, (((w1.alloc (.cells #[.int .i64 x, .int .i64 y, .slice ad l.length cp, .string kd] 97)).alloc (.cells #[.int .i64 x, .int .i64 y] 44)).alloc (.cells #[.int .i64 x, .int .i64 y] 44)) = W0 := ⟨_, rfl⟩
  rw [hW0] at hb4 t0 a0 own0 s0
  rw [hW0]
  obtain ⟨T, hT⟩ : ∃ T, w1.heap.size = T := ⟨_, rfl⟩
  rw [hT] at t0 a0 hsz1 s0
  simp only [hT] at hgw
  rw [hT]
  clear hW0 hT hpd ha own ha' c0 c1 c2 f1 f2 hN hR hb1
  have nTA : T ≠ T + 1 := by omega
  have nAT : ¬ T + 1 = T := by omega
  have own1 : W0.ownsRow (T + 2) 44 2 (.slice none 0 0) 0 [] := World.ownsRow_nil _ _ _ _
  go_loopg [8, 9, 10, 11] l.length (fun g vf vm vl vi wr => ∃ (i : Nat) (F : Bool) (M : Int) (v : Value) (L : List Cel) (px py : Int), i ≤ l.length ∧ g = l.length - i ∧ vf = .bool F ∧ vm = .int .i64 M ∧ vl = v ∧ vi = .int .i64 (i : Int) ∧ RInv W0 (T + 1) (T + 2) x y l i F M v L px py wr ∧ Hid (RSpec x y l i F M L px py))
  case atStart => exact ⟨0, false, 0, _, [], x, y, Nat.zero_le _, rfl, rfl, rfl, rfl, rfl, ⟨own1, a0, Pad.refl _ _ _, by simp⟩, RSpec.start x y l⟩
  case round =>
    obtain ⟨i, F, M, v, L, px, py, hi, rfl, rfl, rfl, rfl, rfl, hI, hS⟩ := hrel
    have hwB : T + 2 ≤ wr.heap.size := by have := hI.size; omega
    have hTw : T + 1 < wr.heap.size := by omega
    have hTw0 : T < wr.heap.size := by omega
    have tr := (hI.pad.block T (by omega) nTA).trans t0
    have q0 := cell_of tr 0
    have q2 := cell_of tr 2
    have q3 := cell_of tr 3
    have d0 := cell_of hI.at_ 0
    have d1 := cell_of hI.at_ 1
    have z0 := frz_of hI.at_ 0
    have z1 := frz_of hI.at_ 1
    have hBe : Below w.heap.size w wr := hb4.trans ⟨hI.pad.os, hI.pad.tape, hI.pad.output, hI.pad.size, fun k hk => hI.pad.block k (by omega) (by omega)⟩
    obtain ⟨m1, m2, m3, m4, m5, m6⟩ := hS.out.bd bx bY hl hok
    by_cases hlt : i < l.length
    · have hdc : decide ((i : Int) < (l.length : Int)) = true := by simp; omega
      cases F with
      | true =>
        have HQ : Hid (patR s = .inl (4, 0)) := by
          show _ = _
          rw [HP.out, if_pos (penRun_any (i := i) hS.out.2.2.1)]
        go_wp2
        exact bodyPost_ret (v := .tuple #[.slice none 0 0, .int .i64 4, .int .i64 0]) (by simp [results, Tryz.results22, go_sem]) rfl (refPat_bad (i := 0) HQ.out hBe)
      | false =>
        obtain ⟨⟨n, c⟩, hrn⟩ : ∃ r, l[i]? = some r := ⟨l[i], by simp [hlt]⟩
        obtain ⟨o1, o2, o3⟩ := hok (n, c) (List.mem_of_getElem? hrn)
        simp only at o1 o2 o3
        obtain ⟨g, cap, ev, hg, _, hget⟩ := counts_get own0 (by omega)
        cases ev
        have hgT := hgw g cp rfl rfl (by omega)
        have e0 : wr.cell? ⟨g, i, none⟩ = some (.int .i64 (n : Int)) := (hI.pad.cell (q := ⟨g, i, none⟩) (by show g < T + 2; omega) (by show g ≠ T + 1; omega)).trans (hget i _ hrn)
        obtain ⟨hik, hkc⟩ := kd_get hkd hrn
        simp only at hkc
        unfold isLt at o3
        simp only [Bool.or_eq_true, beq_iff_eq] at o3
        clear hget hgw own0 own1 a0 t0
        rcases o3 with (o3 | o3) | o3
        · rw [o3] at hkc hrn
          have e36 : ((kd[i].toNat : Int) == 36) = false := by rw [hkc]; decide
          have e98 : ((kd[i].toNat : Int) == 98) = true := by rw [hkc]; decide
          have HS : Hid (RSpec x y l (i + 1) false M L (px + n) py) := hS.out.right hrn
          clear hkc hrn o3 hS
          go_wp2
          go_roundg (l.length - (i + 1))
          case measure => omega
          case rel => exact ⟨i + 1, false, M, _, L, px + n, py, by omega, rfl, rfl, rfl, rfl, by go_num, (hI.put (by omega) _).re, HS.out⟩
        · rw [o3] at hkc hrn
          have e36 : ((kd[i].toNat : Int) == 36) = false := by rw [hkc]; decide
          have e98 : ((kd[i].toNat : Int) == 98) = false := by rw [hkc]; decide
          have HS : Hid (∀ L', (M + n ≤ 100 → L' = L ++ runCells px py n) → RSpec x y l (i + 1) (false || (farB px py || farB (px + n - 1) py)) (M + n) L' (px + n) py) := fun L' h => hS.out.live hrn h
          have HL : Hid (M + n ≤ 100 → (L.length : Int) = M) := fun h => by
            obtain ⟨_, _, _, h4, h5⟩ := hS.out
            have hbd := penRun_bd (x := x) (y := y) (l := l.take i) (by omega) (by have := List.length_take_le' i l; omega) (fun r hr' => hok r (List.mem_of_mem_take hr'))
            rw [h5 (by omega), cellsOf_length _ hbd.2, h4]
          have hN1 := fun w => near_any px py w
          have hN2 := fun w => near_any (px + n - 1) py w
          obtain ⟨fb, hfb⟩ : ∃ fb, farB (px + n - 1) py = fb := ⟨_, rfl⟩
          rw [hfb] at HS
          simp only [hfb] at hN2
          clear hkc hrn o3 hS hfb
          obtain ⟨i0, hi0, hz0, hz1, hz2⟩ := info_parts infoRCell
          cases hfa : farB px py with
          | true =>
            simp only [hfa, Bool.not_true] at hN1
            rw [hfa] at HS
            simp only [Bool.true_or, Bool.false_or] at HS
            clear hfa
            go_wp2_with (go_at_call 53; refine (hN1 _).mono ?_; rintro e w2 ⟨rfl, rfl⟩)
            have hI2 := (hI.alloc hwB (.cells #[.int .i64 (px + n - 1), .int .i64 py] 44)).alloc (by simp; omega) (.cells #[.int .i64 px, .int .i64 py] 44)
            have hsz2 : T + 2 ≤ ((wr.alloc (.cells #[.int .i64 (px + n - 1), .int .i64 py] 44)).alloc (.cells #[.int .i64 px, .int .i64 py] 44)).heap.size := by simp; omega
            obtain ⟨W2, hW2⟩ : ∃ W2, (wr.alloc (.cells #[.int .i64 (px + n - 1), .int .i64 py] 44)).alloc (.cells #[.int .i64 px, .int .i64 py] 44) = W2 := ⟨_, rfl⟩
            rw [hW2] at hI2 hsz2
            rw [hW2]
            clear hW2 hI d0 d1 z0 z1 e0 q0 q2 q3 tr hBe
            by_cases hM : M + n ≤ 100
            · have hLl := HL.out hM
              have hMd : decide (M + (n : Int) ≤ 100) = true := by simpa using hM
              go_loopw [10, 14] (fun vl vk wy => ∃ (j : Nat) (v' : Value), j ≤ n ∧ vl = v' ∧ vk = .int .i64 (j : Int) ∧ RInv W0 (T + 1) (T + 2) x y l i false M v' (L ++ runCells px py j) px py wy) (fun _ vk _ => n - (intOf vk).toNat)
              case atStart => exact ⟨0, _, Nat.zero_le _, rfl, rfl, by simpa [runCells] using hI2⟩
              case round =>
                clear hI2
                obtain ⟨j, v', hj, rfl, rfl, hI3⟩ := hrel
                have hl3 : (L ++ runCells px py j).length = L.length + j := by simp [runCells_length]
                have own3 := hI3.own
                rw [hl3] at own3
                have g0 := cell_of hI3.at_ 0
                have g1 := cell_of hI3.at_ 1
                have y0 := frz_of hI3.at_ 0
                have hs3 : T + 2 ≤ wr.heap.size := by have := hI3.size; omega
                by_cases hjn : j < n
                · have hjd : decide ((j : Int) < (n : Int)) = true := by simp; omega
                  go_wp2_with (at_builtin; refine wpList_append_own _ rfl _ _ 25 rfl (T + 2) 44 i0 (.agg #[.int .i64 0, .int .i64 0]) 2 16 Tryz.underlying25 hi0 hz0 hz1 hz2 rfl (by decide) _ _ _ rfl (own3.alloc _) ⟨wr.heap.size, 0, none⟩ 1 1 [.int .i64 (px + (j : Int)), .int .i64 py] rfl rfl (cell_two_new _ _ _ _) (by simp [Value.oneCell']) (by unfold maxLen; omega) (by omega) (by simp; omega) ?_; intro v4 w4 own4 hg4 _)
                  go_roundw
                  case rel =>
                    have hb4' : Below (T + 2) wr w4 := ((Below.refl _ _).alloc hs3 _).grown hg4 (by simp; omega) (fun k hk => (own3.lt k hk).1)
                    refine ⟨j + 1, v4, by omega, rfl, by go_num, ⟨?_, ?_, hI3.pad.trans (Pad.of_below hb4'), by simp [runCells_length]; omega⟩⟩
                    · rw [runCells_succ, ← List.append_assoc, flatC_append, List.length_append, hl3]
                      exact own4
                    · exact (hb4'.block (T + 1) (by omega)).trans hI3.at_
                  case measure => simp [intOf]; omega
                · have hjd : decide ((j : Int) < (n : Int)) = false := by simp; omega
                  obtain rfl : j = n := by omega
                  go_wp2
                  go_roundg (l.length - (i + 1))
                  case measure => omega
                  case rel => exact ⟨i + 1, true, M + j, _, L ++ runCells px py j, px + j, py, by omega, rfl, rfl, rfl, rfl, by go_num, (hI3.put (by omega) _).re, HS.out _ fun _ => rfl⟩
            · have hMd : decide (M + (n : Int) ≤ 100) = false := by simpa using hM
              have g0 := cell_of hI2.at_ 0
              have y0 := frz_of hI2.at_ 0
              have hnd : decide ((0 : Int) < (n : Int)) = true := by simp; omega
              go_loopw [10, 14] (fun vl vk wy => vl = u10 ∧ vk = .int .i64 0 ∧ wy = W2) (fun _ _ _ => 0)
              case atStart => exact ⟨rfl, rfl, rfl⟩
              case round =>
                obtain ⟨rfl, rfl, rfl⟩ := hrel
                go_wp2
                go_roundg (l.length - (i + 1))
                case measure => omega
                case rel => exact ⟨i + 1, true, M + n, _, L, px + n, py, by omega, rfl, rfl, rfl, rfl, by go_num, (hI2.put (by omega) _).re, HS.out _ fun h => by omega⟩
          | false =>
            simp only [hfa, Bool.not_false] at hN1
            rw [hfa] at HS
            simp only [Bool.false_or] at HS
            clear hfa
            go_wp2_with (first
              | (go_at_call 53; refine (hN1 _).mono ?_; rintro e w2 ⟨rfl, rfl⟩; clear hN1)
              | (go_at_call 53; refine (hN2 _).mono ?_; rintro e w3 ⟨rfl, rfl⟩))
            have hI2 := ((hI.alloc hwB (.cells #[.int .i64 (px + n - 1), .int .i64 py] 44)).alloc (by simp; omega) (.cells #[.int .i64 px, .int .i64 py] 44)).alloc (by simp; omega) (.cells #[.int .i64 (px + n - 1), .int .i64 py] 44)
            have hsz2 : T + 2 ≤ (((wr.alloc (.cells #[.int .i64 (px + n - 1), .int .i64 py] 44)).alloc (.cells #[.int .i64 px, .int .i64 py] 44)).alloc (.cells #[.int .i64 (px + n - 1), .int .i64 py] 44)).heap.size := by simp; omega
            obtain ⟨W2, hW2⟩ : ∃ W2, ((wr.alloc (.cells #[.int .i64 (px + n - 1), .int .i64 py] 44)).alloc (.cells #[.int .i64 px, .int .i64 py] 44)).alloc (.cells #[.int .i64 (px + n - 1), .int .i64 py] 44) = W2 := ⟨_, rfl⟩
            rw [hW2] at hI2 hsz2
            rw [hW2]
            clear hW2 hI d0 d1 z0 z1 e0 q0 q2 q3 tr hBe
            by_cases hM : M + n ≤ 100
            · have hLl := HL.out hM
              have hMd : decide (M + (n : Int) ≤ 100) = true := by simpa using hM
              go_loopw [10, 14] (fun vl vk wy => ∃ (j : Nat) (v' : Value), j ≤ n ∧ vl = v' ∧ vk = .int .i64 (j : Int) ∧ RInv W0 (T + 1) (T + 2) x y l i false M v' (L ++ runCells px py j) px py wy) (fun _ vk _ => n - (intOf vk).toNat)
              case atStart => exact ⟨0, _, Nat.zero_le _, rfl, rfl, by simpa [runCells] using hI2⟩
              case round =>
                clear hI2
                obtain ⟨j, v', hj, rfl, rfl, hI3⟩ := hrel
                have hl3 : (L ++ runCells px py j).length = L.length + j := by simp [runCells_length]
                have own3 := hI3.own
                rw [hl3] at own3
                have g0 := cell_of hI3.at_ 0
                have g1 := cell_of hI3.at_ 1
                have y0 := frz_of hI3.at_ 0
                have hs3 : T + 2 ≤ wr.heap.size := by have := hI3.size; omega
                by_cases hjn : j < n
                · have hjd : decide ((j : Int) < (n : Int)) = true := by simp; omega
                  go_wp2_with (at_builtin; refine wpList_append_own _ rfl _ _ 25 rfl (T + 2) 44 i0 (.agg #[.int .i64 0, .int .i64 0]) 2 16 Tryz.underlying25 hi0 hz0 hz1 hz2 rfl (by decide) _ _ _ rfl (own3.alloc _) ⟨wr.heap.size, 0, none⟩ 1 1 [.int .i64 (px + (j : Int)), .int .i64 py] rfl rfl (cell_two_new _ _ _ _) (by simp [Value.oneCell']) (by unfold maxLen; omega) (by omega) (by simp; omega) ?_; intro v4 w4 own4 hg4 _)
                  go_roundw
                  case rel =>
                    have hb4' : Below (T + 2) wr w4 := ((Below.refl _ _).alloc hs3 _).grown hg4 (by simp; omega) (fun k hk => (own3.lt k hk).1)
                    refine ⟨j + 1, v4, by omega, rfl, by go_num, ⟨?_, ?_, hI3.pad.trans (Pad.of_below hb4'), by simp [runCells_length]; omega⟩⟩
                    · rw [runCells_succ, ← List.append_assoc, flatC_append, List.length_append, hl3]
                      exact own4
                    · exact (hb4'.block (T + 1) (by omega)).trans hI3.at_
                  case measure => simp [intOf]; omega
                · have hjd : decide ((j : Int) < (n : Int)) = false := by simp; omega
                  obtain rfl : j = n := by omega
                  go_wp2
                  go_roundg (l.length - (i + 1))
                  case measure => omega
                  case rel => exact ⟨i + 1, fb, M + j, _, L ++ runCells px py j, px + j, py, by omega, rfl, rfl, rfl, rfl, by go_num, (hI3.put (by omega) _).re, HS.out _ fun _ => rfl⟩
            · have hMd : decide (M + (n : Int) ≤ 100) = false := by simpa using hM
              have g0 := cell_of hI2.at_ 0
              have y0 := frz_of hI2.at_ 0
              have hnd : decide ((0 : Int) < (n : Int)) = true := by simp; omega
              go_loopw [10, 14] (fun vl vk wy => vl = u10 ∧ vk = .int .i64 0 ∧ wy = W2) (fun _ _ _ => 0)
              case atStart => exact ⟨rfl, rfl, rfl⟩
              case round =>
                obtain ⟨rfl, rfl, rfl⟩ := hrel
                go_wp2
                go_roundg (l.length - (i + 1))
                case measure => omega
                case rel => exact ⟨i + 1, fb, M + n, _, L, px + n, py, by omega, rfl, rfl, rfl, rfl, by go_num, (hI2.put (by omega) _).re, HS.out _ fun h => by omega⟩
        · rw [o3] at hkc hrn
          have e36 : ((kd[i].toNat : Int) == 36) = true := by rw [hkc]; decide
          have HS : Hid (RSpec x y l (i + 1) false M L x (py + n)) := hS.out.down hrn
          clear hkc hrn o3 hS
          go_wp2
          go_roundg (l.length - (i + 1))
          case measure => omega
          case rel => exact ⟨i + 1, false, M, _, L, x, py + n, by omega, rfl, rfl, rfl, rfl, by go_num, ((hI.put (by omega) _).putY (by omega) _).re, HS.out⟩
    · have hdc : decide ((i : Int) < (l.length : Int)) = false := by simp; omega
      obtain rfl : i = l.length := by omega
      obtain ⟨_, _, h3, h4, h5⟩ := hS.out
      rw [List.take_length] at h3 h4 h5
      cases F with
      | true =>
        have HQ : Hid (patR s = .inl (4, 0)) := by
          show _ = _
          rw [HP.out, if_pos h3]
        clear h3 h4 h5
        go_wp2
        exact bodyPost_ret (v := .tuple #[.slice none 0 0, .int .i64 4, .int .i64 0]) (by simp [results, Tryz.results22, go_sem]) rfl (refPat_bad (i := 0) HQ.out hBe)
      | false =>
        by_cases hM : 100 < M
        · have HQ : Hid (patR s = .inl (5, 0)) := by
            show _ = _
            rw [HP.out, if_neg (by rw [h3]; decide), if_pos (by omega)]
          clear h3 h4 h5
          go_wp2
          exact bodyPost_ret (v := .tuple #[.slice none 0 0, .int .i64 5, .int .i64 0]) (by simp [results, Tryz.results22, go_sem]) rfl (refPat_bad (i := 0) HQ.out hBe)
        · have HQ : Hid (patR s = .inr L) := by
            show _ = _
            rw [HP.out, if_neg (by rw [h3]; decide), if_neg (by omega), h5 (by omega)]
          clear h3 h4 h5
          go_wp2
          exact bodyPost_ret (v := .tuple #[u10, .int .i64 0, .int .i64 0]) (by simp [results, Tryz.results22, go_sem]) rfl (refPat_ok HQ.out hBe (ownsRow_mono hI.own (by omega)))

/-- The reference's Read, whole. -/
theorem refRead_any (s : ByteArray) (w : World) (hm : s.size ≤ maxLen) : Calls Tryz.prog 22 #[.string s] w (RefPat s w) := by
  by_cases hs : 1500 < s.size
  · exact refRead_long s w hm hs
  · have hs' : s.size ≤ 1500 := by omega
    rcases rparse_parse s hs' with ⟨i, h1, h2⟩ | ⟨x, y, x', y', l, h1, h2, b1, b2, b3, b4, hff, hne⟩
    · exact refRead_form s w hs' i h1 h2
    · obtain ⟨hl, hok⟩ := parse_ok hs' h2
      cases hf : farB x y with
      | true => exact refRead_first s w hs' x y x' y' l h1 h2 hl hf (hff.symm.trans hf)
      | false =>
        obtain ⟨rfl, rfl⟩ := hne hf
        exact refRead_main s w hs' x y l h1 h2 hl hok hf

end Go.Proofs.YtiohpcnnpmnjhaaGreatDoor
