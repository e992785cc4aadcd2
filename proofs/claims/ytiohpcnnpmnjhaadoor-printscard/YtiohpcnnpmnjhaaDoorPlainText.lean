import Derived.Test.YtiohpcnnpmnjhaaDoorCorner
namespace Go.Proofs.YtiohpcnnpmnjhaaDoor
open Go.RowKit Go.Shelf
set_option linter.unusedVariables false
attribute [local go_sem] Oper.semAt_some

set_option maxRecDepth 100000 in
set_option maxHeartbeats 1600000 in
theorem plainText_in (X0 Y0 : Int) (a : Option Addr) (vc : Nat) (C : List Cel) (w : World) (own : w.ownsRow 0 53 2 (.slice a C.length vc) C.length (flatC C)) (hl : C.length ≤ 100) (hC : ∀ c ∈ C, inWin X0 Y0 c) (hX : -3000000000000000000 ≤ X0) (hX' : X0 ≤ 3000000000000000000) (hY : -3000000000000000000 ≤ Y0) (hY' : Y0 ≤ 3000000000000000000)
    (hcw : inWin X0 Y0 (cornP C) ∨ C = []) (ht : Tab w.heap.size w) :
    CallsIn Fence.wide 5 Tryd.prog 10 #[.slice a C.length vc] w fun e w' => e = .returned (.string ⟨(plainB C).toArray⟩) ∧ Below w.heap.size w w' := by
  have cornB : -4000000000000000000 ≤ (cornP C).1 ∧ (cornP C).1 ≤ 4000000000000000000 ∧ -4000000000000000000 ≤ (cornP C).2 ∧ (cornP C).2 ≤ 4000000000000000000 := by
    rcases hcw with h | rfl
    · obtain ⟨h1, h2, h3, h4⟩ := h; omega
    · simp [cornP]
  have hco := corner_any 0 _ C w own (by omega) (fun c hc => by obtain ⟨k1, k2, k3, k4⟩ := hC c hc; omega)
  obtain ⟨cx, hcx⟩ : ∃ cx, (cornP C).1 = cx := ⟨_, rfl⟩
  obtain ⟨cy, hcy⟩ : ∃ cy, (cornP C).2 = cy := ⟨_, rfl⟩
  rw [hcx, hcy] at hco cornB
  have lx := Lib.itoa_length_le cx (by omega) (by omega)
  obtain ⟨L2, hL2⟩ : ∃ L2, Lib.itoa cx ++ [32] = L2 := ⟨_, rfl⟩
  have hL2l : 0 < L2.length ∧ L2.length ≤ 22 := by rw [← hL2]; simp; omega
  refine callsIn_of_wp_marks Tryd.func10 rfl trivial ?_ rfl
  simp only [Tryd.ntmps10, List.size_toArray, List.length_cons, List.length_nil, Nat.reduceAdd, Nat.reduceSub, Array.replicate_succ, Array.replicate_zero, List.push_toArray, List.append_toArray, List.nil_append, List.cons_append]
  gi_wp2_with (first
    | (refine ⟨trivial, ?_⟩; gi_at_call 18; refine (callsIn_wide.2 hco).mono ?_; rintro e w1 ⟨rfl, b1⟩; have s1 := b1.size; obtain ⟨c3, hc3⟩ : ∃ c3, w1.heap.size = c3 := ⟨_, rfl⟩; rw [hc3] at s1; clear hco))
  have B1 := b1.alloc (by omega : w.heap.size ≤ w1.heap.size) (.cells #[.int .i64 cx, .int .i64 cy] 53)
  refine ⟨trivial, ?_⟩
  refine (callsIn_wide.2 (appendNumber_any w.heap.size (.slice none 0 0) [] cx _ (World.ownsRow_nil _ _ _ _) B1.size (ht.on B1) (by omega) (by omega) (by simp))).mono ?_
  rintro e w2 ⟨⟨v2, rfl, bf2⟩, k2⟩
  rw [List.nil_append, hL2] at bf2
  have h3 := k2.block (k := c3) (by rw [← hc3]; exact blk_new w1 _) (by decide)
  have B2 := B1.trans k2.be
  obtain ⟨g2, cap2, rfl⟩ := buf_form bf2 hL2l.1
  have q31 := cell_of h3 1
  have q30 := cell_of h3 0
  have l3 := blk_lt h3
  obtain ⟨c4, hc4⟩ : ∃ c4, w2.heap.size = c4 := ⟨_, rfl⟩
  rw [hc4] at l3
  have p4 := B2.size
  clear B1 b1
  gi_wp2
  have own2 := (show World.ownsRow _ _ _ _ _ _ _ from bf2).alloc (.cells #[.slice (some ⟨g2, 0, none⟩) L2.length cap2] 55)
  have B3 := B2.alloc (by omega) (.cells #[.slice (some ⟨g2, 0, none⟩) L2.length cap2] 55)
  refine ⟨trivial, ?_⟩
  refine (callsIn_wide.2 (appendNumber_any w.heap.size _ L2 cy _ own2 B3.size (ht.on B3) (by omega) (by omega) (by omega))).mono ?_
  rintro e w3 ⟨⟨v3, rfl, bf3⟩, k3⟩
  have ly := Lib.itoa_length_le cy (by omega) (by omega)
  obtain ⟨L3, hL3⟩ : ∃ L3, L2 ++ Lib.itoa cy ++ [32] = L3 := ⟨_, rfl⟩
  have hL3l : 0 < L3.length ∧ L3.length ≤ 44 := by rw [← hL3]; simp; omega
  have hhd : headB cx cy = L3 := by rw [← hL3, ← hL2]; simp [headB]
  rw [hL3] at bf3
  have h3' := k3.block (blk_old h3 _) (by decide)
  have h4 := k3.block (k := c4) (by rw [← hc4]; exact blk_new w2 _) (by decide)
  obtain ⟨g3, cap3, rfl⟩ := buf_form bf3 hL3l.1
  have B4 := B3.trans k3.be
  have r31 := cell_of h3' 1
  have r30 := cell_of h3' 0
  have r4 := cell_of h4 0
  have z4 := frz_of h4 0
  have l4 := blk_lt h4
  obtain ⟨c5, hc5⟩ : ∃ c5, w3.heap.size = c5 := ⟨_, rfl⟩
  rw [hc5] at l4
  have p5 := B4.size
  have n34 : ¬ c3 = c4 := by omega
  have n43 : ¬ c4 = c3 := by omega
  clear B3 own2 q31 q30 bf2 h3 k2 B2 k3
  gi_wp2_with (refine ⟨trivial, ?_⟩; gi_at_call 20; refine (callsIn_wide.2 (spans_any a C.length vc _)).mono ?_; rintro e w5 ⟨rfl, rfl⟩)
  refine wpIn_rangeFunc_ownH (encs := encSeg) (N := C.length) (S := fun xs : List (Seg X0 Y0) => xs.map (·.1) = segs C) (Sp := fun _ => True) (Kp := KpB w.heap.size (c5 + 1)) rfl (by omega) (gf := 35) (lb := #[.pointer (some ⟨c5 + 1, 0, none⟩)]) rfl trivial (enters_of Tryd.func35 (by kernel_rfl) rfl) ?seq KpB.trans ?kb (Below.refl _ _) (fun _ => rfl)
    (PInv w c3 c4 c5 cx cy (.slice a C.length vc))
    (fun _ _ _ => False) ?hI (fun _ _ _ _ _ h _ _ => h) ?h0
    (fun x a' W => ∃ Bx, W.heap[Bx]? = some (.cells #[.int .i64 x.1.1, .int .i64 x.1.2.1, .int .i64 x.1.2.2] 61 (0, 0)) ∧ a' = { tmps := #[.slice a C.length vc, undef, .string ⟨#[]⟩, .pointer (some ⟨c3, 0, none⟩), .pointer (some ⟨c4, 0, none⟩), .pointer (some ⟨c5, 0, none⟩), .pointer (some ⟨Bx, 0, none⟩), undef, .slice a C.length vc, .agg #[.int .i64 cx, .int .i64 cy], .pointer (some ⟨c3, 0, none⟩), .int .i64 cx, .slice (some ⟨g2, 0, none⟩) L2.length cap2, .slice (some ⟨g2, 0, none⟩) L2.length cap2, .pointer (some ⟨c3, 1, none⟩), .int .i64 cy, .slice (some ⟨g3, 0, none⟩) L3.length cap3, .agg #[.int .i64 cx, .int .i64 cy], .slice a C.length vc, .func (.func 35) #[] #[.pointer (some ⟨c5 + 1, 0, none⟩)], .agg #[.int .i64 x.1.1, .int .i64 x.1.2.1, .int .i64 x.1.2.2], undef, undef, undef, undef, undef, undef, undef, undef, undef, undef, undef, undef, undef, undef, undef, undef, undef, undef, undef, undef, undef, undef, undef, undef, undef, undef, undef, undef, undef, undef, undef, undef, undef, undef, undef], defers := [] }) ?hAx ?assign ?body ?done ?stop
  case seq =>
    refine spans_stops X0 Y0 a vc (c5 + 1) w.heap.size C w _ own hl hC hX hX' rfl ?_ ?_
    · exact ((B4.setCell (p := ⟨c4, 0, none⟩) (by show w.heap.size ≤ c4; omega) _).alloc (by simp [World.setCell]; omega) _).alloc (by simp [World.setCell]; omega) _
    · have := blk_new ((w3.setCell ⟨c4, 0, none⟩ (.slice (some ⟨g3, 0, none⟩) L3.length cap3)).alloc (.cells #[.int .i64 cx, .int .i64 cy] 53)) (.cells #[.slice a C.length vc] 35)
      simpa [World.setCell, hc5] using this
  case kb =>
    intro W l o o' hlt hl2 ho hw
    have hsz : c5 + 2 ≤ l := by simpa [World.setCell, hc5] using hlt
    exact ⟨belowK_b (n₀ := w.heap.size) (w := w) (Nat.le_refl _) W l o o' (by omega) hl2 ho hw, World.putObj_heap_other (by omega)⟩
  case hI =>
    intro pre W W' row hs hg hr
    obtain ⟨e3, ⟨v, e4, bf⟩, e5, e6, hB⟩ := hs
    exact ⟨keepc e3 hg hr, ⟨v, keepc e4 hg hr, keepb bf hg hr⟩, keepc e5 hg hr, keepc e6 hg hr, keepw hB (Nat.le_refl _) (by simp [World.setCell]; omega) hg hr⟩
  case h0 =>
    have B5 := (B4.setCell (p := ⟨c4, 0, none⟩) (by show w.heap.size ≤ c4; omega) (.slice (some ⟨g3, 0, none⟩) L3.length cap3)).alloc (by simp [World.setCell]; omega) (.cells #[.int .i64 cx, .int .i64 cy] 53)
    have e5 := blk_new (w3.setCell ⟨c4, 0, none⟩ (.slice (some ⟨g3, 0, none⟩) L3.length cap3)) (.cells #[.int .i64 cx, .int .i64 cy] 53)
    have e6 := blk_new ((w3.setCell ⟨c4, 0, none⟩ (.slice (some ⟨g3, 0, none⟩) L3.length cap3)).alloc (.cells #[.int .i64 cx, .int .i64 cy] 53)) (.cells #[.slice a C.length vc] 35)
    simp only [World.size_alloc, World.size_setCell, hc5] at e5 e6
    refine ⟨blk_old (blk_old (blk_set h3' n34 _) _) _, ⟨_, blk_old (blk_old (blk_put h4 _) _) _, ?_⟩, blk_old e5 _, e6, B5.alloc B5.size _⟩
    have := ((show World.ownsRow _ _ _ _ _ _ _ from buf_set (j := 0) bf3 h4 (by decide) (.slice (some ⟨g3, 0, none⟩) L3.length cap3)).alloc (.cells #[.int .i64 cx, .int .i64 cy] 53)).alloc (.cells #[.slice a C.length vc] 35)
    rw [hhd]
    simpa [Buf, segRun] using this
  case hAx =>
    rintro x a' _ W W' row ⟨Bx, hx, ha⟩ hg hr
    exact ⟨Bx, keepc hx hg hr, ha⟩
  case assign =>
    rintro l pre x W K ⟨e3, ⟨v, e4, bf⟩, e5, e6, hB⟩ hK
    simp only [encSeg]
    gi_wp2
    exact hK _ _ ((KeepsOthers.alloc _ _).from _) ⟨(Below.refl _ W).alloc hB.size _, Below.heap_alloc W _ _ (blk_lt e6)⟩ ⟨blk_old e3 _, ⟨v, blk_old e4 _, (show World.ownsRow _ _ _ _ _ _ _ from bf).alloc _⟩, blk_old e5 _, blk_old e6 _, hB.alloc hB.size _⟩ ⟨W.heap.size, blk_new W _, rfl⟩
  case body =>
    rintro l pre ⟨⟨sx, sy, sn⟩, hok⟩ a' W hl0 hlr ⟨e3, ⟨v, e4, bf⟩, e5, e6, hB⟩ ⟨Bx, ex, rfl⟩ hpl
    have x1 := hok.1.1
    have x2 := hok.1.2.1
    have x3 := hok.1.2.2.1
    have x4 := hok.1.2.2.2
    have x5 := hok.2.1
    have x6 := hok.2.2
    have hw : inWin X0 Y0 (cx, cy) := by
      rcases hcw with h | rfl
      · rw [← hcx, ← hcy]; exact h
      · simp at hpl
    have so := segRun_ok hw pre
    obtain ⟨⟨⟨px, py⟩, Lr⟩, hst⟩ : ∃ st, segRun cx cy (pre.map (·.1)) = st := ⟨_, rfl⟩
    rw [hst] at e5 bf so
    rw [hhd] at bf
    obtain ⟨so1, so2, so3, so4, so5⟩ := so
    obtain ⟨hw1, hw2, hw3, hw4⟩ := hw
    simp only at e5 bf so1 so2 so3 so4 so5 hw1 hw2 hw3 hw4 x1 x2 x3 x4 x5 x6 ex
    obtain ⟨M, hM⟩ : ∃ M, L3 ++ Lr = M := ⟨_, rfl⟩
    have hMl : 0 < M.length ∧ M.length ≤ 44 + 100 * 400000000 := by rw [← hM, List.length_append]; omega
    rw [hM] at bf
    obtain ⟨gv, capv, rfl⟩ := buf_form bf hMl.1
    have q30 := cell_of e3 0
    have q50 := cell_of e5 0
    have q51 := cell_of e5 1
    have q4 := cell_of e4 0
    have qx0 := cell_of ex 0
    have qx1 := cell_of ex 1
    have qx2 := cell_of ex 2
    have z4 := frz_of e4 0
    have z50 := frz_of e5 0
    have z51 := frz_of e5 1
    have n3x : ¬ c3 = Bx := fun h => by subst h; exact absurd (ex.symm.trans e3) (by simp)
    have n4x : ¬ c4 = Bx := fun h => by subst h; exact absurd (ex.symm.trans e4) (by simp)
    have n5x : ¬ c5 = Bx := fun h => by subst h; exact absurd (ex.symm.trans e5) (by simp)
    have nx4 : ¬ Bx = c4 := fun h => n4x h.symm
    have nx5 : ¬ Bx = c5 := fun h => n5x h.symm
    have n45 : ¬ c4 = c5 := by omega
    have n54 : ¬ c5 = c4 := by omega
    have n35 : ¬ c3 = c5 := by omega
    have n64 : ¬ c5 + 1 = c4 := by omega
    have n65 : ¬ c5 + 1 = c5 := by omega
    by_cases hd : 0 < sy - py
    · gi_wp2
      refine ⟨trivial, ?_⟩
      refine (CallsIn.inRound l (callsIn_wide.2 (appendRun_int w.heap.size _ M (sy - py) 36 36 W rfl bf hB.size (ht.on hB) (by omega)))).mono ?_
      rintro e W1 ⟨⟨v1, rfl, bf1⟩, k1⟩
      obtain ⟨M1, hM1⟩ : ∃ M1, M ++ runB (sy - py).toNat 36 = M1 := ⟨_, rfl⟩
      have hM1l := congrArg List.length hM1
      rw [List.length_append] at hM1l
      rw [hM1] at bf1
      obtain ⟨g1, cap1, rfl⟩ := buf_form bf1 (by omega)
      have f3 := k1.block e3 (by decide)
      have f4 := k1.block e4 (by decide)
      have f5 := k1.block e5 (by decide)
      have f6 := k1.block e6 (by decide)
      have fx := k1.block ex (by decide)
      have q30 := cell_of f3 0
      have q50 := cell_of f5 0
      have q51 := cell_of f5 1
      have q4 := cell_of f4 0
      have qx0 := cell_of fx 0
      have qx1 := cell_of fx 1
      have qx2 := cell_of fx 2
      have z4 := frz_of f4 0
      have z50 := frz_of f5 0
      have z51 := frz_of f5 1
      gi_wp2
      have hr1 := runB_len (sy - py).toNat 36
      obtain ⟨V, hV⟩ : ∃ V, ((W1.setCell ⟨c4, 0, none⟩ (.slice (some ⟨g1, 0, none⟩) M1.length cap1)).setCell ⟨c5, 0, none⟩ (.int .i64 cx)).setCell ⟨c5, 1, none⟩ (.int .i64 sy) = V := ⟨_, rfl⟩
      have g3' : V.heap[c3]? = some (.cells #[.int .i64 cx, .int .i64 cy] 53 (0, 0)) := by rw [← hV]; exact blk_set (blk_set (blk_set f3 n34 _) n35 _) n35 _
      have g4 : V.heap[c4]? = some (.cells #[.slice (some ⟨g1, 0, none⟩) M1.length cap1] 55 (0, 0)) := by rw [← hV]; exact blk_set (blk_set (blk_put f4 _) n45 _) n45 _
      have g5 : V.heap[c5]? = some (.cells #[.int .i64 cx, .int .i64 sy] 53 (0, 0)) := by rw [← hV]; exact blk_put (blk_put (blk_set f5 n54 _) _) _
      have g6 : V.heap[c5 + 1]? = some (.cells #[.slice a C.length vc] 35 (0, 0)) := by rw [← hV]; exact blk_set (blk_set (blk_set f6 n64 _) n65 _) n65 _
      have gx : V.heap[Bx]? = some (.cells #[.int .i64 sx, .int .i64 sy, .int .i64 sn] 61 (0, 0)) := by rw [← hV]; exact blk_set (blk_set (blk_set fx nx4 _) nx5 _) nx5 _
      have bfV : Buf V w.heap.size (.slice (some ⟨g1, 0, none⟩) M1.length cap1) M1 := by
        rw [← hV]
        exact buf_set (buf_set (buf_set bf1 f4 (by decide) _) (blk_set (a := ⟨c4, 0, none⟩) f5 n54 _) (by decide) _) (blk_put (blk_set (a := ⟨c4, 0, none⟩) f5 n54 _) _) (by decide) _
      have bV : Below w.heap.size W V := by
        rw [← hV]
        exact ((k1.be.setCell (p := ⟨c4, 0, none⟩) (by show w.heap.size ≤ c4; omega) _).setCell (p := ⟨c5, 0, none⟩) (by show w.heap.size ≤ c5; omega) _).setCell (p := ⟨c5, 1, none⟩) (by show w.heap.size ≤ c5; omega) _
      have kV := (k1.keeps (((w3.setCell ⟨c4, 0, none⟩ (.slice (some ⟨g3, 0, none⟩) L3.length cap3)).alloc (.cells #[.int .i64 cx, .int .i64 cy] 53)).alloc (.cells #[.slice a C.length vc] 35)).heap.size).trans ((((KeepsOthers.setCell W1 ⟨c4, 0, none⟩ (.slice (some ⟨g1, 0, none⟩) M1.length cap1)).trans (KeepsOthers.setCell _ ⟨c5, 0, none⟩ (.int .i64 cx))).trans (KeepsOthers.setCell _ ⟨c5, 1, none⟩ (.int .i64 sy))).from _)
      rw [hV] at kV ⊢
      have hBV := hB.trans bV
      clear f3 f4 f5 f6 fx bf1 bf
      have hlt : py < sy := by omega
      refine ⟨trivial, ?_⟩
      refine (CallsIn.inRound l (callsIn_wide.2 (appendRun_int w.heap.size _ M1 (sx - cx) 98 98 V rfl bfV hBV.size (ht.on hBV) (by omega)))).mono ?_
      rintro e W2 ⟨⟨v2, rfl, bf2⟩, k2⟩
      obtain ⟨M2, hM2⟩ : ∃ M2, M1 ++ runB (sx - cx).toNat 98 = M2 := ⟨_, rfl⟩
      have hM2l := congrArg List.length hM2
      have hr2 := runB_len (sx - cx).toNat 98
      rw [List.length_append] at hM2l
      rw [hM2] at bf2
      obtain ⟨g2', cap2', rfl⟩ := buf_form bf2 (by omega)
      have i3 := k2.block g3' (by decide)
      have i4 := k2.block g4 (by decide)
      have i5 := k2.block g5 (by decide)
      have i6 := k2.block g6 (by decide)
      have ix := k2.block gx (by decide)
      have b2 := bV.trans k2.be
      have q30 := cell_of i3 0
      have q50 := cell_of i5 0
      have q51 := cell_of i5 1
      have q4 := cell_of i4 0
      have qx0 := cell_of ix 0
      have qx1 := cell_of ix 1
      have qx2 := cell_of ix 2
      have z4 := frz_of i4 0
      have z50 := frz_of i5 0
      have z51 := frz_of i5 1
      clear bfV
      gi_wp2
      have j3 := blk_set (a := ⟨c4, 0, none⟩) i3 n34 (.slice (some ⟨g2', 0, none⟩) M2.length cap2')
      have j4 := blk_put (j := 0) i4 (.slice (some ⟨g2', 0, none⟩) M2.length cap2')
      have j5 := blk_set (a := ⟨c4, 0, none⟩) i5 n54 (.slice (some ⟨g2', 0, none⟩) M2.length cap2')
      have j6 := blk_set (a := ⟨c4, 0, none⟩) i6 n64 (.slice (some ⟨g2', 0, none⟩) M2.length cap2')
      have jx := blk_set (a := ⟨c4, 0, none⟩) ix nx4 (.slice (some ⟨g2', 0, none⟩) M2.length cap2')
      have bfj := buf_set (j := 0) bf2 i4 (by decide) (.slice (some ⟨g2', 0, none⟩) M2.length cap2')
      have b3 := b2.setCell (p := ⟨c4, 0, none⟩) (by show w.heap.size ≤ c4; omega) (.slice (some ⟨g2', 0, none⟩) M2.length cap2')
      have k3 := ((kV.trans (k2.keeps _)).trans ((KeepsOthers.setCell _ ⟨c4, 0, none⟩ (.slice (some ⟨g2', 0, none⟩) M2.length cap2')).from _))
      have hB3 := hB.trans b3
      refine ⟨trivial, ?_⟩
      refine (CallsIn.inRound l (callsIn_wide.2 (appendRun_int w.heap.size _ M2 sn 111 111 _ rfl bfj hB3.size (ht.on hB3) (by omega)))).mono ?_
      rintro e W4 ⟨⟨v4, rfl, bf4⟩, k4⟩
      obtain ⟨M4, hM4⟩ : ∃ M4, M2 ++ runB sn.toNat 111 = M4 := ⟨_, rfl⟩
      have hM4l := congrArg List.length hM4
      rw [List.length_append] at hM4l
      rw [hM4] at bf4
      obtain ⟨g4', cap4', rfl⟩ := buf_form bf4 (by omega)
      have o3 := k4.block j3 (by decide)
      have o4 : W4.heap[c4]? = some (.cells #[.slice (some ⟨g2', 0, none⟩) M2.length cap2'] 55 (0, 0)) := k4.block j4 (by decide)
      have o5 := k4.block j5 (by decide)
      have o6 := k4.block j6 (by decide)
      have ox := k4.block jx (by decide)
      have b4 := b3.trans k4.be
      have k5 := k3.trans (k4.keeps _)
      have q30 := cell_of o3 0
      have q50 := cell_of o5 0
      have q51 := cell_of o5 1
      have q4 := cell_of o4 0
      have qx0 := cell_of ox 0
      have qx1 := cell_of ox 1
      have qx2 := cell_of ox 2
      have z4 := frz_of o4 0
      have z50 := frz_of o5 0
      have z51 := frz_of o5 1
      clear bf2 bfj
      gi_wp2
      refine ⟨trivial, ?_⟩
      refine (CallsIn.inRound l (callsIn_wide.2 (behind_any sx sy sn _ (by omega) (by omega) (by omega) (by omega)))).mono ?_
      rintro e W5 ⟨rfl, rfl⟩
      have p3 := blk_old (blk_old (blk_set (a := ⟨c4, 0, none⟩) o3 n34 (.slice (some ⟨g4', 0, none⟩) M4.length cap4')) (.cells #[.int .i64 sx, .int .i64 sy, .int .i64 sn] 61)) (.cells #[.int .i64 (sx + sn), .int .i64 sy] 53)
      have p4' := blk_old (blk_old (blk_put (j := 0) o4 (.slice (some ⟨g4', 0, none⟩) M4.length cap4')) (.cells #[.int .i64 sx, .int .i64 sy, .int .i64 sn] 61)) (.cells #[.int .i64 (sx + sn), .int .i64 sy] 53)
      have p5' := blk_old (blk_old (blk_set (a := ⟨c4, 0, none⟩) o5 n54 (.slice (some ⟨g4', 0, none⟩) M4.length cap4')) (.cells #[.int .i64 sx, .int .i64 sy, .int .i64 sn] 61)) (.cells #[.int .i64 (sx + sn), .int .i64 sy] 53)
      have p6 := blk_old (blk_old (blk_set (a := ⟨c4, 0, none⟩) o6 n64 (.slice (some ⟨g4', 0, none⟩) M4.length cap4')) (.cells #[.int .i64 sx, .int .i64 sy, .int .i64 sn] 61)) (.cells #[.int .i64 (sx + sn), .int .i64 sy] 53)
      have b5 := ((b4.setCell (p := ⟨c4, 0, none⟩) (by show w.heap.size ≤ c4; omega) (.slice (some ⟨g4', 0, none⟩) M4.length cap4')).alloc (by have := (hB.trans b4).size; simp; omega) (.cells #[.int .i64 sx, .int .i64 sy, .int .i64 sn] 61)).alloc (by have := (hB.trans b4).size; simp; omega) (.cells #[.int .i64 (sx + sn), .int .i64 sy] 53)
      have k6 := k5.trans ((((KeepsOthers.setCell _ ⟨c4, 0, none⟩ (.slice (some ⟨g4', 0, none⟩) M4.length cap4')).trans (KeepsOthers.alloc _ (.cells #[.int .i64 sx, .int .i64 sy, .int .i64 sn] 61))).trans (KeepsOthers.alloc _ (.cells #[.int .i64 (sx + sn), .int .i64 sy] 53))).from _)
      have bf6 := ((show World.ownsRow _ _ _ _ _ _ _ from buf_set (j := 0) bf4 o4 (by decide) (.slice (some ⟨g4', 0, none⟩) M4.length cap4')).alloc (.cells #[.int .i64 sx, .int .i64 sy, .int .i64 sn] 61)).alloc (.cells #[.int .i64 (sx + sn), .int .i64 sy] 53)
      obtain ⟨W6, hW6⟩ : ∃ W6, ((W4.setCell ⟨c4, 0, none⟩ (.slice (some ⟨g4', 0, none⟩) M4.length cap4')).alloc (.cells #[.int .i64 sx, .int .i64 sy, .int .i64 sn] 61)).alloc (.cells #[.int .i64 (sx + sn), .int .i64 sy] 53) = W6 := ⟨_, rfl⟩
      simp only [hW6] at p3 p4' p5' p6 b5 k6 bf6 ⊢
      have q50 := cell_of p5' 0
      have q51 := cell_of p5' 1
      have z50 := frz_of p5' 0
      have z51 := frz_of p5' 1
      gi_wp2
      have hst' : ∀ h, segRun cx cy ((pre ++ [(⟨(sx, sy, sn), h⟩ : Seg X0 Y0)]).map (·.1)) = ((sx + sn, sy), Lr ++ runB (sy - py).toNat 36 ++ runB (sx - cx).toNat 98 ++ runB sn.toNat 111) := fun h => by
        rw [List.map_append]
        simp only [List.map_cons, List.map_nil]
        rw [segRun_snoc, hst]
        simp only [segGo]
        rw [if_pos (by omega)]
        simp
      have b7 := (b5.setCell (p := ⟨c5, 0, none⟩) (by show w.heap.size ≤ c5; omega) (.int .i64 (sx + sn))).setCell (p := ⟨c5, 1, none⟩) (by show w.heap.size ≤ c5; omega) (.int .i64 sy)
      have p6' := blk_set (a := ⟨c5, 1, none⟩) (blk_set (a := ⟨c5, 0, none⟩) p6 n65 (.int .i64 (sx + sn))) n65 (.int .i64 sy)
      refine ⟨k6.trans (((KeepsOthers.setCell _ ⟨c5, 0, none⟩ (.int .i64 (sx + sn))).trans (KeepsOthers.setCell _ ⟨c5, 1, none⟩ (.int .i64 sy))).from _), ⟨b7, p6'.trans e6.symm⟩, ?_⟩
      unfold PInv
      rw [hst']
      refine ⟨blk_set (a := ⟨c5, 1, none⟩) (blk_set (a := ⟨c5, 0, none⟩) p3 n35 _) n35 _, ⟨_, blk_set (a := ⟨c5, 1, none⟩) (blk_set (a := ⟨c5, 0, none⟩) p4' n45 _) n45 _, ?_⟩, blk_put (j := 1) (blk_put (j := 0) p5' _) _, p6', hB.trans b7⟩
      have bf7 := buf_set (j := 1) (buf_set (j := 0) (show Buf _ _ _ _ from bf6) p5' (by decide) (.int .i64 (sx + sn))) (blk_put (j := 0) p5' (.int .i64 (sx + sn))) (by decide) (.int .i64 sy)
      rw [hhd]
      have hMM : M4 = L3 ++ (Lr ++ runB (sy - py).toNat 36 ++ runB (sx - cx).toNat 98 ++ runB sn.toNat 111) := by rw [← hM4, ← hM2, ← hM1, ← hM]; simp
      rw [hMM] at bf7
      simpa [hMM] using bf7
    · gi_wp2
      have bV : Below w.heap.size W W := Below.refl _ _
      have kV := KeepsFrom.refl (((w3.setCell ⟨c4, 0, none⟩ (.slice (some ⟨g3, 0, none⟩) L3.length cap3)).alloc (.cells #[.int .i64 cx, .int .i64 cy] 53)).alloc (.cells #[.slice a C.length vc] 35)).heap.size W
      have hlt : ¬ py < sy := by omega
      refine ⟨trivial, ?_⟩
      refine (CallsIn.inRound l (callsIn_wide.2 (appendRun_int w.heap.size _ M (sx - px) 98 98 W rfl bf hB.size (ht.on hB) (by omega)))).mono ?_
      rintro e W2 ⟨⟨v2, rfl, bf2⟩, k2⟩
      obtain ⟨M2, hM2⟩ : ∃ M2, M ++ runB (sx - px).toNat 98 = M2 := ⟨_, rfl⟩
      have hM2l := congrArg List.length hM2
      have hr2 := runB_len (sx - px).toNat 98
      rw [List.length_append] at hM2l
      rw [hM2] at bf2
      obtain ⟨g2', cap2', rfl⟩ := buf_form bf2 (by omega)
      have i3 := k2.block e3 (by decide)
      have i4 := k2.block e4 (by decide)
      have i5 := k2.block e5 (by decide)
      have i6 := k2.block e6 (by decide)
      have ix := k2.block ex (by decide)
      have b2 := bV.trans k2.be
      have q30 := cell_of i3 0
      have q50 := cell_of i5 0
      have q51 := cell_of i5 1
      have q4 := cell_of i4 0
      have qx0 := cell_of ix 0
      have qx1 := cell_of ix 1
      have qx2 := cell_of ix 2
      have z4 := frz_of i4 0
      have z50 := frz_of i5 0
      have z51 := frz_of i5 1
      clear bf
      gi_wp2
      have j3 := blk_set (a := ⟨c4, 0, none⟩) i3 n34 (.slice (some ⟨g2', 0, none⟩) M2.length cap2')
      have j4 := blk_put (j := 0) i4 (.slice (some ⟨g2', 0, none⟩) M2.length cap2')
      have j5 := blk_set (a := ⟨c4, 0, none⟩) i5 n54 (.slice (some ⟨g2', 0, none⟩) M2.length cap2')
      have j6 := blk_set (a := ⟨c4, 0, none⟩) i6 n64 (.slice (some ⟨g2', 0, none⟩) M2.length cap2')
      have jx := blk_set (a := ⟨c4, 0, none⟩) ix nx4 (.slice (some ⟨g2', 0, none⟩) M2.length cap2')
      have bfj := buf_set (j := 0) bf2 i4 (by decide) (.slice (some ⟨g2', 0, none⟩) M2.length cap2')
      have b3 := b2.setCell (p := ⟨c4, 0, none⟩) (by show w.heap.size ≤ c4; omega) (.slice (some ⟨g2', 0, none⟩) M2.length cap2')
      have k3 := ((kV.trans (k2.keeps _)).trans ((KeepsOthers.setCell _ ⟨c4, 0, none⟩ (.slice (some ⟨g2', 0, none⟩) M2.length cap2')).from _))
      have hB3 := hB.trans b3
      refine ⟨trivial, ?_⟩
      refine (CallsIn.inRound l (callsIn_wide.2 (appendRun_int w.heap.size _ M2 sn 111 111 _ rfl bfj hB3.size (ht.on hB3) (by omega)))).mono ?_
      rintro e W4 ⟨⟨v4, rfl, bf4⟩, k4⟩
      obtain ⟨M4, hM4⟩ : ∃ M4, M2 ++ runB sn.toNat 111 = M4 := ⟨_, rfl⟩
      have hM4l := congrArg List.length hM4
      rw [List.length_append] at hM4l
      rw [hM4] at bf4
      obtain ⟨g4', cap4', rfl⟩ := buf_form bf4 (by omega)
      have o3 := k4.block j3 (by decide)
      have o4 : W4.heap[c4]? = some (.cells #[.slice (some ⟨g2', 0, none⟩) M2.length cap2'] 55 (0, 0)) := k4.block j4 (by decide)
      have o5 := k4.block j5 (by decide)
      have o6 := k4.block j6 (by decide)
      have ox := k4.block jx (by decide)
      have b4 := b3.trans k4.be
      have k5 := k3.trans (k4.keeps _)
      have q30 := cell_of o3 0
      have q50 := cell_of o5 0
      have q51 := cell_of o5 1
      have q4 := cell_of o4 0
      have qx0 := cell_of ox 0
      have qx1 := cell_of ox 1
      have qx2 := cell_of ox 2
      have z4 := frz_of o4 0
      have z50 := frz_of o5 0
      have z51 := frz_of o5 1
      clear bf2 bfj
      gi_wp2
      refine ⟨trivial, ?_⟩
      refine (CallsIn.inRound l (callsIn_wide.2 (behind_any sx sy sn _ (by omega) (by omega) (by omega) (by omega)))).mono ?_
      rintro e W5 ⟨rfl, rfl⟩
      have p3 := blk_old (blk_old (blk_set (a := ⟨c4, 0, none⟩) o3 n34 (.slice (some ⟨g4', 0, none⟩) M4.length cap4')) (.cells #[.int .i64 sx, .int .i64 sy, .int .i64 sn] 61)) (.cells #[.int .i64 (sx + sn), .int .i64 sy] 53)
      have p4' := blk_old (blk_old (blk_put (j := 0) o4 (.slice (some ⟨g4', 0, none⟩) M4.length cap4')) (.cells #[.int .i64 sx, .int .i64 sy, .int .i64 sn] 61)) (.cells #[.int .i64 (sx + sn), .int .i64 sy] 53)
      have p5' := blk_old (blk_old (blk_set (a := ⟨c4, 0, none⟩) o5 n54 (.slice (some ⟨g4', 0, none⟩) M4.length cap4')) (.cells #[.int .i64 sx, .int .i64 sy, .int .i64 sn] 61)) (.cells #[.int .i64 (sx + sn), .int .i64 sy] 53)
      have p6 := blk_old (blk_old (blk_set (a := ⟨c4, 0, none⟩) o6 n64 (.slice (some ⟨g4', 0, none⟩) M4.length cap4')) (.cells #[.int .i64 sx, .int .i64 sy, .int .i64 sn] 61)) (.cells #[.int .i64 (sx + sn), .int .i64 sy] 53)
      have b5 := ((b4.setCell (p := ⟨c4, 0, none⟩) (by show w.heap.size ≤ c4; omega) (.slice (some ⟨g4', 0, none⟩) M4.length cap4')).alloc (by have := (hB.trans b4).size; simp; omega) (.cells #[.int .i64 sx, .int .i64 sy, .int .i64 sn] 61)).alloc (by have := (hB.trans b4).size; simp; omega) (.cells #[.int .i64 (sx + sn), .int .i64 sy] 53)
      have k6 := k5.trans ((((KeepsOthers.setCell _ ⟨c4, 0, none⟩ (.slice (some ⟨g4', 0, none⟩) M4.length cap4')).trans (KeepsOthers.alloc _ (.cells #[.int .i64 sx, .int .i64 sy, .int .i64 sn] 61))).trans (KeepsOthers.alloc _ (.cells #[.int .i64 (sx + sn), .int .i64 sy] 53))).from _)
      have bf6 := ((show World.ownsRow _ _ _ _ _ _ _ from buf_set (j := 0) bf4 o4 (by decide) (.slice (some ⟨g4', 0, none⟩) M4.length cap4')).alloc (.cells #[.int .i64 sx, .int .i64 sy, .int .i64 sn] 61)).alloc (.cells #[.int .i64 (sx + sn), .int .i64 sy] 53)
      obtain ⟨W6, hW6⟩ : ∃ W6, ((W4.setCell ⟨c4, 0, none⟩ (.slice (some ⟨g4', 0, none⟩) M4.length cap4')).alloc (.cells #[.int .i64 sx, .int .i64 sy, .int .i64 sn] 61)).alloc (.cells #[.int .i64 (sx + sn), .int .i64 sy] 53) = W6 := ⟨_, rfl⟩
      simp only [hW6] at p3 p4' p5' p6 b5 k6 bf6 ⊢
      have q50 := cell_of p5' 0
      have q51 := cell_of p5' 1
      have z50 := frz_of p5' 0
      have z51 := frz_of p5' 1
      gi_wp2
      have hst' : ∀ h, segRun cx cy ((pre ++ [(⟨(sx, sy, sn), h⟩ : Seg X0 Y0)]).map (·.1)) = ((sx + sn, sy), Lr ++ runB (sx - px).toNat 98 ++ runB sn.toNat 111) := fun h => by
        rw [List.map_append]
        simp only [List.map_cons, List.map_nil]
        rw [segRun_snoc, hst]
        simp only [segGo]
        rw [if_neg (by omega)]
      have b7 := (b5.setCell (p := ⟨c5, 0, none⟩) (by show w.heap.size ≤ c5; omega) (.int .i64 (sx + sn))).setCell (p := ⟨c5, 1, none⟩) (by show w.heap.size ≤ c5; omega) (.int .i64 sy)
      have p6' := blk_set (a := ⟨c5, 1, none⟩) (blk_set (a := ⟨c5, 0, none⟩) p6 n65 (.int .i64 (sx + sn))) n65 (.int .i64 sy)
      refine ⟨k6.trans (((KeepsOthers.setCell _ ⟨c5, 0, none⟩ (.int .i64 (sx + sn))).trans (KeepsOthers.setCell _ ⟨c5, 1, none⟩ (.int .i64 sy))).from _), ⟨b7, p6'.trans e6.symm⟩, ?_⟩
      unfold PInv
      rw [hst']
      refine ⟨blk_set (a := ⟨c5, 1, none⟩) (blk_set (a := ⟨c5, 0, none⟩) p3 n35 _) n35 _, ⟨_, blk_set (a := ⟨c5, 1, none⟩) (blk_set (a := ⟨c5, 0, none⟩) p4' n45 _) n45 _, ?_⟩, blk_put (j := 1) (blk_put (j := 0) p5' _) _, p6', hB.trans b7⟩
      have bf7 := buf_set (j := 1) (buf_set (j := 0) (show Buf _ _ _ _ from bf6) p5' (by decide) (.int .i64 (sx + sn))) (blk_put (j := 0) p5' (.int .i64 (sx + sn))) (by decide) (.int .i64 sy)
      rw [hhd]
      have hMM : M4 = L3 ++ (Lr ++ runB (sx - px).toNat 98 ++ runB sn.toNat 111) := by rw [← hM4, ← hM2, ← hM]; simp
      rw [hMM] at bf7
      simpa [hMM] using bf7
  case done =>
    rintro D xs W hD hS ⟨e3, ⟨v, e4, bf⟩, e5, e6, hB⟩ hK
    obtain ⟨⟨⟨px, py⟩, Lr⟩, hst⟩ : ∃ st, segRun cx cy (xs.map (·.1)) = st := ⟨_, rfl⟩
    rw [hst, hhd] at bf
    simp only at bf
    have hplain : plainB C = L3 ++ Lr ++ [33] := by rw [plainB, hcx, hcy, hhd, ← hS, hst]
    have hMl : (L3 ++ Lr).length ≤ 44 + 100 * 400000000 := by
      rw [List.length_append]
      rcases hcw with h | rfl
      · have so := segRun_ok (cx := cx) (cy := cy) (by rw [← hcx, ← hcy]; exact h) xs
        have h5 := so.2.2.2.2
        have hx := congrArg List.length hS
        have hs := segs_len C
        rw [List.length_map] at hx
        rw [hst] at h5
        simp only at h5
        omega
      · obtain rfl : xs = [] := by simpa [segs] using hS
        simp [segRun] at hst
        obtain ⟨_, rfl⟩ := hst
        simp; omega
    obtain ⟨M, hM⟩ : ∃ M, L3 ++ Lr = M := ⟨_, rfl⟩
    rw [hM] at bf hplain hMl
    obtain ⟨gv, capv, rfl⟩ := buf_form bf (by rw [← hM, List.length_append]; omega)
    obtain ⟨i0, hi, hz0, hz1, hz2⟩ := info_parts infoByte
    have q4 := cell_of e4 0
    have z4 := frz_of e4 0
    have own : W.ownsRow w.heap.size 5 1 (.slice (some ⟨gv, 0, none⟩) M.length capv) M.length (Lib.byteCells M) := bf
    have hBs := hB.size
    gi_wp2_with (gi_at_builtin; refine wpListIn_append_own _ rfl _ _ 55 rfl w.heap.size 5 i0 (.int .u8 0) 1 1 Tryd.underlying55 hi hz0 hz1 hz2 rfl (by decide) _ _ _ rfl (own.alloc _) ⟨W.heap.size, 0, none⟩ 1 1 [Value.int .u8 33] rfl rfl (cell_one_new _ _ _) (by simp [Value.oneCell']) (by unfold maxLen; omega) (by omega) (by simp; omega) ?_; intro v2 W2 own2 hg2 _)
    have bfz : Buf W2 w.heap.size v2 (M ++ [33]) := buf_snoc own2 rfl
    obtain ⟨Z, hZ⟩ : ∃ Z, M ++ [33] = Z := ⟨_, rfl⟩
    rw [hZ] at bfz hplain
    obtain ⟨g5, cap5, rfl⟩ := buf_form bfz (by rw [← hZ]; simp)
    rw [buf_text bfz]
    have hKD : W2.heap[D]? = some (.deferred (some [])) := by
      refine (hg2.block D (blk_lt (blk_old hK _)) (fun e => ?_)).trans (blk_old hK _)
      obtain ⟨_, h2⟩ := own
      rcases h2 with ⟨h2, _⟩ | ⟨g, cap, cur, hv, hgb, hh, _⟩
      · cases h2
      · cases hv
        have e' : D = gv := Option.some.inj e
        rw [← e', hK] at hh; cases hh
    have hBe : Below w.heap.size w W2 := hB.trans (grown_row own hg2 (by omega)).be
    gi_wp2
    refine ⟨by simp, .inl ⟨_, _, rfl, run_takeDeferred hKD, ?_⟩⟩
    refine ⟨_, results_tmp rfl _ _ _, by rw [hplain]; rfl, hBe.trans (belowK_b (n₀ := w.heap.size) (w := w) (Nat.le_refl _) W2 D _ _ (by simp [World.setCell] at hD; omega) hKD rfl rfl)⟩
  case stop =>
    intro D c pre W hD hs hx
    exact hx.elim

end Go.Proofs.YtiohpcnnpmnjhaaDoor
