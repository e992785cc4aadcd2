import Derived.Test.YtiohpcnnpmnjhaaGreatDoorRDcM
import Derived.Test.YtiohpcnnpmnjhaaGreatDoorRefCells2
import Derived.Test.YtiohpcnnpmnjhaaGreatDoorLfbM
import Derived.Test.YtiohpcnnpmnjhaaGreatDoorLinM
import Derived.Deep.CutRange
import Derived.Deep.RegionWith
namespace Go.Proofs.YtiohpcnnpmnjhaaGreatDoor
open Go.RowKit
set_option linter.unusedVariables false

/-- Where the pen stands when k cells are through. -/
def PosAt (C : List Cel) (cx cy : Int) (k : Nat) (ax ay : Int) : Prop := (k = 0 ∧ ax = cx ∧ ay = cy) ∨ (1 ≤ k ∧ ∃ x y, C[k - 1]? = some (x, y) ∧ ax = x + 1 ∧ ay = y)

theorem asc_get {C : List Cel} (h : Asc C) {i j : Nat} {a b : Cel} (hi : C[i]? = some a) (hj : C[j]? = some b) (hij : i < j) : before a b := by
  obtain ⟨h1, rfl⟩ := List.getElem?_eq_some_iff.1 hi
  obtain ⟨h2, rfl⟩ := List.getElem?_eq_some_iff.1 hj
  exact List.pairwise_iff_getElem.1 h i j h1 h2 hij

/-- The next cell is not left of the pen, nor above it. -/
theorem pos_next {C : List Cel} (h : Asc C) {k : Nat} {ax ay x y : Int} (hp : PosAt C (cornP C).1 (cornP C).2 k ax ay) (hk : C[k]? = some (x, y)) : ay ≤ y ∧ (ay = y → ax ≤ x) ∧ (cornP C).1 ≤ x := by
  have hmem := List.mem_of_getElem? hk
  have hc : (cornP C).1 ≤ x ∧ (cornP C).2 ≤ y := by
    cases C with
    | nil => simp at hk
    | cons c r =>
      obtain ⟨x0, y0⟩ := c
      refine ⟨?_, asc_first h (x, y) hmem⟩
      exact minX_all _ _ (x, y) hmem
  rcases hp with ⟨rfl, rfl, rfl⟩ | ⟨h1, x', y', hk', rfl, rfl⟩
  · exact ⟨hc.2, fun _ => hc.1, hc.1⟩
  · have := asc_get h hk' hk (by omega)
    rcases this with h2 | ⟨h2, h3⟩
    · simp only at h2; exact ⟨by omega, fun e => by omega, hc.1⟩
    · simp only at h2 h3; exact ⟨by omega, fun _ => by omega, hc.1⟩

theorem ret_str' {a : ByteArray} {l : List UInt8} (h : a = ⟨l.toArray⟩) : Value.string a = .string ⟨l.toArray⟩ := by rw [h]

/-- What the rounds keep. -/
structure WInv (w : World) (T : Nat) (ax ay : Int) (wr : World) : Prop where
  at_ : wr.heap[T]? = some (.cells #[.int .i64 ax, .int .i64 ay] 44 (0, 0))
  be : Below w.heap.size w wr
theorem WInv.drewN {w : World} {T : Nat} {ax ay : Int} {wr : World} (h : WInv w T ax ay wr) (n : Nat) : WInv w T ax ay (wr.drewN n) := ⟨h.at_, below_drewN h.be n⟩
theorem WInv.drew {w : World} {T : Nat} {ax ay : Int} {wr : World} (h : WInv w T ax ay wr) : WInv w T ax ay wr.drew := ⟨h.at_, h.be.drew⟩
theorem WInv.on {w : World} {T : Nat} {ax ay : Int} {wr w' : World} (h : WInv w T ax ay wr) (hb : Below wr.heap.size wr w') : WInv w T ax ay w' := ⟨(hb.block T (blk_lt h.at_)).trans h.at_, h.be.trans (hb.mono h.be.size)⟩
theorem WInv.lt {w : World} {T : Nat} {ax ay : Int} {wr : World} (h : WInv w T ax ay wr) : T < wr.heap.size := blk_lt h.at_
theorem WInv.putX {w : World} {T : Nat} {ax ay : Int} {wr : World} (h : WInv w T ax ay wr) (hT : w.heap.size ≤ T) (z : Int) : WInv w T z ay (wr.setCell ⟨T, 0, none⟩ (.int .i64 z)) := ⟨blk_put (j := 0) h.at_ _, h.be.setCell (p := ⟨T, 0, none⟩) hT _⟩
theorem WInv.putY {w : World} {T : Nat} {ax ay : Int} {wr : World} (h : WInv w T ax ay wr) (hT : w.heap.size ≤ T) (z : Int) : WInv w T ax z (wr.setCell ⟨T, 1, none⟩ (.int .i64 z)) := ⟨blk_put (j := 1) h.at_ _, h.be.setCell (p := ⟨T, 1, none⟩) hT _⟩

theorem rrun_int (z : Int) (c : UInt8) (h0 : 0 ≤ z) (h1 : z ≤ 100000000) (w : World) :
    Calls Tryz.prog 48 #[.int .i64 z, .string ⟨#[c]⟩] w fun e w' => e = .returned (.string ⟨(runB z.toNat c).toArray⟩) ∧ Below w.heap.size w w' := by
  obtain ⟨n, rfl⟩ : ∃ n : Nat, z = (n : Int) := ⟨z.toNat, by omega⟩
  exact rrun_any n c (by omega) w

/-- Few cells in order in a window, the window not too far out. -/
structure FineW (C : List Cel) (X0 Y0 : Int) : Prop where
  x1 : -3000000000000000000 ≤ X0
  x2 : X0 ≤ 3000000000000000000
  y1 : -3000000000000000000 ≤ Y0
  y2 : Y0 ≤ 3000000000000000000
  len : C.length ≤ 100
  win : ∀ c ∈ C, inWin X0 Y0 c
  asc : Asc C
theorem Fine.wide {C : List Cel} {X0 Y0 : Int} (h : Fine C X0 Y0) : FineW C X0 Y0 := by
  have := h.x1; have := h.x2; have := h.y1; have := h.y2
  exact ⟨by omega, by omega, by omega, by omega, h.len, h.win, h.asc⟩
theorem FineW.corn {C : List Cel} {X0 Y0 : Int} (h : FineW C X0 Y0) : inWin X0 Y0 (cornP C) ∨ C = [] := by
  cases C with
  | nil => exact .inr rfl
  | cons c r =>
    obtain ⟨x, y⟩ := c
    have h1 := h.win (x, y) (by simp)
    obtain ⟨g1, g2, g3, g4⟩ := h1
    refine .inl ⟨?_, ?_, g3, g4⟩
    · exact minX_ge _ _ g1 (fun c hc => (h.win c hc).1)
    · exact Int.le_trans (minX_le _ _) g2

set_option maxRecDepth 100000 in
set_option maxHeartbeats 3200000 in
theorem write_row (X0 Y0 : Int) (cap : Nat) (ad : Option Addr) (C : List Cel) (w : World) (B : Nat) (own : w.ownsRow B 44 2 (.slice ad C.length cap) C.length (flatC C)) (hf : FineW C X0 Y0) :
    Calls Tryz.prog 15 #[.slice ad C.length cap] w fun e w' => e = .returned (.string ⟨(plainB C).toArray⟩) ∧ Below w.heap.size w w' := by
  obtain ⟨x1, x2, y1, y2, len, win, asc⟩ := hf
  have hco := FineW.corn ⟨x1, x2, y1, y2, len, win, asc⟩
  have hC := rcorner_any B _ C w own (by omega) asc
  have cornB : -4000000000000000000 ≤ (cornP C).1 ∧ (cornP C).1 ≤ 4000000000000000000 ∧ -4000000000000000000 ≤ (cornP C).2 ∧ (cornP C).2 ≤ 4000000000000000000 := by
    rcases hco with h | rfl
    · obtain ⟨h1, h2, h3, h4⟩ := h; omega
    · simp [cornP]
  have hpos0 := fun k ax ay x y => @pos_next C asc k ax ay x y
  have HPl : Hid (plainB C = headB (cornP C).1 (cornP C).2 ++ (segRun (cornP C).1 (cornP C).2 (segs C)).2 ++ [33]) := rfl
  have hwin : ∀ {x y : Int} {k : Nat}, C[k]? = some (x, y) → inWin X0 Y0 (cornP C) ∧ inWin X0 Y0 (x, y) := fun hk => ⟨by
    rcases hco with h | rfl
    · exact h
    · simp at hk, win _ (List.mem_of_getElem? hk)⟩
  obtain ⟨cx, hcx⟩ : ∃ cx, (cornP C).1 = cx := ⟨_, rfl⟩
  obtain ⟨cy, hcy⟩ : ∃ cy, (cornP C).2 = cy := ⟨_, rfl⟩
  have hcc : cornP C = (cx, cy) := by rw [← hcx, ← hcy]
  rw [hcx, hcy] at hC cornB HPl
  simp only [hcx, hcy] at hpos0
  rw [hcc] at hco
  simp only [hcc] at hwin
  clear hcx hcy hcc
  have lx := Lib.itoa_length_le cx (by omega) (by omega)
  have ly := Lib.itoa_length_le cy (by omega) (by omega)
  have hDx := fun w => decimal_any cx (by omega) (by omega) w
  have hDy := fun w => decimal_any cy (by omega) (by omega) w
  obtain ⟨Lx, hLx⟩ : ∃ Lx, Lib.itoa cx = Lx := ⟨_, rfl⟩
  obtain ⟨Ly, hLy⟩ : ∃ Ly, Lib.itoa cy = Ly := ⟨_, rfl⟩
  have hhd : headB cx cy = Lx ++ [32] ++ Ly ++ [32] := by rw [headB, hLx, hLy]
  rw [hLx] at lx
  rw [hLy] at ly
  simp only [hLx] at hDx
  simp only [hLy] at hDy
  rw [hhd] at HPl
  clear hLx hLy hhd
  go_enter Tryz.func15, Tryz.ntmps15
  go_wp2_with (first
    | (go_at_call 46; refine hC.mono ?_; rintro e w1 ⟨rfl, b1⟩; clear hC; have s1 := b1.size; obtain ⟨T, hT⟩ : ∃ T, w1.heap.size = T := ⟨_, rfl⟩; rw [hT] at s1; have B1 := b1.alloc (by omega) (.cells #[.int .i64 cx, .int .i64 cy] 44); have t1 : (w1.alloc (.cells #[.int .i64 cx, .int .i64 cy] 44)).heap[T]? = some (.cells #[.int .i64 cx, .int .i64 cy] 44 (0, 0)) := by rw [← hT]; exact blk_new w1 _)
    | (go_at_call_of 47 (Value.int IntKind.i64 cx); refine (hDx _).mono ?_; rintro e w2 ⟨rfl, b2⟩; clear hDx; have I2 : WInv w T cx cy w2 := (⟨t1, B1⟩ : WInv w T cx cy _).on b2; have q20 := cell_of I2.at_ 0; have q21 := cell_of I2.at_ 1)
    | (go_at_call_of 47 (Value.int IntKind.i64 cy); refine (hDy _).mono ?_; rintro e w3 ⟨rfl, b3⟩; clear hDy; have I3 : WInv w T cx cy w3 := I2.on b3; have q30 := cell_of I3.at_ 0; have q31 := cell_of I3.at_ 1))
  have hH : (Lx ++ [32] ++ Ly ++ [32]).length ≤ 44 := by simp; omega
  have hs0 : (⟨Lx.toArray⟩ ++ ⟨#[32]⟩ ++ ⟨Ly.toArray⟩ ++ ⟨#[32]⟩ : ByteArray) = ⟨(Lx ++ [32] ++ Ly ++ [32]).toArray⟩ := by rw [bytes_snoc, bytes_cat, bytes_snoc]
  obtain ⟨H0, hH0⟩ : ∃ H0, Lx ++ [32] ++ Ly ++ [32] = H0 := ⟨_, rfl⟩
  rw [hH0] at hH HPl hs0
  rw [hs0]
  clear hH0 hs0 b1 B1 t1 b2 I2 q20 q21 b3 q30 q31 hT
  go_loopg [6, 8] C.length (fun g' vs vi wr => ∃ (k : Nat) (pre : List (Seg X0 Y0)) (ax ay : Int) (Lr : List UInt8), k ≤ C.length ∧ g' = C.length - k ∧ vi = .int .i64 (k : Int) ∧ vs = .string ⟨(H0 ++ Lr).toArray⟩ ∧ WInv w T ax ay wr ∧ pre.length ≤ k ∧ Hid (Done C pre k) ∧ Hid (segRun cx cy (pre.map (·.1)) = ((ax, ay), Lr)) ∧ Hid (PosAt C cx cy k ax ay))
  case atStart => exact ⟨0, [], cx, cy, [], Nat.zero_le _, rfl, rfl, by rw [List.append_nil], I3, Nat.zero_le _, by simp [Hid, Done], rfl, .inl ⟨rfl, rfl, rfl⟩⟩
  case round =>
    obtain ⟨k, pre, ax, ay, Lr, hk, rfl, rfl, rfl, hI, hpl, hdo, hst, hpo⟩ := hrel
    clear I3
    have q0 := cell_of hI.at_ 0
    have q1 := cell_of hI.at_ 1
    have z0 := frz_of hI.at_ 0
    have z1 := frz_of hI.at_ 1
    by_cases hlt : k < C.length
    · have hdc : decide ((k : Int) < (C.length : Int)) = true := decide_eq_true (by omega)
      obtain ⟨⟨x, y⟩, hs⟩ : ∃ s, C[k]? = some s := ⟨C[k], by simp [hlt]⟩
      obtain ⟨hw1, hw2⟩ := hwin hs
      have hps := hpos0 k ax ay x y hpo.out hs
      have so := segRun_ok hw1 pre
      rw [hst.out] at so
      obtain ⟨so1, so2, so3, so4, so5⟩ := so
      obtain ⟨u1, u2, u3, u4⟩ := id hw2
      obtain ⟨v1, v2, v3, v4⟩ := id hw1
      simp only at so1 so2 so3 so4 so5 u1 u2 u3 u4 v1 v2 v3 v4
      have hLr : Lr.length ≤ 40000000000 := Nat.le_trans so5 (Nat.mul_le_mul_right _ (by omega : pre.length ≤ 100))
      rcases cells_cases own with ⟨_, hnil⟩ | ⟨g, cap', ev, hS, hg⟩
      · rw [hnil] at hlt; simp at hlt
      cases ev
      obtain ⟨d0, d1⟩ := (hS.below hI.be hg).get k _ hs
      simp only at d0 d1
      by_cases hdn : ay < y
      · have hdd : decide (ay < y) = true := decide_eq_true hdn
        have HDn : Hid (ay < y) := hdn
        have hax : cx ≤ x := hps.2.2
        have hwr : IntKind.i64.wrap (y - ay) = y - ay := IntWalk.i64_in _ ⟨by omega, by omega⟩
        go_wp2
        go_quiet (fail)
        go_wp2
        go_cut [9] from 40 to 48 (fun v9 wx => v9 = .string ⟨(runB (y - ay).toNat 36).toArray⟩ ∧ WInv w T ax ay wx)
        case first =>
          go_region_with (go_at_call 48; refine (rrun_int (y - ay) 36 (by omega) (by omega) _).mono ?_; rintro e w4 ⟨rfl, b4⟩)
          all_goals
            go_wp2_with fail
            go_meet
            case rel => exact ⟨rfl, WInv.on (by first | exact hI | exact hI.drewN _ | exact (hI.drewN _).drew | exact (hI.drewN _).drew.drew | exact (hI.drewN _).drew.drew.drew) b4⟩
        case rest =>
          obtain ⟨rfl, I4⟩ := hcut
          have l1 := runB_len (y - ay).toNat 36
          obtain ⟨R1, hR1⟩ : ∃ R1, runB (y - ay).toNat 36 = R1 := ⟨_, rfl⟩
          rw [hR1] at l1
          rw [hR1]
          have HR1 : Hid (runB (y - ay).toNat 36 = R1) := hR1
          clear hR1 q0 q1 z0 z1 d0 d1
          have q0 := cell_of I4.at_ 0
          have q1 := cell_of I4.at_ 1
          have z0 := frz_of I4.at_ 0
          have z1 := frz_of I4.at_ 1
          obtain ⟨d0, d1⟩ := (hS.below I4.be hg).get k _ hs
          simp only at d0 d1
          go_wp2
          have I5 := (I4.putX s1 cx).putY s1 y
          rw [bytes_cat]
          obtain ⟨Wd, hWd⟩ : ∃ Wd, (wc.setCell ⟨T, 0, none⟩ (.int .i64 cx)).setCell ⟨T, 1, none⟩ (.int .i64 y) = Wd := ⟨_, rfl⟩
          rw [hWd] at I5
          rw [hWd]
          have hQl : (H0 ++ Lr ++ R1).length ≤ 44 + 40000000000 + 100000000000 := by rw [List.length_append, List.length_append]; omega
          obtain ⟨Q1, hQ1⟩ : ∃ Q1, H0 ++ Lr ++ R1 = Q1 := ⟨_, rfl⟩
          rw [hQ1] at hQl
          rw [hQ1]
          have HQ1 : Hid (H0 ++ Lr ++ R1 = Q1) := hQ1
          clear hWd I4 hI hQ1
          go_loopw [10] (fun vn wy => ∃ m : Nat, 1 ≤ m ∧ k + m ≤ C.length ∧ vn = .int .i64 (m : Int) ∧ WInv w T cx y wy ∧ Hid (∀ t : Nat, t < m → C[k + t]? = some (x + (t : Int), y))) (fun vn _ => C.length - (intOf vn).toNat)
          case atStart =>
            refine ⟨1, Nat.le_refl _, by omega, rfl, I5, fun t ht => ?_⟩
            obtain rfl : t = 0 := by omega
            simpa using hs
          case round =>
            clear I5 q0 q1 z0 z1 d0 d1
            obtain ⟨m, hm1, hm2, rfl, hIy, hrun⟩ := hrel
            have q0 := cell_of hIy.at_ 0
            have q1 := cell_of hIy.at_ 1
            have z0 := frz_of hIy.at_ 0
            have z1 := frz_of hIy.at_ 1
            obtain ⟨d0, d1⟩ := (hS.below hIy.be hg).get k _ hs
            simp only at d0 d1
            by_cases hlt2 : k + m < C.length
            · have hdc2 : decide ((k : Int) + (m : Int) < (C.length : Int)) = true := decide_eq_true (by omega)
              obtain ⟨⟨x', y'⟩, hs'⟩ : ∃ s, C[k + m]? = some s := ⟨C[k + m], by simp [hlt2]⟩
              obtain ⟨e0, e1⟩ := (hS.below hIy.be hg).get (k + m) _ hs'
              simp only at e0 e1
              by_cases hy : y = y'
              · by_cases hx : x' = x + (m : Int)
                · subst hy hx
                  have HR : Hid (∀ t : Nat, t < m + 1 → C[k + t]? = some (x + (t : Int), y)) := fun t ht => by
                    by_cases e : t = m
                    · subst e; exact hs'
                    · exact hrun.out t (by omega)
                  clear hs'
                  go_wp2
                  go_quiet (fail)
                  go_wp2
                  go_roundw
                  case rel => exact ⟨m + 1, by omega, by omega, by go_num, hIy.drewN _, HR.out⟩
                  case measure => simp [intOf]; omega
                · have hnx : C[k + m]? ≠ some (x + (m : Int), y) := by rw [hs']; intro e; cases e; exact hx rfl
                  have hxe : (x' == x + (m : Int)) = false := by simpa using hx
                  subst hy
                  clear hs' hx
                  have hok : okSeg X0 Y0 (x, y, (m : Int)) := ⟨hw2, by simp; omega, by simp; omega⟩
                  have HD : Hid (Done C (pre ++ [⟨(x, y, (m : Int)), hok⟩]) (k + m)) := done_step' hdo.out hm1 hrun.out hnx ⟨(x, y, (m : Int)), hok⟩ rfl
                  have hlast := hrun.out (m - 1) (by omega)
                  have HP : Hid (PosAt C cx cy (k + m) (x + (m : Int)) y) := .inr ⟨by omega, x + ((m - 1 : Nat) : Int), y, by rw [show k + m - 1 = k + (m - 1) by omega]; exact hlast, by omega, rfl⟩
                  have hwr2 : IntKind.i64.wrap (x - cx) = x - cx := IntWalk.i64_in _ ⟨by omega, by omega⟩
                  clear hlast hnx
                  go_wp2
                  go_quiet (fail)
                  go_wp2
                  go_cut [11] from 99 to 107 (fun v11 wx => v11 = .string ⟨(runB (x - cx).toNat 98).toArray⟩ ∧ WInv w T cx y wx)
                  case first =>
                    go_region_with (go_at_call 48; refine (rrun_int (x - cx) 98 (by omega) (by omega) _).mono ?_; rintro e w4 ⟨rfl, b4⟩)
                    all_goals
                      go_wp2_with fail
                      go_meet
                      case rel => exact ⟨rfl, WInv.on (by first | exact hIy | exact hIy.drewN _ | exact (hIy.drewN _).drew | exact (hIy.drewN _).drew.drew | exact (hIy.drewN _).drew.drew.drew) b4⟩
                  case rest =>
                    obtain ⟨rfl, I6⟩ := hcut
                    have hR := fun w => rrun_int (m : Int) 111 (by omega) (by omega) w
                    have l2 := runB_len (x - cx).toNat 98
                    have l3 := runB_len (m : Int).toNat 111
                    obtain ⟨R2, hR2⟩ : ∃ R2, runB (x - cx).toNat 98 = R2 := ⟨_, rfl⟩
                    obtain ⟨R3, hR3⟩ : ∃ R3, runB (m : Int).toNat 111 = R3 := ⟨_, rfl⟩
                    rw [hR2] at l2
                    rw [hR3] at l3
                    simp only [hR3] at hR
                    rw [hR2]
                    have HR2 : Hid (runB (x - cx).toNat 98 = R2) := hR2
                    have HR3 : Hid (runB (m : Int).toNat 111 = R3) := hR3
                    clear hR2 hR3 hIy q0 q1 z0 z1 d0 d1
                    go_wp2_with (go_at_call 48; refine (hR _).mono ?_; rintro e w7 ⟨rfl, b7⟩; have I7 := I6.on b7; have q0 := cell_of I7.at_ 0; have q1 := cell_of I7.at_ 1; have z0 := frz_of I7.at_ 0; have z1 := frz_of I7.at_ 1; obtain ⟨d0, d1⟩ := (hS.below I7.be hg).get k _ hs; simp only at d0 d1)
                    go_roundg (C.length - (k + m))
                    case measure => omega
                    case rel =>
                      refine ⟨k + m, pre ++ [⟨(x, y, (m : Int)), hok⟩], x + (m : Int), y, Lr ++ R1 ++ R2 ++ R3, by omega, rfl, by go_num, ?_, I7.putX s1 _, by simp; omega, HD, ?_, HP⟩
                      · refine ret_str' ?_
                        rw [bytes_cat, bytes_cat, ← HQ1.out]
                        simp
                      · show _ = _
                        have hR2 := HR2.out
                        have hR3 := HR3.out
                        rw [List.map_append, List.map_cons, List.map_nil, segRun_snoc, hst.out]
                        simp only [segGo]
                        rw [if_pos HDn.out, ← HR1.out, ← hR2, ← hR3]; simp
              · have hnx : C[k + m]? ≠ some (x + (m : Int), y) := by rw [hs']; intro e; cases e; exact hy rfl
                have hye : (y' == y) = false := by simp; exact fun e => hy e.symm
                clear hs' hy
                have hok : okSeg X0 Y0 (x, y, (m : Int)) := ⟨hw2, by simp; omega, by simp; omega⟩
                have HD : Hid (Done C (pre ++ [⟨(x, y, (m : Int)), hok⟩]) (k + m)) := done_step' hdo.out hm1 hrun.out hnx ⟨(x, y, (m : Int)), hok⟩ rfl
                have hlast := hrun.out (m - 1) (by omega)
                have HP : Hid (PosAt C cx cy (k + m) (x + (m : Int)) y) := .inr ⟨by omega, x + ((m - 1 : Nat) : Int), y, by rw [show k + m - 1 = k + (m - 1) by omega]; exact hlast, by omega, rfl⟩
                have hwr2 : IntKind.i64.wrap (x - cx) = x - cx := IntWalk.i64_in _ ⟨by omega, by omega⟩
                clear hlast hnx
                go_wp2
                go_quiet (fail)
                go_wp2
                go_cut [11] from 99 to 107 (fun v11 wx => v11 = .string ⟨(runB (x - cx).toNat 98).toArray⟩ ∧ WInv w T cx y wx)
                case first =>
                  go_region_with (go_at_call 48; refine (rrun_int (x - cx) 98 (by omega) (by omega) _).mono ?_; rintro e w4 ⟨rfl, b4⟩)
                  all_goals
                    go_wp2_with fail
                    go_meet
                    case rel => exact ⟨rfl, WInv.on (by first | exact hIy | exact hIy.drewN _ | exact (hIy.drewN _).drew | exact (hIy.drewN _).drew.drew | exact (hIy.drewN _).drew.drew.drew) b4⟩
                case rest =>
                  obtain ⟨rfl, I6⟩ := hcut
                  have hR := fun w => rrun_int (m : Int) 111 (by omega) (by omega) w
                  have l2 := runB_len (x - cx).toNat 98
                  have l3 := runB_len (m : Int).toNat 111
                  obtain ⟨R2, hR2⟩ : ∃ R2, runB (x - cx).toNat 98 = R2 := ⟨_, rfl⟩
                  obtain ⟨R3, hR3⟩ : ∃ R3, runB (m : Int).toNat 111 = R3 := ⟨_, rfl⟩
                  rw [hR2] at l2
                  rw [hR3] at l3
                  simp only [hR3] at hR
                  rw [hR2]
                  have HR2 : Hid (runB (x - cx).toNat 98 = R2) := hR2
                  have HR3 : Hid (runB (m : Int).toNat 111 = R3) := hR3
                  clear hR2 hR3 hIy q0 q1 z0 z1 d0 d1
                  go_wp2_with (go_at_call 48; refine (hR _).mono ?_; rintro e w7 ⟨rfl, b7⟩; have I7 := I6.on b7; have q0 := cell_of I7.at_ 0; have q1 := cell_of I7.at_ 1; have z0 := frz_of I7.at_ 0; have z1 := frz_of I7.at_ 1; obtain ⟨d0, d1⟩ := (hS.below I7.be hg).get k _ hs; simp only at d0 d1)
                  go_roundg (C.length - (k + m))
                  case measure => omega
                  case rel =>
                    refine ⟨k + m, pre ++ [⟨(x, y, (m : Int)), hok⟩], x + (m : Int), y, Lr ++ R1 ++ R2 ++ R3, by omega, rfl, by go_num, ?_, I7.putX s1 _, by simp; omega, HD, ?_, HP⟩
                    · refine ret_str' ?_
                      rw [bytes_cat, bytes_cat, ← HQ1.out]
                      simp
                    · show _ = _
                      have hR2 := HR2.out
                      have hR3 := HR3.out
                      rw [List.map_append, List.map_cons, List.map_nil, segRun_snoc, hst.out]
                      simp only [segGo]
                      rw [if_pos HDn.out, ← HR1.out, ← hR2, ← hR3]; simp
            · have hdc2 : decide ((k : Int) + (m : Int) < (C.length : Int)) = false := decide_eq_false (by omega)
              have hnx : C[k + m]? ≠ some (x + (m : Int), y) := by rw [List.getElem?_eq_none (by omega)]; simp
              have hok : okSeg X0 Y0 (x, y, (m : Int)) := ⟨hw2, by simp; omega, by simp; omega⟩
              have HD : Hid (Done C (pre ++ [⟨(x, y, (m : Int)), hok⟩]) (k + m)) := done_step' hdo.out hm1 hrun.out hnx ⟨(x, y, (m : Int)), hok⟩ rfl
              have hlast := hrun.out (m - 1) (by omega)
              have HP : Hid (PosAt C cx cy (k + m) (x + (m : Int)) y) := .inr ⟨by omega, x + ((m - 1 : Nat) : Int), y, by rw [show k + m - 1 = k + (m - 1) by omega]; exact hlast, by omega, rfl⟩
              have hwr2 : IntKind.i64.wrap (x - cx) = x - cx := IntWalk.i64_in _ ⟨by omega, by omega⟩
              clear hlast hnx
              go_wp2
              go_quiet (fail)
              go_wp2
              go_cut [11] from 99 to 107 (fun v11 wx => v11 = .string ⟨(runB (x - cx).toNat 98).toArray⟩ ∧ WInv w T cx y wx)
              case first =>
                go_region_with (go_at_call 48; refine (rrun_int (x - cx) 98 (by omega) (by omega) _).mono ?_; rintro e w4 ⟨rfl, b4⟩)
                all_goals
                  go_wp2_with fail
                  go_meet
                  case rel => exact ⟨rfl, WInv.on (by first | exact hIy | exact hIy.drewN _ | exact (hIy.drewN _).drew | exact (hIy.drewN _).drew.drew | exact (hIy.drewN _).drew.drew.drew) b4⟩
              case rest =>
                obtain ⟨rfl, I6⟩ := hcut
                have hR := fun w => rrun_int (m : Int) 111 (by omega) (by omega) w
                have l2 := runB_len (x - cx).toNat 98
                have l3 := runB_len (m : Int).toNat 111
                obtain ⟨R2, hR2⟩ : ∃ R2, runB (x - cx).toNat 98 = R2 := ⟨_, rfl⟩
                obtain ⟨R3, hR3⟩ : ∃ R3, runB (m : Int).toNat 111 = R3 := ⟨_, rfl⟩
                rw [hR2] at l2
                rw [hR3] at l3
                simp only [hR3] at hR
                rw [hR2]
                have HR2 : Hid (runB (x - cx).toNat 98 = R2) := hR2
                have HR3 : Hid (runB (m : Int).toNat 111 = R3) := hR3
                clear hR2 hR3 hIy q0 q1 z0 z1 d0 d1
                go_wp2_with (go_at_call 48; refine (hR _).mono ?_; rintro e w7 ⟨rfl, b7⟩; have I7 := I6.on b7; have q0 := cell_of I7.at_ 0; have q1 := cell_of I7.at_ 1; have z0 := frz_of I7.at_ 0; have z1 := frz_of I7.at_ 1; obtain ⟨d0, d1⟩ := (hS.below I7.be hg).get k _ hs; simp only at d0 d1)
                go_roundg (C.length - (k + m))
                case measure => omega
                case rel =>
                  refine ⟨k + m, pre ++ [⟨(x, y, (m : Int)), hok⟩], x + (m : Int), y, Lr ++ R1 ++ R2 ++ R3, by omega, rfl, by go_num, ?_, I7.putX s1 _, by simp; omega, HD, ?_, HP⟩
                  · refine ret_str' ?_
                    rw [bytes_cat, bytes_cat, ← HQ1.out]
                    simp
                  · show _ = _
                    have hR2 := HR2.out
                    have hR3 := HR3.out
                    rw [List.map_append, List.map_cons, List.map_nil, segRun_snoc, hst.out]
                    simp only [segGo]
                    rw [if_pos HDn.out, ← HR1.out, ← hR2, ← hR3]; simp
      · have hdd : decide (ay < y) = false := decide_eq_false hdn
        obtain rfl : y = ay := by omega
        have hax : ax ≤ x := hps.2.1 rfl
        have I5 := hI
        go_wp2
        go_quiet (fail)
        go_wp2
        have I5 := hI.drewN nq
        have hQl : (H0 ++ Lr).length ≤ 44 + 40000000000 + 100000000000 := by rw [List.length_append]; omega
        obtain ⟨Q1, hQ1⟩ : ∃ Q1, H0 ++ Lr = Q1 := ⟨_, rfl⟩
        rw [hQ1] at hQl
        rw [hQ1]
        have HQ1 : Hid (H0 ++ Lr = Q1) := hQ1
        clear hI hQ1
        go_loopw [10] (fun vn wy => ∃ m : Nat, 1 ≤ m ∧ k + m ≤ C.length ∧ vn = .int .i64 (m : Int) ∧ WInv w T ax y wy ∧ Hid (∀ t : Nat, t < m → C[k + t]? = some (x + (t : Int), y))) (fun vn _ => C.length - (intOf vn).toNat)
        case atStart =>
          refine ⟨1, Nat.le_refl _, by omega, rfl, I5, fun t ht => ?_⟩
          obtain rfl : t = 0 := by omega
          simpa using hs
        case round =>
          clear I5 q0 q1 z0 z1 d0 d1
          obtain ⟨m, hm1, hm2, rfl, hIy, hrun⟩ := hrel
          have q0 := cell_of hIy.at_ 0
          have q1 := cell_of hIy.at_ 1
          have z0 := frz_of hIy.at_ 0
          have z1 := frz_of hIy.at_ 1
          obtain ⟨d0, d1⟩ := (hS.below hIy.be hg).get k _ hs
          simp only at d0 d1
          by_cases hlt2 : k + m < C.length
          · have hdc2 : decide ((k : Int) + (m : Int) < (C.length : Int)) = true := decide_eq_true (by omega)
            obtain ⟨⟨x', y'⟩, hs'⟩ : ∃ s, C[k + m]? = some s := ⟨C[k + m], by simp [hlt2]⟩
            obtain ⟨e0, e1⟩ := (hS.below hIy.be hg).get (k + m) _ hs'
            simp only at e0 e1
            by_cases hy : y = y'
            · by_cases hx : x' = x + (m : Int)
              · subst hy hx
                have HR : Hid (∀ t : Nat, t < m + 1 → C[k + t]? = some (x + (t : Int), y)) := fun t ht => by
                  by_cases e : t = m
                  · subst e; exact hs'
                  · exact hrun.out t (by omega)
                clear hs'
                go_wp2
                go_quiet (fail)
                go_wp2
                go_roundw
                case rel => exact ⟨m + 1, by omega, by omega, by go_num, hIy.drewN _, HR.out⟩
                case measure => simp [intOf]; omega
              · have hnx : C[k + m]? ≠ some (x + (m : Int), y) := by rw [hs']; intro e; cases e; exact hx rfl
                have hxe : (x' == x + (m : Int)) = false := by simpa using hx
                subst hy
                clear hs' hx
                have hok : okSeg X0 Y0 (x, y, (m : Int)) := ⟨hw2, by simp; omega, by simp; omega⟩
                have HD : Hid (Done C (pre ++ [⟨(x, y, (m : Int)), hok⟩]) (k + m)) := done_step' hdo.out hm1 hrun.out hnx ⟨(x, y, (m : Int)), hok⟩ rfl
                have hlast := hrun.out (m - 1) (by omega)
                have HP : Hid (PosAt C cx cy (k + m) (x + (m : Int)) y) := .inr ⟨by omega, x + ((m - 1 : Nat) : Int), y, by rw [show k + m - 1 = k + (m - 1) by omega]; exact hlast, by omega, rfl⟩
                have hwr2 : IntKind.i64.wrap (x - ax) = x - ax := IntWalk.i64_in _ ⟨by omega, by omega⟩
                clear hlast hnx
                go_wp2
                go_quiet (fail)
                go_wp2
                go_cut [11] from 99 to 107 (fun v11 wx => v11 = .string ⟨(runB (x - ax).toNat 98).toArray⟩ ∧ WInv w T ax y wx)
                case first =>
                  go_region_with (go_at_call 48; refine (rrun_int (x - ax) 98 (by omega) (by omega) _).mono ?_; rintro e w4 ⟨rfl, b4⟩)
                  all_goals
                    go_wp2_with fail
                    go_meet
                    case rel => exact ⟨rfl, WInv.on (by first | exact hIy | exact hIy.drewN _ | exact (hIy.drewN _).drew | exact (hIy.drewN _).drew.drew | exact (hIy.drewN _).drew.drew.drew) b4⟩
                case rest =>
                  obtain ⟨rfl, I6⟩ := hcut
                  have hR := fun w => rrun_int (m : Int) 111 (by omega) (by omega) w
                  have l2 := runB_len (x - ax).toNat 98
                  have l3 := runB_len (m : Int).toNat 111
                  obtain ⟨R2, hR2⟩ : ∃ R2, runB (x - ax).toNat 98 = R2 := ⟨_, rfl⟩
                  obtain ⟨R3, hR3⟩ : ∃ R3, runB (m : Int).toNat 111 = R3 := ⟨_, rfl⟩
                  rw [hR2] at l2
                  rw [hR3] at l3
                  simp only [hR3] at hR
                  rw [hR2]
                  have HR2 : Hid (runB (x - ax).toNat 98 = R2) := hR2
                  have HR3 : Hid (runB (m : Int).toNat 111 = R3) := hR3
                  clear hR2 hR3 hIy q0 q1 z0 z1 d0 d1
                  go_wp2_with (go_at_call 48; refine (hR _).mono ?_; rintro e w7 ⟨rfl, b7⟩; have I7 := I6.on b7; have q0 := cell_of I7.at_ 0; have q1 := cell_of I7.at_ 1; have z0 := frz_of I7.at_ 0; have z1 := frz_of I7.at_ 1; obtain ⟨d0, d1⟩ := (hS.below I7.be hg).get k _ hs; simp only at d0 d1)
                  go_roundg (C.length - (k + m))
                  case measure => omega
                  case rel =>
                    refine ⟨k + m, pre ++ [⟨(x, y, (m : Int)), hok⟩], x + (m : Int), y, Lr ++ R2 ++ R3, by omega, rfl, by go_num, ?_, I7.putX s1 _, by simp; omega, HD, ?_, HP⟩
                    · refine ret_str' ?_
                      rw [bytes_cat, bytes_cat, ← HQ1.out]
                      simp
                    · show _ = _
                      have hR2 := HR2.out
                      have hR3 := HR3.out
                      rw [List.map_append, List.map_cons, List.map_nil, segRun_snoc, hst.out]
                      simp only [segGo]
                      rw [if_neg (Int.lt_irrefl y), ← hR2, ← hR3]
            · have hnx : C[k + m]? ≠ some (x + (m : Int), y) := by rw [hs']; intro e; cases e; exact hy rfl
              have hye : (y' == y) = false := by simp; exact fun e => hy e.symm
              clear hs' hy
              have hok : okSeg X0 Y0 (x, y, (m : Int)) := ⟨hw2, by simp; omega, by simp; omega⟩
              have HD : Hid (Done C (pre ++ [⟨(x, y, (m : Int)), hok⟩]) (k + m)) := done_step' hdo.out hm1 hrun.out hnx ⟨(x, y, (m : Int)), hok⟩ rfl
              have hlast := hrun.out (m - 1) (by omega)
              have HP : Hid (PosAt C cx cy (k + m) (x + (m : Int)) y) := .inr ⟨by omega, x + ((m - 1 : Nat) : Int), y, by rw [show k + m - 1 = k + (m - 1) by omega]; exact hlast, by omega, rfl⟩
              have hwr2 : IntKind.i64.wrap (x - ax) = x - ax := IntWalk.i64_in _ ⟨by omega, by omega⟩
              clear hlast hnx
              go_wp2
              go_quiet (fail)
              go_wp2
              go_cut [11] from 99 to 107 (fun v11 wx => v11 = .string ⟨(runB (x - ax).toNat 98).toArray⟩ ∧ WInv w T ax y wx)
              case first =>
                go_region_with (go_at_call 48; refine (rrun_int (x - ax) 98 (by omega) (by omega) _).mono ?_; rintro e w4 ⟨rfl, b4⟩)
                all_goals
                  go_wp2_with fail
                  go_meet
                  case rel => exact ⟨rfl, WInv.on (by first | exact hIy | exact hIy.drewN _ | exact (hIy.drewN _).drew | exact (hIy.drewN _).drew.drew | exact (hIy.drewN _).drew.drew.drew) b4⟩
              case rest =>
                obtain ⟨rfl, I6⟩ := hcut
                have hR := fun w => rrun_int (m : Int) 111 (by omega) (by omega) w
                have l2 := runB_len (x - ax).toNat 98
                have l3 := runB_len (m : Int).toNat 111
                obtain ⟨R2, hR2⟩ : ∃ R2, runB (x - ax).toNat 98 = R2 := ⟨_, rfl⟩
                obtain ⟨R3, hR3⟩ : ∃ R3, runB (m : Int).toNat 111 = R3 := ⟨_, rfl⟩
                rw [hR2] at l2
                rw [hR3] at l3
                simp only [hR3] at hR
                rw [hR2]
                have HR2 : Hid (runB (x - ax).toNat 98 = R2) := hR2
                have HR3 : Hid (runB (m : Int).toNat 111 = R3) := hR3
                clear hR2 hR3 hIy q0 q1 z0 z1 d0 d1
                go_wp2_with (go_at_call 48; refine (hR _).mono ?_; rintro e w7 ⟨rfl, b7⟩; have I7 := I6.on b7; have q0 := cell_of I7.at_ 0; have q1 := cell_of I7.at_ 1; have z0 := frz_of I7.at_ 0; have z1 := frz_of I7.at_ 1; obtain ⟨d0, d1⟩ := (hS.below I7.be hg).get k _ hs; simp only at d0 d1)
                go_roundg (C.length - (k + m))
                case measure => omega
                case rel =>
                  refine ⟨k + m, pre ++ [⟨(x, y, (m : Int)), hok⟩], x + (m : Int), y, Lr ++ R2 ++ R3, by omega, rfl, by go_num, ?_, I7.putX s1 _, by simp; omega, HD, ?_, HP⟩
                  · refine ret_str' ?_
                    rw [bytes_cat, bytes_cat, ← HQ1.out]
                    simp
                  · show _ = _
                    have hR2 := HR2.out
                    have hR3 := HR3.out
                    rw [List.map_append, List.map_cons, List.map_nil, segRun_snoc, hst.out]
                    simp only [segGo]
                    rw [if_neg (Int.lt_irrefl y), ← hR2, ← hR3]
          · have hdc2 : decide ((k : Int) + (m : Int) < (C.length : Int)) = false := decide_eq_false (by omega)
            have hnx : C[k + m]? ≠ some (x + (m : Int), y) := by rw [List.getElem?_eq_none (by omega)]; simp
            have hok : okSeg X0 Y0 (x, y, (m : Int)) := ⟨hw2, by simp; omega, by simp; omega⟩
            have HD : Hid (Done C (pre ++ [⟨(x, y, (m : Int)), hok⟩]) (k + m)) := done_step' hdo.out hm1 hrun.out hnx ⟨(x, y, (m : Int)), hok⟩ rfl
            have hlast := hrun.out (m - 1) (by omega)
            have HP : Hid (PosAt C cx cy (k + m) (x + (m : Int)) y) := .inr ⟨by omega, x + ((m - 1 : Nat) : Int), y, by rw [show k + m - 1 = k + (m - 1) by omega]; exact hlast, by omega, rfl⟩
            have hwr2 : IntKind.i64.wrap (x - ax) = x - ax := IntWalk.i64_in _ ⟨by omega, by omega⟩
            clear hlast hnx
            go_wp2
            go_quiet (fail)
            go_wp2
            go_cut [11] from 99 to 107 (fun v11 wx => v11 = .string ⟨(runB (x - ax).toNat 98).toArray⟩ ∧ WInv w T ax y wx)
            case first =>
              go_region_with (go_at_call 48; refine (rrun_int (x - ax) 98 (by omega) (by omega) _).mono ?_; rintro e w4 ⟨rfl, b4⟩)
              all_goals
                go_wp2_with fail
                go_meet
                case rel => exact ⟨rfl, WInv.on (by first | exact hIy | exact hIy.drewN _ | exact (hIy.drewN _).drew | exact (hIy.drewN _).drew.drew | exact (hIy.drewN _).drew.drew.drew) b4⟩
            case rest =>
              obtain ⟨rfl, I6⟩ := hcut
              have hR := fun w => rrun_int (m : Int) 111 (by omega) (by omega) w
              have l2 := runB_len (x - ax).toNat 98
              have l3 := runB_len (m : Int).toNat 111
              obtain ⟨R2, hR2⟩ : ∃ R2, runB (x - ax).toNat 98 = R2 := ⟨_, rfl⟩
              obtain ⟨R3, hR3⟩ : ∃ R3, runB (m : Int).toNat 111 = R3 := ⟨_, rfl⟩
              rw [hR2] at l2
              rw [hR3] at l3
              simp only [hR3] at hR
              rw [hR2]
              have HR2 : Hid (runB (x - ax).toNat 98 = R2) := hR2
              have HR3 : Hid (runB (m : Int).toNat 111 = R3) := hR3
              clear hR2 hR3 hIy q0 q1 z0 z1 d0 d1
              go_wp2_with (go_at_call 48; refine (hR _).mono ?_; rintro e w7 ⟨rfl, b7⟩; have I7 := I6.on b7; have q0 := cell_of I7.at_ 0; have q1 := cell_of I7.at_ 1; have z0 := frz_of I7.at_ 0; have z1 := frz_of I7.at_ 1; obtain ⟨d0, d1⟩ := (hS.below I7.be hg).get k _ hs; simp only at d0 d1)
              go_roundg (C.length - (k + m))
              case measure => omega
              case rel =>
                refine ⟨k + m, pre ++ [⟨(x, y, (m : Int)), hok⟩], x + (m : Int), y, Lr ++ R2 ++ R3, by omega, rfl, by go_num, ?_, I7.putX s1 _, by simp; omega, HD, ?_, HP⟩
                · refine ret_str' ?_
                  rw [bytes_cat, bytes_cat, ← HQ1.out]
                  simp
                · show _ = _
                  have hR2 := HR2.out
                  have hR3 := HR3.out
                  rw [List.map_append, List.map_cons, List.map_nil, segRun_snoc, hst.out]
                  simp only [segGo]
                  rw [if_neg (Int.lt_irrefl y), ← hR2, ← hR3]
    · have hdc : decide ((k : Int) < (C.length : Int)) = false := decide_eq_false (by omega)
      obtain rfl : k = C.length := by omega
      have HE : Hid (plainB C = H0 ++ Lr ++ [33]) := by
        show _ = _
        have hd := hdo.out
        unfold Done at hd
        rw [List.drop_length] at hd
        simp only [segs, List.append_nil] at hd
        rw [HPl.out, hd, hst.out]
      have hLr : Lr.length ≤ 40000000000 := by
        rcases hco with h | hnil
        · have so := segRun_ok h pre
          rw [hst.out] at so
          exact Nat.le_trans so.2.2.2.2 (Nat.mul_le_mul_right _ (by omega : pre.length ≤ 100))
        · have : pre = [] := List.eq_nil_of_length_eq_zero (by rw [hnil] at hpl; simpa using hpl)
          have hs := hst.out
          rw [this] at hs
          simp [segRun] at hs
          rw [hs.2]; simp
      go_wp2
      go_ret
      exact ⟨ret_str (by rw [HE.out, ← bytes_snoc]), hI.be⟩

/-- The reference's plain text is the program's. -/
theorem write_anyW (X0 Y0 : Int) (B : Nat) (v : Value) (C : List Cel) (w : World) (own : w.ownsRow B 44 2 v C.length (flatC C)) (hf : FineW C X0 Y0) :
    Calls Tryz.prog 15 #[v] w fun e w' => e = .returned (.string ⟨(plainB C).toArray⟩) ∧ Below w.heap.size w w' := by
  obtain ⟨ad, cp, rfl⟩ := row_slice own
  exact write_row X0 Y0 cp ad C w B own hf
theorem write_any (X0 Y0 : Int) (B : Nat) (v : Value) (C : List Cel) (w : World) (own : w.ownsRow B 44 2 v C.length (flatC C)) (hf : Fine C X0 Y0) :
    Calls Tryz.prog 15 #[v] w fun e w' => e = .returned (.string ⟨(plainB C).toArray⟩) ∧ Below w.heap.size w w' :=
  write_anyW X0 Y0 B v C w own hf.wide

end Go.Proofs.YtiohpcnnpmnjhaaGreatDoor
