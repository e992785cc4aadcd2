import Derived.Test.YtiohpcnnpmnjhaaGreatDoorCodeSpec
import Derived.Test.YtiohpcnnpmnjhaaGreatDoorCrsM
import Derived.Test.YtiohpcnnpmnjhaaGreatDoorRefWrite
namespace Go.Proofs.YtiohpcnnpmnjhaaGreatDoor
open Go.RowKit Go.Shelf
set_option linter.unusedVariables false

set_option maxRecDepth 100000 in
set_option maxHeartbeats 3200000 in
theorem refCode_any (f g : Nat → Bool) (C : List Cel) (s p : Nat) (d1 d2 : Int) (gb cg : Nat) (vs : List Value) (w : World) (hp : 1 ≤ p) (hsp : s + p ≤ 200) (hvl : vs.length = s + p + 1) (hgb : gb < w.heap.size) (hget : ∀ (i : Nat) v, vs[i]? = some v → w.cell? ⟨gb, i, none⟩ = some v)
    (hall : ∀ (i : Nat) v, vs[i]? = some v → RowOwn w v (gen f g C i)) (hcod : ∀ i, i ≤ s + p → Codable (gen f g C i)) :
    Calls Tryz.prog 34 #[.slice (some ⟨gb, 0, none⟩) (s + p + 1) cg, .agg #[.int .i64 (s : Int), .int .i64 (p : Int), .int .i64 d1, .int .i64 d2]] w fun e w' => e = .returned (.string (codeT f g C s p)) ∧ Below w.heap.size w w' := by
  have q0 := blk_new w (.cells #[.int .i64 (s : Int), .int .i64 (p : Int), .int .i64 d1, .int .i64 d2] 54)
  have be0 : Below w.heap.size w (w.alloc (.cells #[.int .i64 (s : Int), .int .i64 (p : Int), .int .i64 d1, .int .i64 d2] 54)) := (Below.refl _ _).alloc (Nat.le_refl _) _
  go_enter Tryz.func34, Tryz.ntmps34
  go_wp2
  go_loopw [5, 6] (fun vb vt wr => ∃ k : Nat, k ≤ p ∧ vt = .int .i64 (k : Int) ∧ vb = .string (codeT f g C s k) ∧ Below w.heap.size w wr ∧ wr.heap[w.heap.size]? = some (.cells #[.int .i64 (s : Int), .int .i64 (p : Int), .int .i64 d1, .int .i64 d2] 54 (0, 0))) (fun _ vt _ => p - (intOf vt).toNat)
  case atStart => exact ⟨0, Nat.zero_le _, rfl, rfl, be0, q0⟩
  case round =>
    clear q0 be0
    obtain ⟨k, hkp, rfl, rfl, hbe, hq⟩ := hrel
    have y0 := cell_of hq 0
    have y1 := cell_of hq 1
    by_cases hk : k < p
    · have hdk : decide ((k : Int) < (p : Int)) = true := decide_eq_true (by omega)
      obtain ⟨v, hv⟩ : ∃ v, vs[s + k]? = some v := ⟨vs[s + k]'(by omega), by simp [show s + k < vs.length by omega]⟩
      have hrow0 := hall _ _ hv
      have hcell0 := hget _ _ hv
      obtain ⟨a0, cap0, rfl⟩ := row_slice hrow0
      have hc := hcod (s + k) (by omega)
      obtain ⟨C1, hC1⟩ : ∃ C1, gen f g C (s + k) = C1 := ⟨_, rfl⟩
      have HC1 : Hid (gen f g C (s + k) = C1) := hC1
      rw [hC1] at hrow0 hcell0 hc
      clear hC1 hv
      obtain ⟨b0, hb0⟩ : ∃ b0, codeT f g C s k = b0 := ⟨_, rfl⟩
      have HB0 : Hid (codeT f g C s k = b0) := hb0
      rw [hb0]
      clear hb0
      go_wp2
      go_loopw [5, 7] (fun vb vi wy => ∃ m : Nat, m ≤ 8 ∧ vi = .int .i64 (m : Int) ∧ vb = .string (codeWays C1 b0 m) ∧ Below w.heap.size w wy ∧ wy.heap[w.heap.size]? = some (.cells #[.int .i64 (s : Int), .int .i64 (p : Int), .int .i64 d1, .int .i64 d2] 54 (0, 0))) (fun _ vi _ => 8 - (intOf vi).toNat)
      case atStart => exact ⟨0, by omega, rfl, rfl, hbe, hq⟩
      case round =>
        clear hbe hq y0 y1
        obtain ⟨m, hm8, rfl, rfl, hbe, hq⟩ := hrel
        have y0 := cell_of hq 0
        have y1 := cell_of hq 1
        by_cases hm : m < 8
        · have hdm : decide ((m : Int) < 8) = true := decide_eq_true (by omega)
          have hrow1 : RowOwn wr (.slice a0 C1.length cap0) C1 := rowOwn_on hrow0 hbe
          have hcell1 : wr.cell? ⟨gb, s + k, none⟩ = some (.slice a0 C1.length cap0) := (World.cell?_of_block (hbe.block _ hgb)).trans hcell0
          obtain ⟨ψ, hmt⟩ := mot_turn m
          have hDl : (imgL (turnC m) C1).length ≤ 100 := by rw [hmt.len hc.asc]; exact hc.len
          have hTu := fun (W : World) (r : RowOwn W (.slice a0 C1.length cap0) C1) => rturned_any (.slice a0 C1.length cap0) C1 m hm W (RowAt.of_owns r) (by have := hc.len; omega) hc.turnable
          unfold TurnOut at hTu
          have hDt := turned_turnable hc hm
          have hDa := asc_imgL (turnC m) C1
          have hfi := home_fine hc hm
          obtain ⟨T, hT⟩ : ∃ T, turnT m C1 = T := ⟨_, rfl⟩
          have HS : Hid (codeWays C1 b0 (m + 1) = minT (codeWays C1 b0 m) T) := by show _ = _; rw [codeWays_succ, hT]
          have hT' : (⟨(plainB (homeL (imgL (turnC m) C1))).toArray⟩ : ByteArray) = T := hT
          obtain ⟨D, hD⟩ : ∃ D, imgL (turnC m) C1 = D := ⟨_, rfl⟩
          simp only [hD] at hTu hDl hDt hDa hfi hT'
          obtain ⟨⟨cx, cy⟩, hco⟩ : ∃ c, cornP D = c := ⟨_, rfl⟩
          have hcb : (-4000000000000000000 ≤ cx ∧ cx ≤ 4000000000000000000) ∧ (-4000000000000000000 ≤ cy ∧ cy ≤ 4000000000000000000) := by
            have h := corn_box (a := -4000000000000000000) (b := 4000000000000000000) (c := -4000000000000000000) (d := 4000000000000000000) (C := D) (fun c hc => by have := hDt c hc; omega)
            rcases h with rfl | h
            · rw [show cornP ([] : List Cel) = (0, 0) from rfl] at hco; cases hco; omega
            · rw [hco] at h; simp only at h; omega
          have hFi : Fits (-cx) (-cy) D := fun c hc => by have := hDt c hc; omega
          have hCo := fun v (W : World) (r : RowAt W v D) => rcornerAt v D W r (by omega) hDa
          simp only [hco] at hCo
          have hMo := fun v (W : World) (r : RowAt W v D) => rmoved_any v D (-cx) (-cy) W r (by omega) hFi
          have hE : D.map (sh (-cx) (-cy)) = homeL D := by unfold homeL; rw [hco]
          simp only [hE] at hMo
          have hWr := fun B v W own => write_any 0 0 B v (homeL D) W own hfi
          rw [hT'] at hWr
          clear hT hT' hD hco hE hDt hDa hFi hmt
          generalize homeL D = E at *
          have wx : IntKind.i64.wrap (-cx) = -cx := IntWalk.i64_in _ ⟨by omega, by omega⟩
          have wy : IntKind.i64.wrap (-cy) = -cy := IntWalk.i64_in _ ⟨by omega, by omega⟩
          have hwk : IntKind.i64.wrap ((s : Int) + (k : Int)) = (s : Int) + (k : Int) := IntWalk.i64_in _ ⟨by omega, by omega⟩
          have hlt1 : (s : Int) + (k : Int) < ((s + p + 1 : Nat) : Int) := by omega
          obtain ⟨b1, hb1⟩ : ∃ b1, codeWays C1 b0 m = b1 := ⟨_, rfl⟩
          rw [hb1] at HS ⊢
          clear hb1
          have hlt0 := blk_lt hq
          by_cases hem : b1.toList.isEmpty = true
          · have HN : Hid (codeWays C1 b0 (m + 1) = T) := by show _ = _; rw [HS.out]; unfold minT; rw [if_pos (by rw [hem]; rfl)]
            have hem2 : b1.toList = [] := by simpa using hem
            go_wp2_with (first
            | (go_at_call 24; refine (hTu _ (rowOwn_on hrow1 (Below.refl _ _))).mono ?_; rintro e w1 ⟨⟨v1, rfl, own1⟩, c1⟩; have b1 := hbe.trans (c1.mono hbe.size); obtain ⟨ad1, cp1, rfl⟩ := row_slice own1)
            | (go_at_call 46; refine (hCo _ _ (RowAt.of_owns own1)).mono ?_; rintro e w2 ⟨rfl, c2⟩; have b2 := b1.trans (c2.mono b1.size); have b2' := b2.alloc b2.size (.cells #[.int .i64 cx, .int .i64 cy] 44); have r2 : RowAt (w2.alloc (.cells #[.int .i64 cx, .int .i64 cy] 44)) (.slice ad1 D.length cp1) D := (RowAt.of_owns own1).below (c2.alloc c2.size _))
            | (go_at_call 25; refine (hMo _ _ r2).mono ?_; rintro e w3 ⟨⟨v3, rfl, own3⟩, c3⟩; have b3 := b2'.trans (c3.mono b2'.size))
            | (go_at_call 15; refine (hWr _ _ _ own3).mono ?_; rintro e w4 ⟨rfl, c4⟩; have b4 := b3.trans (c4.mono b3.size)))
            go_roundw
            case rel => exact ⟨m + 1, by omega, by go_num, by rw [HN.out], b4, (c4.block _ (by have := c1.size; have := c2.size; have := c3.size; simp at *; omega)).trans ((c3.block _ (by have := c1.size; have := c2.size; simp; omega)).trans ((Below.heap_alloc w2 _ _ (by have := c1.size; have := c2.size; omega)).trans ((c2.block _ (by have := c1.size; omega)).trans ((c1.block _ hlt0).trans hq))))⟩
            case measure => simp [intOf]; omega
          · have hem' : b1.toList.isEmpty = false := by simpa using hem
            have hem2 : ¬ b1.toList = [] := by simpa using hem
            by_cases hlt : Op.bytesLess T.toList b1.toList = true
            · have HN : Hid (codeWays C1 b0 (m + 1) = T) := by show _ = _; rw [HS.out]; unfold minT; rw [if_pos (by rw [hlt]; simp)]
              go_wp2_with (first
            | (go_at_call 24; refine (hTu _ (rowOwn_on hrow1 (Below.refl _ _))).mono ?_; rintro e w1 ⟨⟨v1, rfl, own1⟩, c1⟩; have b1 := hbe.trans (c1.mono hbe.size); obtain ⟨ad1, cp1, rfl⟩ := row_slice own1)
            | (go_at_call 46; refine (hCo _ _ (RowAt.of_owns own1)).mono ?_; rintro e w2 ⟨rfl, c2⟩; have b2 := b1.trans (c2.mono b1.size); have b2' := b2.alloc b2.size (.cells #[.int .i64 cx, .int .i64 cy] 44); have r2 : RowAt (w2.alloc (.cells #[.int .i64 cx, .int .i64 cy] 44)) (.slice ad1 D.length cp1) D := (RowAt.of_owns own1).below (c2.alloc c2.size _))
            | (go_at_call 25; refine (hMo _ _ r2).mono ?_; rintro e w3 ⟨⟨v3, rfl, own3⟩, c3⟩; have b3 := b2'.trans (c3.mono b2'.size))
            | (go_at_call 15; refine (hWr _ _ _ own3).mono ?_; rintro e w4 ⟨rfl, c4⟩; have b4 := b3.trans (c4.mono b3.size)))
              go_roundw
              case rel => exact ⟨m + 1, by omega, by go_num, by rw [HN.out], b4, (c4.block _ (by have := c1.size; have := c2.size; have := c3.size; simp at *; omega)).trans ((c3.block _ (by have := c1.size; have := c2.size; simp; omega)).trans ((Below.heap_alloc w2 _ _ (by have := c1.size; have := c2.size; omega)).trans ((c2.block _ (by have := c1.size; omega)).trans ((c1.block _ hlt0).trans hq))))⟩
              case measure => simp [intOf]; omega
            · have hlt' : Op.bytesLess T.toList b1.toList = false := by simpa using hlt
              have HN : Hid (codeWays C1 b0 (m + 1) = b1) := by show _ = _; rw [HS.out]; unfold minT; rw [if_neg (by rw [hlt', hem']; simp)]
              go_wp2_with (first
            | (go_at_call 24; refine (hTu _ (rowOwn_on hrow1 (Below.refl _ _))).mono ?_; rintro e w1 ⟨⟨v1, rfl, own1⟩, c1⟩; have b1 := hbe.trans (c1.mono hbe.size); obtain ⟨ad1, cp1, rfl⟩ := row_slice own1)
            | (go_at_call 46; refine (hCo _ _ (RowAt.of_owns own1)).mono ?_; rintro e w2 ⟨rfl, c2⟩; have b2 := b1.trans (c2.mono b1.size); have b2' := b2.alloc b2.size (.cells #[.int .i64 cx, .int .i64 cy] 44); have r2 : RowAt (w2.alloc (.cells #[.int .i64 cx, .int .i64 cy] 44)) (.slice ad1 D.length cp1) D := (RowAt.of_owns own1).below (c2.alloc c2.size _))
            | (go_at_call 25; refine (hMo _ _ r2).mono ?_; rintro e w3 ⟨⟨v3, rfl, own3⟩, c3⟩; have b3 := b2'.trans (c3.mono b2'.size))
            | (go_at_call 15; refine (hWr _ _ _ own3).mono ?_; rintro e w4 ⟨rfl, c4⟩; have b4 := b3.trans (c4.mono b3.size)))
              go_roundw
              case rel => exact ⟨m + 1, by omega, by go_num, by rw [HN.out], b4, (c4.block _ (by have := c1.size; have := c2.size; have := c3.size; simp at *; omega)).trans ((c3.block _ (by have := c1.size; have := c2.size; simp; omega)).trans ((Below.heap_alloc w2 _ _ (by have := c1.size; have := c2.size; omega)).trans ((c2.block _ (by have := c1.size; omega)).trans ((c1.block _ hlt0).trans hq))))⟩
              case measure => simp [intOf]; omega
        · have hdm : decide ((m : Int) < 8) = false := decide_eq_false (by omega)
          obtain rfl : m = 8 := by omega
          have HN : Hid (codeT f g C s (k + 1) = codeWays C1 b0 8) := by show _ = _; rw [codeT_succ, HC1.out, HB0.out]
          go_wp2
          go_roundw
          case rel => exact ⟨k + 1, by omega, by go_num, by rw [HN.out], hbe, hq⟩
          case measure => simp [intOf]; omega
    · have hdk : decide ((k : Int) < (p : Int)) = false := decide_eq_false (by omega)
      obtain rfl : k = p := by omega
      go_wp2
      go_ret
      exact ⟨rfl, hbe⟩

end Go.Proofs.YtiohpcnnpmnjhaaGreatDoor
